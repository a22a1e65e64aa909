/- What the document's own answers for rows come to. Conditions: texts of at most 100,000 bytes, lists of at most 1,000. -/
import Derived.Test.YthpijibcfkcenaaDoorRowPlain
import Derived.Test.YthpijibcfkcenaaDoorWrdRef
import Derived.Test.YthpijibcfkcenaaDoorDecRef2
import Derived.Deep.QuietTactic
import Derived.BigQuiet
import Derived.Laws.OwnMore
import Derived.Deep.RegionLaw
import Derived.Deep.AppendLies
import Derived.Deep.DeepCutAuto
import Derived.Deep.CutRange
namespace Go.Proofs.YthpijibcfkcenaaDoor
open Go.ChangeShapes Go.WideShapes Go.ChangeAt Go.RowKit
set_option linter.unusedVariables false
set_option maxRecDepth 100000
set_option linter.unusedSimpArgs false
theorem below_drew0 {B : Nat} {a w : World} (h : Below B a w) (n : Nat) : Below B a (w.drewN n) := ⟨h.os, h.tape, h.output, h.size, h.block⟩
def RowR (l x : List UInt8) (ks : List (List UInt8)) (w : World) (e : Ending) (w' : World) : Prop :=
  ∃ v, e = .returned (.tuple #[v, .int .i64 (rowE l x ks)]) ∧ Rd w' w'.heap.size v (ints (rowV l x ks)) ∧ Below w.heap.size w w'
theorem rowR_none {l x : List UInt8} {ks : List (List UInt8)} {w w' : World} (h : rowO l x ks = none) (hb : Below w.heap.size w w') : RowR l x ks w (.returned (.tuple #[.slice none 0 0, .int .i64 2])) w' :=
  ⟨.slice none 0 0, by rw [(row_none h).1]; rfl, by rw [(row_none h).2]; exact Rd.nil _ _, hb⟩
theorem partO_no {a p : List UInt8} (h : p.take (a.length + 1) ≠ a ++ [61]) : partO a p = none := by unfold partO; rw [if_neg (fun x => h x.1)]
theorem partO_bad {a p : List UInt8} (h : ¬ parE (p.drop (a.length + 1)) = 0) : partO a p = none := by unfold partO; rw [if_neg (fun x => h x.2)]
theorem partO_yes {a p : List UInt8} (h : p.take (a.length + 1) = a ++ [61]) (h2 : parE (p.drop (a.length + 1)) = 0) : partO a p = some (parV (p.drop (a.length + 1))) := by unfold partO; rw [if_pos ⟨h, h2⟩]
theorem take_short {a p : List UInt8} (h : p.length < a.length + 1) : p.take (a.length + 1) ≠ a ++ [61] := fun e => by
  have := congrArg List.length e
  rw [List.length_take, List.length_append] at this
  simp at this; omega
theorem wordsA_all (l : List UInt8) : ∀ w, ∀ p ∈ wordsA w l, p.length ≤ w.length + l.length := by
  have hl : ∀ w : List UInt8, ∀ p ∈ lastW w, p.length ≤ w.length := fun w p hp => by
    unfold lastW at hp; split at hp
    · cases hp
    · obtain rfl : p = w := by simpa using hp
      exact Nat.le_refl _
  induction l with
  | nil => intro w p hp; have := hl w p hp; omega
  | cons c l ih =>
    intro w p hp
    simp only [wordsA] at hp
    split at hp
    · have := hl w p hp; omega
    · split at hp
      · rcases List.mem_append.1 hp with hp | hp
        · have := hl w p hp; omega
        · have := ih [] p hp; simp at this ⊢; omega
      · have := ih _ p hp; simp at this ⊢; omega
set_option maxHeartbeats 2000000 in
theorem r7parse_any (s x : ByteArray) (v : Value) (ks : List (List UInt8)) (w : World) (hs : s.size ≤ 100000) (hk : ks.length ≤ 1000) (hz : ∀ a ∈ ks, a.length ≤ 100000) (h : Rd w w.heap.size v (strs ks)) :
    Calls Tryd.prog 30 #[.string s, .string x, v] w (RowR s.data.toList x.data.toList ks w) := by
  obtain ⟨i0, hi, hz0, hz1, hz2⟩ := info_parts infoI64
  have W1 := rwords_any s w hs
  unfold StrsR at W1
  have hwl := wordsA_len s.data.toList []
  have hwa := wordsA_all s.data.toList []
  rw [data_len] at hwl hwa
  obtain ⟨A, c, rfl, _, _⟩ := h.form
  rw [strs_len] at h ⊢
  have HK := Lib.hid h
  have HZ := Lib.hid hz
  clear h hz
  by_cases hm : (wordsL s.data.toList).length = ks.length + 1
  · cases hL : wordsL s.data.toList with
    | nil => rw [hL] at hm; simp at hm
    | cons y ps =>
      have hps : ps.length = ks.length := by rw [hL] at hm; simpa using hm
      have hL2 : wordsA [] s.data.toList = y :: ps := hL
      rw [hL2] at hwl hwa
      rw [hL] at W1
      have W1 := Lib.hid W1
      by_cases hy : y = x.data.toList
      · subst hy
        have HO := Lib.hid fun k out (hI : PrI ks ps k out) (ha : k < ks.length) => (⟨fun v hv => prI_next hI ha (hps ▸ ha) v hv, fun hv => prI_bad hI ha (hps ▸ ha) hv⟩ : (∀ v, partO ks[k] (ps[k]'(hps ▸ ha)) = some v → PrI ks ps (k + 1) (out ++ [v])) ∧ (partO ks[k] (ps[k]'(hps ▸ ha)) = none → partsO ks ps = none))
        have HE := Lib.hid fun out (hI : PrI ks ps ks.length out) => prI_end hI rfl hps.symm
        have HRO := Lib.hid (rowO_parts (l := s.data.toList) (w := x.data.toList) (ks := ks) hL)
        have HWA := Lib.hid hwa
        have d0 : (((ps.length + 1 : Nat) : Int) == ((ks.length : Int) + 1)) = true := by rw [hps]; simp
        have d1 : (((ps.length + 1 : Nat) : Int) != ((ks.length : Int) + 1)) = false := by rw [hps]; simp
        have q1 : IntKind.i64.wrap ((ks.length : Int) + 1) = (ks.length : Int) + 1 := IntWalk.i64_in _ (by omega)
        have d2 : decide ((0 : Int) < ((ps.length + 1 : Nat) : Int)) = true := decide_eq_true (by omega)
        have dx : (x.toList == x.toList) = true := by simp
        have dx2 : (x.toList != x.toList) = false := by simp
        clear hm hL hL2 hwa
        go_enter Tryd.func30, Tryd.ntmps30
        go_wp2_with fail
        refine W1.out.mono ?_; rintro e w1 ⟨v1, rfl, hr, hb⟩
        obtain ⟨A1, c1, rfl, _, _⟩ := hr.form
        obtain ⟨b, o, rfl, hb1, hx⟩ := hr.at_ (k := 0) (by rw [strs_len]; simp)
        have g0 : w1.cell? ⟨b, o, none⟩ = some (.string x) := by
          have := hx 0 (by rw [strs_len]; simp)
          simpa [strs, bs_of] using this
        have HX := Lib.hid fun k (hk : k < ps.length) => (show w1.cell? ⟨b, o + (k + 1), none⟩ = some (.string (bs ps[k])) by
          have := hx (k + 1) (by rw [strs_len]; simpa using hk)
          simpa [strs] using this)
        have HB1 := Lib.hid hb
        rw [strs_len, List.length_cons]
        clear hr hb hx W1
        go_wp2_with fail
        go_loopw [9, 10] (fun ov i wr => ∃ (k : Nat) (out : List Int), i = .int .i64 k ∧ k ≤ ks.length ∧ PrI ks ps k out ∧ wr.ownsRow w1.heap.size 3 1 ov out.length (ints out) ∧ Below w1.heap.size w1 wr) (fun _ i _ => ks.length - (intOf i).toNat)
        case atStart => exact ⟨0, [], rfl, Nat.zero_le _, prI_zero _ _, World.ownsRow_nil _ _ _ _, Below.refl _ _⟩
        case round =>
          obtain ⟨k, out, rfl, hkl, hI, hown, hbw⟩ := hrel
          have hol : out.length = k := hI.1
          have HI := Lib.hid hI
          have HOW := Lib.hid hown
          have HB := Lib.hid hbw
          clear hI hown hbw
          by_cases hlt : k < ks.length
          · have hltp : k < ps.length := hps ▸ hlt
            obtain ⟨kb, ko, rfl, hkb, hkx⟩ := HK.out.at_ (k := k) (by rw [strs_len]; exact hlt)
            have gk : wr.cell? ⟨kb, ko + k, none⟩ = some (.string (bs ks[k])) := by
              rw [HB.out.cell (p := ⟨kb, ko + k, none⟩) (Nat.lt_of_lt_of_le hkb HB1.out.size), HB1.out.cell (p := ⟨kb, ko + k, none⟩) hkb, hkx k (by rw [strs_len]; exact hlt), strs_get]
            have gp : wr.cell? ⟨b, o + (k + 1), none⟩ = some (.string (bs (ps[k]'hltp))) := by
              have := HX.out k hltp
              rw [HB.out.cell (p := ⟨b, o + (k + 1), none⟩) (by have := World.block_lt_of_cell? w1 _ this; exact this)]; exact this
            obtain ⟨hyes, hno⟩ := HO.out k out HI.out hlt
            have HY := Lib.hid hyes
            have HN := Lib.hid hno
            have dk : decide (k < ks.length) = true := decide_eq_true hlt
            have hza := HZ.out _ (List.getElem_mem hlt)
            have hzp := HWA.out _ (List.mem_cons_of_mem _ (List.getElem_mem hltp))
            clear hkx hyes hno
            generalize ks[k] = a at *
            generalize ps[k]'hltp = pt at *
            have hsa : (bs a).size = a.length := bs_size a
            have hsp : (bs pt).size = pt.length := bs_size pt
            have q2 : IntKind.i64.wrap (((bs a).size : Int) + 1) = ((a.length + 1 : Nat) : Int) := by rw [hsa, IntWalk.i64_in _ (by omega)]; omega
            have q3 : IntKind.i64.wrap ((k : Int) + 1) = ((k + 1 : Nat) : Int) := by rw [IntWalk.i64_in _ (by omega)]; omega
            have ib : (0 : Int) ≤ ((k + 1 : Nat) : Int) := by omega
            have ib2 : ((k + 1 : Nat) : Int) < ((ps.length + 1 : Nat) : Int) := by omega
            have ib3 : decide (((k + 1 : Nat) : Int) < ((ps.length + 1 : Nat) : Int)) = true := decide_eq_true ib2
            have ib4 : (0 : Int) ≤ (k : Int) + 1 := by omega
            have ib5 : (k : Int) + 1 < (ks.length : Int) + 1 := by omega
            have ib6 : ((k : Int) + 1).toNat = k + 1 := by omega
            by_cases hsh : pt.length < a.length + 1
            · have ds : decide (((bs pt).size : Int) < ((a.length + 1 : Nat) : Int)) = true := decide_eq_true (by rw [hsp]; omega)
              have ds2 : decide ((bs pt).size < a.length + 1) = true := decide_eq_true (by rw [hsp]; omega)
              have ds3 : decide (((bs pt).size : Int) < (a.length : Int) + 1) = true := decide_eq_true (by rw [hsp]; omega)
              have HNN := Lib.hid (HN.out (partO_no (take_short hsh)))
              clear hsa hsp HY HN
              generalize bs a = Ba at *
              generalize bs pt = Bp at *
              go_wp2_with fail
              go_quiet (fail)
              go_wp2_with fail
              go_ret2
              exact rowR_none (HRO.out.trans HNN.out) (HB1.out.trans ((below_drew0 HB.out _).mono HB1.out.size))
            · have ds : decide (((bs pt).size : Int) < ((a.length + 1 : Nat) : Int)) = false := decide_eq_false (by rw [hsp]; omega)
              have ds2 : decide ((bs pt).size < a.length + 1) = false := decide_eq_false (by rw [hsp]; omega)
              have hs1 := fun w => run_slice_string_h (P := Tryd.prog) w 9 (bs pt) (by kernel_rfl) .i64 ((a.length + 1 : Nat) : Int) (by omega) (by rw [hsp]; omega)
              have hs2 := fun w => run_slice_string_l (P := Tryd.prog) w 9 (bs pt) (by kernel_rfl) .i64 ((a.length + 1 : Nat) : Int) (by omega) (by rw [hsp]; omega)
              rw [Int.toNat_natCast] at hs1 hs2
              have e1 : (bs pt).extract 0 (a.length + 1) = bs (pt.take (a.length + 1)) := by rw [← bs_of ((bs pt).extract 0 (a.length + 1)), extract_list, List.drop_zero, bs_list]
              have e2 : (bs pt).extract (a.length + 1) (bs pt).size = bs (pt.drop (a.length + 1)) := by
                rw [← bs_of ((bs pt).extract (a.length + 1) (bs pt).size), extract_list, List.take_of_length_le (by rw [data_len]; exact Nat.le_refl _), bs_list]
              rw [e1] at hs1
              rw [e2] at hs2
              have hz9 : (bs a).size ≤ 100000 := by rw [hsa]; exact hza
              have hap : bs a ++ ByteArray.mk #[61] = bs (a ++ [61]) := by rw [show ByteArray.mk #[61] = bs [61] from rfl, bs_append]
              by_cases ht : pt.take (a.length + 1) = a ++ [61]
              · have dt : ((bs (pt.take (a.length + 1))).toList == (bs a ++ ByteArray.mk #[61]).toList) = true := by rw [hap, ht]; simp
                have dt2 : ((bs (pt.take (a.length + 1))).toList != (bs a ++ ByteArray.mk #[61]).toList) = false := by rw [hap, ht]; simp
                have P1 := fun w => rparse_any (bs (pt.drop (a.length + 1))) w (by rw [bs_size, List.length_drop]; simp at hzp; omega)
                rw [bs_list] at P1
                have hpv := parV_in (pt.drop (a.length + 1))
                unfold inI at hpv
                obtain ⟨hpv1, hpv2⟩ := hpv
                by_cases he : parE (pt.drop (a.length + 1)) = 0
                · have HNY := Lib.hid (HY.out _ (partO_yes ht he))
                  rw [he] at P1
                  have P1 := Lib.hid P1
                  clear hsa hsp HY HN e1 e2 ht he hap
                  generalize parV (pt.drop (a.length + 1)) = pv at *
                  generalize bs (pt.drop (a.length + 1)) = Bd at *
                  generalize bs (pt.take (a.length + 1)) = Bt at *
                  generalize bs a = Ba at *
                  generalize bs pt = Bp at *
                  generalize a.length + 1 = al at *
                  go_wp2_with fail
                  go_quiet (fail)
                  have HB2 := Lib.hid (below_drew0 HB.out nq)
                  have HO2 := Lib.hid (owns_below HOW.out (below_drew0 (Below.refl wr.heap.size wr) nq))
                  have gp2 : (wr.drewN nq).cell? ⟨b, o + (k + 1), none⟩ = some (.string Bp) := gp
                  have hw3 : w1.heap.size ≤ (wr.drewN nq).heap.size := HB2.out.size
                  generalize wr.drewN nq = wr2 at *
                  go_wp2_with fail
                  refine (P1.out _).mono ?_; rintro e w3 ⟨rfl, rfl⟩
                  go_wp2_with (at_builtin; refine wpList_append_own _ rfl _ _ 50 rfl w1.heap.size 3 i0 (.int .i64 0) 1 8 Tryd.underlying50 hi hz0 hz1 hz2 rfl (by decide) _ _ _ rfl (HO2.out.alloc _) ⟨wr2.heap.size, 0, none⟩ 1 1 [.int .i64 pv] rfl rfl (cell_one_new _ _ _) ?c2 ?c3 ?c4 ?c5 ?_)
                  case c2 => intro u hu; simp at hu; subst hu; rfl
                  case c3 => unfold maxLen; omega
                  case c4 => omega
                  case c5 => simp; omega
                  intro v' w4 hown4 hgrow _
                  have hb4 := grown_below (HB2.out.alloc (HB2.out.size) _) hgrow (fun g hg => owns_row HO2.out hg) (by simp; omega)
                  have HB4 := Lib.hid hb4
                  have hown4' : w4.ownsRow w1.heap.size 3 1 v' (out ++ [pv]).length (ints (out ++ [pv])) := by
                    simpa [ints, hol] using hown4
                  have HO4 := Lib.hid hown4'
                  clear hb4 hown4 hown4' hgrow
                  go_wp2_with fail
                  go_roundw
                  case rel => exact ⟨k + 1, out ++ [pv], by go_num, by omega, HNY.out, HO4.out, HB4.out⟩
                  case measure => simp [intOf]; omega
                · have HNN := Lib.hid (HN.out (partO_bad he))
                  have hpb := par_bad he
                  rw [hpb.1, hpb.2] at P1
                  have P1 := Lib.hid P1
                  clear hsa hsp HY HN e1 e2 ht he hap hpb
                  generalize parV (pt.drop (a.length + 1)) = pv at *
                  generalize bs (pt.drop (a.length + 1)) = Bd at *
                  generalize bs (pt.take (a.length + 1)) = Bt at *
                  generalize bs a = Ba at *
                  generalize bs pt = Bp at *
                  generalize a.length + 1 = al at *
                  go_wp2_with fail
                  go_quiet (fail)
                  have HB2 := Lib.hid (below_drew0 HB.out nq)
                  have gp2 : (wr.drewN nq).cell? ⟨b, o + (k + 1), none⟩ = some (.string Bp) := gp
                  generalize wr.drewN nq = wr2 at *
                  go_wp2_with fail
                  refine (P1.out _).mono ?_; rintro e w3 ⟨rfl, rfl⟩
                  go_wp2_with fail
                  go_ret2
                  exact rowR_none (HRO.out.trans HNN.out) (HB1.out.trans (HB2.out.mono HB1.out.size))
              · have dt : ((bs (pt.take (a.length + 1))).toList == (bs a ++ ByteArray.mk #[61]).toList) = false := by
                  rw [hap, bs_toList, bs_toList]; simpa using ht
                have dt2 : ((bs (pt.take (a.length + 1))).toList != (bs a ++ ByteArray.mk #[61]).toList) = true := by
                  show (!((bs (pt.take (a.length + 1))).toList == (bs a ++ ByteArray.mk #[61]).toList)) = true; rw [dt]; rfl
                have HNN := Lib.hid (HN.out (partO_no ht))
                clear hsa hsp HY HN e1 e2 ht hap
                generalize bs (pt.drop (a.length + 1)) = Bd at *
                generalize bs (pt.take (a.length + 1)) = Bt at *
                generalize bs a = Ba at *
                generalize bs pt = Bp at *
                generalize a.length + 1 = al at *
                go_wp2_with fail
                go_quiet (fail)
                go_wp2_with fail
                go_ret2
                exact rowR_none (HRO.out.trans HNN.out) (HB1.out.trans ((below_drew0 HB.out _).mono HB1.out.size))
          · obtain rfl : k = ks.length := by omega
            have HRS := Lib.hid (row_some (HRO.out.trans (HE.out out HI.out)))
            have dk : decide (ks.length < ks.length) = false := decide_eq_false hlt
            go_wp2_with fail
            go_ret2
            exact ⟨_, by rw [HRS.out.1]; rfl, by rw [HRS.out.2]; exact Rd.own HOW.out, HB1.out.trans (HB.out.mono HB1.out.size)⟩
      · have HRO := Lib.hid (rowO_word (ks := ks) (w := x.data.toList) hL hy)
        have d0 : (((ps.length + 1 : Nat) : Int) == ((ks.length : Int) + 1)) = true := by rw [hps]; simp
        have d1 : (((ps.length + 1 : Nat) : Int) != ((ks.length : Int) + 1)) = false := by rw [hps]; simp
        have q1 : IntKind.i64.wrap ((ks.length : Int) + 1) = (ks.length : Int) + 1 := IntWalk.i64_in _ (by omega)
        have d2 : decide ((0 : Int) < ((ps.length + 1 : Nat) : Int)) = true := decide_eq_true (by omega)
        have dx : ((bs y).toList == x.toList) = false := by
          rw [beq_eq_false_iff_ne, Lib.toList_data, Lib.toList_data, bs_list]; exact hy
        have dx2 : ((bs y).toList != x.toList) = true := by
          show (!((bs y).toList == x.toList)) = true; rw [dx]; rfl
        clear hm hL hL2 hwa hy
        go_enter Tryd.func30, Tryd.ntmps30
        go_wp2_with fail
        refine W1.out.mono ?_; rintro e w1 ⟨v1, rfl, hr, hb⟩
        obtain ⟨A1, c1, rfl, _, _⟩ := hr.form
        obtain ⟨b, o, rfl, hb1, hx⟩ := hr.at_ (k := 0) (by rw [strs_len]; simp)
        have g0 : w1.cell? ⟨b, o, none⟩ = some (.string (bs y)) := by
          have := hx 0 (by rw [strs_len]; simp)
          simpa [strs, bs_of] using this
        have HB1 := Lib.hid hb
        rw [strs_len, List.length_cons]
        clear hr hb hx W1
        generalize bs y = Y at *
        go_wp2_with fail
        go_ret2
        exact rowR_none HRO.out HB1.out
  · have HRO := Lib.hid (rowO_len (w := x.data.toList) hm)
    have d0 : ((((wordsL s.data.toList).length : Nat) : Int) == ((ks.length : Int) + 1)) = false := beq_false_of_ne (by omega)
    have d1 : ((((wordsL s.data.toList).length : Nat) : Int) != ((ks.length : Int) + 1)) = true := by simp; omega
    have q1 : IntKind.i64.wrap ((ks.length : Int) + 1) = (ks.length : Int) + 1 := IntWalk.i64_in _ (by omega)
    have W1 := Lib.hid W1
    clear hm hwa hwl
    generalize wordsL s.data.toList = L at *
    go_enter Tryd.func30, Tryd.ntmps30
    go_wp2_with fail
    refine W1.out.mono ?_; rintro e w1 ⟨v1, rfl, hr, hb⟩
    obtain ⟨A1, c1, rfl, _, _⟩ := hr.form
    rw [strs_len]
    have HB1 := Lib.hid hb
    clear hr hb
    go_wp2_with fail
    go_ret2
    exact rowR_none HRO.out HB1.out

/-- The parts so far. -/
def partsK (x : List UInt8) (ks : List (List UInt8)) (ns : List Int) (k : Nat) : List (List UInt8) := x :: (List.zipWith partL ks ns).take k
theorem partsK_next (x : List UInt8) (ks : List (List UInt8)) (ns : List Int) (k : Nat) (h1 : k < ks.length) (h2 : k < ns.length) : partsK x ks ns (k + 1) = partsK x ks ns k ++ [partL ks[k] ns[k]] := by
  have hl : k < (List.zipWith partL ks ns).length := by simp; omega
  unfold partsK
  rw [List.take_succ_eq_append_getElem hl]
  simp
theorem partsK_end (x : List UInt8) (ks : List (List UInt8)) (ns : List Int) (k : Nat) (h : ks.length ≤ k ∨ ns.length ≤ k) : partsK x ks ns k = rowParts x ks ns := by
  unfold partsK rowParts
  rw [List.take_of_length_le (by simp; omega)]
theorem partsK_len (x : List UInt8) (ks : List (List UInt8)) (ns : List Int) (k : Nat) (h1 : k ≤ ks.length) (h2 : k ≤ ns.length) : (partsK x ks ns k).length = k + 1 := by
  unfold partsK; simp; omega
theorem allLen_parts (x : List UInt8) : ∀ (ks : List (List UInt8)) (ns : List Int), (∀ n ∈ ns, inI n) → allLen (rowParts x ks ns) ≤ x.length + allLen ks + 21 * ks.length := by
  have h : ∀ (ks : List (List UInt8)) (ns : List Int), (∀ n ∈ ns, inI n) → allLen (List.zipWith partL ks ns) ≤ allLen ks + 21 * ks.length := by
    intro ks
    induction ks with
    | nil => intro ns _; simp [allLen]
    | cons a ks ih =>
      intro ns hi
      cases ns with
      | nil => simp [allLen]
      | cons n ns =>
        have h1 := ih ns (fun m hm => hi m (by simp [hm]))
        have h2 := textL_len n (hi n (by simp))
        have e1 : allLen (List.zipWith partL (a :: ks) (n :: ns)) = (partL a n).length + allLen (List.zipWith partL ks ns) := by simp [allLen]
        have e2 : allLen (a :: ks) = a.length + allLen ks := by simp [allLen]
        have e3 : (partL a n).length = a.length + 1 + (textL n).length := by unfold partL; simp; omega
        rw [e1, e2, e3, List.length_cons]; omega
  intro ks ns hi
  have := h ks ns hi
  have e : allLen (rowParts x ks ns) = x.length + allLen (List.zipWith partL ks ns) := by simp [allLen, rowParts]
  omega
set_option maxHeartbeats 2000000 in
theorem r7line_any (x : ByteArray) (va vn : Value) (ks : List (List UInt8)) (ns : List Int) (w : World) (hx : x.size ≤ 10000) (hk : ks.length ≤ 900) (hz : allLen ks ≤ 50000) (hn : ns.length ≤ 9223372036854775807) (hi : ∀ n ∈ ns, inI n)
    (ha : Rd w w.heap.size va (strs ks)) (hb : Rd w w.heap.size vn (ints ns)) :
    Calls Tryd.prog 23 #[.string x, va, vn] w fun e w' => e = .returned (.string (bs (rowL x.data.toList ks ns))) ∧ Below w.heap.size w w' := by
  obtain ⟨i0, hi', hz0, hz1, hz2⟩ := info_parts infoS
  obtain ⟨A1, c1, rfl, _, _⟩ := ha.form
  obtain ⟨A2, c2, rfl, _, _⟩ := hb.form
  rw [strs_len] at ha ⊢
  rw [ints_len] at hb ⊢
  have HA := Lib.hid ha
  have HN := Lib.hid hb
  have HI := Lib.hid hi
  have hal := allLen_parts x.data.toList ks ns hi
  rw [data_len] at hal
  have HAL := Lib.hid hal
  have HZA := Lib.hid fun k (h : k < ks.length) => Nat.le_trans (len_le_all ks k h) hz
  clear ha hb hi hal
  go_enter Tryd.func23, Tryd.ntmps23
  go_wp2_with fail
  go_loopw [7, 8] (fun v i wr => ∃ k : Nat, i = .int .i64 k ∧ k ≤ ks.length ∧ k ≤ ns.length ∧ wr.ownsRow w.heap.size 9 1 v (k + 1) (strs (partsK x.data.toList ks ns k)) ∧ Below w.heap.size w wr) (fun _ i _ => ks.length - (intOf i).toNat)
  case atStart =>
    refine ⟨0, rfl, Nat.zero_le _, Nat.zero_le _, ?_, (Below.refl _ w).alloc (Nat.le_refl _) _⟩
    have := World.ownsRow_lit (base := w.heap.size) (e := 9) (size := 1) w #[.string x] 1 (Nat.le_refl _) (by unfold maxLen; omega) rfl
    simpa [partsK, strs, bs_of] using this
  case round =>
    obtain ⟨k, rfl, hk1, hk2, hown, hbw⟩ := hrel
    have HO := Lib.hid hown
    have HB := Lib.hid hbw
    clear hown hbw
    by_cases hlt : k < ks.length
    · have dk : decide (k < ks.length) = true := decide_eq_true hlt
      by_cases hln : k < ns.length
      · have dn : decide (k < ns.length) = true := decide_eq_true hln
        obtain ⟨ab, ao, rfl, hab, hax⟩ := HA.out.at_ (k := k) (by rw [strs_len]; exact hlt)
        obtain ⟨nb, no, rfl, hnb, hnx⟩ := HN.out.at_ (k := k) (by rw [ints_len]; exact hln)
        have ga : wr.cell? ⟨ab, ao + k, none⟩ = some (.string (bs ks[k])) := by
          rw [HB.out.cell (p := ⟨ab, ao + k, none⟩) hab, hax k (by rw [strs_len]; exact hlt), strs_get]
        have gn : wr.cell? ⟨nb, no + k, none⟩ = some (.int .i64 ns[k]) := by
          rw [HB.out.cell (p := ⟨nb, no + k, none⟩) hnb, hnx k (by rw [ints_len]; exact hln), ints_get]
        have hin := HI.out _ (List.getElem_mem hln)
        have htl := textL_len _ hin
        have hza := HZA.out k hlt
        have T1 := fun w => rtext_any ns[k] hin w
        have HP := Lib.hid (partsK_next x.data.toList ks ns k hlt hln)
        have hap : bs ks[k] ++ ByteArray.mk #[61] ++ bs (textL ns[k]) = bs (partL ks[k] ns[k]) := by
          rw [show ByteArray.mk #[61] = bs [61] from rfl, bs_append, bs_append]; unfold partL; simp
        have HAP := Lib.hid hap
        have hs1 : (bs ks[k]).size ≤ 50000 := by rw [bs_size]; exact hza
        have hs2 : (bs (textL ns[k])).size ≤ 20 := by rw [bs_size]; exact htl
        have hs3 : (bs ks[k] ++ ByteArray.mk #[61]).size ≤ 50001 := by rw [ByteArray.size_append]; show _ + 1 ≤ _; omega
        have hib1 : 0 ≤ (k : Int) := by omega
        have hib2 : (k : Int) < (ks.length : Int) := by omega
        have hib3 : (k : Int) < (ns.length : Int) := by omega
        clear hax hnx hin htl hza hap
        generalize bs ks[k] = Ba at *
        generalize bs (textL ns[k]) = Bt at *
        generalize ns[k] = nn at *
        generalize hBp : bs (partL ks[k] nn) = Bp at *
        have HBP := Lib.hid hBp
        clear hBp
        have T2 : ∀ w, Calls Tryd.prog 44 #[.int .i64 nn] w fun e w' => e = .returned (.string Bt) ∧ w' = w := fun w => (T1 w).mono fun e w' h => ⟨h.1, h.2.symm⟩
        have T2 := Lib.hid T2
        clear T1
        have hc1 : ¬ (9223372036854775807 < Ba.size + 1) := by omega
        have hc2 : ¬ (9223372036854775807 < Ba.size + 1 + Bt.size) := by omega
        have hc3 : ¬ (9223372036854775807 < (Ba ++ ByteArray.mk #[61]).size + Bt.size) := by omega
        have hOX := Lib.hid fun o => owns_below HO.out (((Below.refl wr.heap.size wr).drew).alloc (Nat.le_refl _) o)
        go_upto_region 5 with (fail)
        go_region_law (first
          | (go_simp; go_at_call 44; refine (T2.out _).mono ?_; rintro e w2 ⟨rfl, rfl⟩)
          | (refine step_append_lies _ rfl (.tmp 23) (.tmp 35) 45 rfl w.heap.size 9 i0 (.string ⟨#[]⟩) 1 16 Tryd.underlying45 hi' hz0 hz1 hz2 rfl (by decide) _ (k + 1) _ (by simp [Act.eval, Act.put]) (hOX.out _) ⟨wr.heap.size, 0, none⟩ 1 1 [.string (Ba ++ ByteArray.mk #[61] ++ Bt)] (by simp [Act.eval, Act.put]) rfl (cell_one_new _ _ _) (by intro u hu; simp at hu; subst hu; rfl) (by omega) (by unfold maxLen; omega) (by omega) (by have := HB.out.size; simp; omega) _ rfl ?_; intro g cap w4 hown4 hgrow hat hltg))
        all_goals
          have hb4 := grown_below ((HB.out.drew).alloc (by have := HB.out.size; simpa using this) _) hgrow (fun g hg => owns_row HO.out hg) (by have := HB.out.size; simp; omega)
          have HB4 := Lib.hid hb4
          rw [HAP.out] at hown4
          have hown5 : w4.ownsRow w.heap.size 9 1 (.slice (some ⟨g, 0, none⟩) (k + 1 + 1) cap) (k + 1 + 1) (strs (partsK x.data.toList ks ns (k + 1))) := by
            rw [HP.out, show strs (partsK x.data.toList ks ns k ++ [partL ks[k] nn]) = strs (partsK x.data.toList ks ns k) ++ [.string Bp] by rw [← HBP.out]; simp [strs]]
            exact hown4
          have HO5 := Lib.hid hown5
          clear hb4 hown4 hown5 hgrow hat
          go_wp2_with fail
          go_roundw
          case rel => exact ⟨k + 1, by go_num, by omega, by omega, HO5.out, HB4.out⟩
          case measure => simp [intOf]; omega
      · obtain rfl : k = ns.length := by omega
        have dn : decide (ns.length < ns.length) = false := decide_eq_false hln
        have hpe := partsK_end x.data.toList ks ns ns.length (Or.inr (Nat.le_refl _))
        have hrd := Rd.own HO.out
        rw [hpe] at hrd
        have hpl := partsK_len x.data.toList ks ns ns.length (by omega) (by omega)
        rw [hpe] at hpl
        have J1 := Lib.hid fun v h => rjoin_any v (rowParts x.data.toList ks ns) wr.heap.size wr (by omega) (by have := HAL.out; omega) h
        have HRD := Lib.hid hrd
        clear hrd hpe hpl
        go_wp2_with fail
        refine (J1.out _ HRD.out).mono ?_; rintro e w2 ⟨rfl, rfl⟩
        go_wp2_with fail
        go_ret
        exact ⟨rfl, HB.out⟩
    · obtain rfl : k = ks.length := by omega
      have dk : decide (ks.length < ks.length) = false := decide_eq_false hlt
      have hpe := partsK_end x.data.toList ks ns ks.length (Or.inl (Nat.le_refl _))
      have hrd := Rd.own HO.out
      rw [hpe] at hrd
      have hpl := partsK_len x.data.toList ks ns ks.length (by omega) (by omega)
      rw [hpe] at hpl
      have J1 := Lib.hid fun v h => rjoin_any v (rowParts x.data.toList ks ns) wr.heap.size wr (by omega) (by have := HAL.out; omega) h
      have HRD := Lib.hid hrd
      clear hrd hpe hpl
      go_wp2_with fail
      refine (J1.out _ HRD.out).mono ?_; rintro e w2 ⟨rfl, rfl⟩
      go_wp2_with fail
      go_ret
      exact ⟨rfl, HB.out⟩
end Go.Proofs.YthpijibcfkcenaaDoor
