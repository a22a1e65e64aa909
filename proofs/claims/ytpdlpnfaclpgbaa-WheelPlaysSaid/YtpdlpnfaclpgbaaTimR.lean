/- What the document's own Find, Drop, Due, Set on rows of timers come to. Conditions: rows of at most 100,000 timers. -/
import Derived.Test.YtpdlpnfaclpgbaaProg
import Derived.Test.YtpdlpnfaclpgbaaTimPlain
import Derived.Test.YtpdlpnfaclpgbaaWhlPlain
import Derived.Test.YtpdlpnfaclpgbaaRdA
import Derived.Test.YtpdlpnfaclpgbaaSame
import Derived.Test.YtpdlpnfaclpgbaaWhlF
namespace Go.Proofs.Ytpdlpnfaclpgbaa
open Go.ChangeShapes Go.WideShapes Go.ChangeAt Go.RowKit
set_option linter.unusedVariables false
set_option maxRecDepth 100000
set_option linter.unusedSimpArgs false
set_option maxHeartbeats 2000000

/-- A row of timers in blocks of K. -/
abbrev RdW (w : World) (K : Nat → Prop) (v : Value) (l : List Tm) : Prop := RdK 2 w K v (rowsW l)
theorem infoTr : (Try.prog.info? 37).map (fun i => (i.zero, i.size, i.bytes)) = some (some (.agg #[.int .i64 0, .int .i64 0]), 2, 16) := by kernel_rfl
theorem rowsW_append (a b : List Tm) : (rowsW (a ++ b)).flatten = (rowsW a).flatten ++ (rowsW b).flatten := by unfold rowsW; rw [List.map_append, List.flatten_append]
theorem rdW_form {w : World} {K : Nat → Prop} {v : Value} {l : List Tm} (h : RdW w K v l) : ∃ A c, v = .slice A l.length c ∧ l.length ≤ c ∧ c ≤ maxLen := by
  have := h.form
  rwa [rowsW_len] at this
theorem rdW_at {w : World} {K : Nat → Prop} {l : List Tm} {A : Option Addr} {n c k : Nat} (h : RdW w K (.slice A n c) l) (hk : k < l.length) :
    ∃ b o, A = some ⟨b, o, none⟩ ∧ b < w.heap.size ∧ w.cell? ⟨b, o + k * 2, none⟩ = some (.int .i64 l[k].id) ∧ w.cell? ⟨b, o + k * 2 + 1, none⟩ = some (.int .i64 l[k].tick) := by
  obtain ⟨b, o, h1, h2, _, h3⟩ := h.at_ (k := k) (by rw [rowsW_len]; exact hk)
  exact ⟨b, o, h1, h2, h3 k _ (rowsW_get l k hk) 0 _ rfl, h3 k _ (rowsW_get l k hk) 1 _ rfl⟩
theorem rdW_own {w : World} {base n : Nat} {e : TypeId} {v : Value} {l : List Tm} (h : w.ownsRow base e 2 v n (rowsW l).flatten) (hn : l.length = n) : RdW w (fun b => base ≤ b) v l := RdK.own h (by rw [rowsW_len]; exact hn) (rowsW_two l)
def findZ (l : List Tm) (id : Int) : Int := match findW l id with
  | some k => (k : Int)
  | none => -1
theorem tfind_any (v : Value) (l : List Tm) (id : Int) (K : Nat → Prop) (w : World) (hn : l.length ≤ 100000) (h : RdW w K v l) :
    Calls Try.prog 7 #[v, .int .i64 id] w fun e w' => e = .returned (.int .i64 (findZ l id)) ∧ w = w' := by
  obtain ⟨A, c, rfl, hc, _⟩ := rdW_form h
  have H := Lib.hid fun k (hk : k < l.length) => rdW_at h hk
  clear h hc
  go_enter Try.func7, Try.ntmps7
  go_wp2_with fail
  go_loopw [5] (fun i wr => ∃ k : Nat, k ≤ l.length ∧ i = .int .i64 k ∧ findW l id = (findW (l.drop k) id).map (· + k) ∧ wr = w) (fun i _ => l.length - (intOf i).toNat)
  case atStart => exact ⟨0, by omega, rfl, by simp, rfl⟩
  case round =>
    obtain ⟨k, hk, rfl, hI, rfl⟩ := hrel
    by_cases hlt : k < l.length
    · obtain ⟨b, o, rfl, hbl, g0, g1⟩ := H.out k hlt
      have dk : decide (k < l.length) = true := decide_eq_true hlt
      have HS := Lib.hid (findW_step l id k hlt hI)
      clear hI
      by_cases he : l[k].id = id
      · have HR := Lib.hid (show Ending.returned (.int .i64 (k : Int)) = .returned (.int .i64 (findZ l id)) by unfold findZ; rw [HS.out.1 he])
        have de : (l[k].id == id) = true := by simp [he]
        generalize l[k].id = x at *
        clear he HS
        go_wp2_with fail
        go_ret
        exact ⟨HR.out, rfl⟩
      · have de : (l[k].id == id) = false := by simpa using he
        have HI := Lib.hid (HS.out.2 he)
        generalize l[k].id = x at *
        clear he HS
        go_wp2_with fail
        go_roundw
        case rel => exact ⟨k + 1, by omega, by go_num, HI.out, trivial⟩
        case measure => simp [intOf]; omega
    · have dk : decide (k < l.length) = false := decide_eq_false hlt
      rw [List.drop_of_length_le (by omega)] at hI
      have HR := Lib.hid (show Ending.returned (.int .i64 (-1)) = .returned (.int .i64 (findZ l id)) by unfold findZ; rw [hI]; rfl)
      clear hI
      go_wp2_with fail
      go_ret
      exact ⟨HR.out, rfl⟩
theorem tdrop_any (v : Value) (l : List Tm) (id : Int) (K : Nat → Prop) (w : World) (hn : l.length ≤ 100000) (h : RdW w K v l) :
    Calls Try.prog 11 #[v, .int .i64 id] w fun e w' => ∃ u, e = .returned u ∧ RdW w' (fun b => w.heap.size ≤ b) u (dropW l id) ∧ Below w.heap.size w w' := by
  obtain ⟨A, c, rfl, hc, _⟩ := rdW_form h
  have H := Lib.hid fun k (hk : k < l.length) => rdW_at h hk
  clear h hc
  go_enter Try.func11, Try.ntmps11
  go_wp2_with fail
  go_loopw [5, 6] (fun v i wr => ∃ k : Nat, k ≤ l.length ∧ i = .int .i64 k ∧ wr.ownsRow w.heap.size 37 2 v (dropW (l.take k) id).length (rowsW (dropW (l.take k) id)).flatten ∧ Below w.heap.size w wr) (fun _ i _ => l.length - (intOf i).toNat)
  case atStart => exact ⟨0, by omega, rfl, World.ownsRow_nil _ _ _ _, Below.refl _ _⟩
  case round =>
    obtain ⟨k, hk, rfl, hown, hb⟩ := hrel
    have HO := Lib.hid hown
    have HB := Lib.hid hb
    have hw3 : w.heap.size ≤ wr.heap.size := hb.size
    have hdl := dropW_len (l.take k) id
    rw [List.length_take] at hdl
    clear hown hb
    by_cases hlt : k < l.length
    · obtain ⟨b, o, rfl, hbl, x0, x1⟩ := H.out k hlt
      have g0 : wr.cell? ⟨b, o + k * 2, none⟩ = some (.int .i64 l[k].id) := (HB.out.cell (p := ⟨b, o + k * 2, none⟩) hbl).trans x0
      have g1 : wr.cell? ⟨b, o + k * 2 + 1, none⟩ = some (.int .i64 l[k].tick) := (HB.out.cell (p := ⟨b, o + k * 2 + 1, none⟩) hbl).trans x1
      have dk : decide (k < l.length) = true := decide_eq_true hlt
      have ht := dropW_take l id k hlt
      by_cases he : l[k].id = id
      · have de : (l[k].id != id) = false := by simp [he]
        rw [if_pos he, List.append_nil] at ht
        have HT := Lib.hid ht
        clear ht he x0 x1
        generalize l[k] = T at *
        go_wp2_with fail
        go_roundw
        case rel => exact ⟨k + 1, by omega, by go_num, by rw [HT.out]; exact HO.out, HB.out⟩
        case measure => simp [intOf]; omega
      · have de : (l[k].id != id) = true := by simpa using he
        rw [if_neg he] at ht
        have HT := Lib.hid ht
        clear ht he x0 x1
        generalize l[k] = T at *
        go_wp2_with (at_builtin; refine wpList_append_rdK rfl _ _ 30 rfl w.heap.size 37 (.agg #[.int .i64 0, .int .i64 0]) 2 16 infoTr rfl (by decide) (by decide) Try.underlying30 _ _ _ rfl (HO.out.alloc _) (fun _ => True) _ (rowsW [T]) rfl ?c2 (rowsW_two _) (rowsW_one _) ?c3 ?c4 ?_)
        case c2 => exact (rdK_lit1 wr T.row #[.int .i64 T.id, .int .i64 T.tick] 37 rfl).imp fun _ _ _ => trivial
        case c3 => rw [rowsW_len]; simp; omega
        case c4 => simp; omega
        intro v' w4 hown4 hgrow
        have HB4 := Lib.hid (grown_below (HB.out.alloc (HB.out.size) _) hgrow (fun g hg => owns_row HO.out hg) (by simp; omega))
        have hown4' : w4.ownsRow w.heap.size 37 2 v' (dropW (l.take (k + 1)) id).length (rowsW (dropW (l.take (k + 1)) id)).flatten := by
          rw [HT.out, List.length_append, rowsW_append]
          exact hown4
        have HO4 := Lib.hid hown4'
        clear hown4 hown4' hgrow
        go_wp2_with fail
        go_roundw
        case rel => exact ⟨k + 1, by omega, by go_num, HO4.out, HB4.out⟩
        case measure => simp [intOf]; omega
    · obtain rfl : k = l.length := by omega
      have dk : decide (l.length < l.length) = false := decide_eq_false hlt
      rw [List.take_length] at HO
      have HR := Lib.hid (rdW_own HO.out rfl)
      obtain ⟨A2, c2, rfl, _, _⟩ := rdW_form HR.out
      go_wp2_with fail
      go_ret
      exact ⟨_, rfl, HR.out, HB.out⟩
theorem tdue_any (v : Value) (l : List Tm) (now : Int) (K : Nat → Prop) (w : World) (hn : l.length ≤ 100000) (h : RdW w K v l) :
    Calls Try.prog 12 #[v, .int .i64 now] w fun e w' => ∃ u r, e = .returned (.tuple #[u, r]) ∧ RdI w' (fun b => w.heap.size ≤ b) u (dueW l now) ∧ RdW w' K r (leftW l now) ∧ Below w.heap.size w w' := by
  obtain ⟨A, c, rfl, hc, _⟩ := rdW_form h
  have H := Lib.hid fun k (hk : k < l.length) => rdW_at h hk
  have HRD := Lib.hid h
  obtain ⟨i0, hif, hz0, hz1, hz2⟩ := info_parts infoI64
  clear h
  go_enter Try.func12, Try.ntmps12
  go_wp2_with fail
  go_loopw [6, 7] (fun u i wr => ∃ k : Nat, k ≤ l.length ∧ i = .int .i64 k ∧ dueN l now = k + dueN (l.drop k) now ∧ wr.ownsRow w.heap.size 3 1 u k (ints ((l.take k).map Tm.id)) ∧ Below w.heap.size w wr) (fun _ i _ => l.length - (intOf i).toNat)
  case atStart => exact ⟨0, by omega, rfl, by simp, World.ownsRow_nil _ _ _ _, Below.refl _ _⟩
  case round =>
    obtain ⟨k, hk, rfl, hI, hown, hb⟩ := hrel
    have HO := Lib.hid hown
    have HB := Lib.hid hb
    have hw3 : w.heap.size ≤ wr.heap.size := hb.size
    clear hown hb
    by_cases hlt : k < l.length
    · obtain ⟨b, o, rfl, hbl, x0, x1⟩ := H.out k hlt
      have g0 : wr.cell? ⟨b, o + k * 2, none⟩ = some (.int .i64 l[k].id) := (HB.out.cell (p := ⟨b, o + k * 2, none⟩) hbl).trans x0
      have g1 : wr.cell? ⟨b, o + k * 2 + 1, none⟩ = some (.int .i64 l[k].tick) := (HB.out.cell (p := ⟨b, o + k * 2 + 1, none⟩) hbl).trans x1
      have dk : decide (k < l.length) = true := decide_eq_true hlt
      have HS := Lib.hid (dueN_step l now k hlt hI)
      by_cases hd : l[k].tick ≤ now
      · have HI := Lib.hid (HS.out.1 hd)
        have HNX := Lib.hid (show (l.take (k + 1)).map Tm.id = (l.take k).map Tm.id ++ [l[k].id] by rw [List.take_succ_eq_append_getElem hlt, List.map_append]; rfl)
        have dd : decide (l[k].tick ≤ now) = true := decide_eq_true hd
        clear HS hI hd x0 x1
        generalize l[k] = T at *
        go_wp2_with (at_builtin; refine wpList_append_own _ rfl _ _ 40 rfl w.heap.size 3 i0 (.int .i64 0) 1 8 Try.underlying40 hif hz0 hz1 hz2 rfl (by decide) _ _ _ rfl (HO.out.alloc _) ⟨wr.heap.size, 0, none⟩ 1 1 [.int .i64 T.id] rfl rfl (cells_new _ _ _) (by simp [Value.oneCell']) ?c3 ?c4 ?c5 ?_)
        case c3 => unfold maxLen; omega
        case c4 => omega
        case c5 => simp; omega
        intro v' w4 hown4 hgrow _
        have HB4 := Lib.hid (grown_below (HB.out.alloc (HB.out.size) _) hgrow (fun g hg => owns_row HO.out hg) (by simp; omega))
        have HO4 := Lib.hid (show w4.ownsRow w.heap.size 3 1 v' (k + 1) (ints ((l.take (k + 1)).map Tm.id)) by rw [HNX.out, ints_append]; first | exact hown4 | (rw [List.map_take]; exact hown4))
        clear hown4 hgrow
        go_wp2_with fail
        go_roundw
        case rel => exact ⟨k + 1, by omega, by go_num, HI.out, HO4.out, HB4.out⟩
        case measure => simp [intOf]; omega
      · have HK := Lib.hid (HS.out.2 hd)
        have dd : decide (l[k].tick ≤ now) = false := decide_eq_false hd
        clear HS hI hd x0 x1
        generalize l[k] = T at *
        have HU := Lib.hid (show RdI wr (fun b => w.heap.size ≤ b) u6 (dueW l now) by unfold dueW; rw [HK.out]; exact RdI.own HO.out (by rw [List.length_map, List.length_take]; skip; omega))
        have R2 := HRD.out.drop k (by rw [rowsW_len]; skip; omega)
        have hs2 := fun w => run_slice_tl (P := Try.prog) w 30 37 (some ⟨b, o, none⟩) l.length c k Try.underlying30 Try.sizeOf37 (by omega)
        generalize sliced (some ⟨b, o, none⟩) k l.length c 2 = s2 at hs2 R2
        have HL := Lib.hid (show RdW w K s2 (leftW l now) by
          have e : rowsW (leftW l now) = (rowsW l).drop k := by unfold leftW; rw [HK.out]; unfold rowsW; rw [List.map_drop]
          unfold RdW; rw [e]; exact R2)
        clear R2 HK HRD
        go_wp2_with fail
        go_quiet (fail)
        go_wp2_with fail
        go_ret2
        exact ⟨_, _, rfl, HU.out.below ⟨rfl, rfl, rfl, Nat.le_refl _, fun _ _ => rfl⟩, HL.out.below (w' := _) ⟨HB.out.os, HB.out.tape, HB.out.output, HB.out.size, HB.out.block⟩, ⟨HB.out.os, HB.out.tape, HB.out.output, HB.out.size, HB.out.block⟩⟩
    · obtain rfl : k = l.length := by omega
      have dk : decide (l.length < l.length) = false := decide_eq_false hlt
      have HK := Lib.hid (show dueN l now = l.length by rw [hI]; simp [dueN])
      clear hI
      clear H
      generalize hkk : l.length = k at *
      have HKK := Lib.hid hkk
      clear hkk
      have HU := Lib.hid (show RdI wr (fun b => w.heap.size ≤ b) u6 (dueW l now) by unfold dueW; rw [HK.out]; exact RdI.own HO.out (by rw [List.length_map, List.length_take]; have := HKK.out; omega))
      have R2 := HRD.out.drop k (by rw [rowsW_len]; have := HKK.out; omega)
      have hs2 := fun w => run_slice_tl (P := Try.prog) w 30 37 A k c k Try.underlying30 Try.sizeOf37 (by omega)
      generalize sliced A k k c 2 = s2 at hs2 R2
      have HL := Lib.hid (show RdW w K s2 (leftW l now) by
        have e : rowsW (leftW l now) = (rowsW l).drop k := by unfold leftW; rw [HK.out]; unfold rowsW; rw [List.map_drop]
        unfold RdW; rw [e]; exact R2)
      clear R2 HK HRD
      go_wp2_with fail
      go_quiet (fail)
      go_wp2_with fail
      go_ret2
      exact ⟨_, _, rfl, HU.out.below ⟨rfl, rfl, rfl, Nat.le_refl _, fun _ _ => rfl⟩, HL.out.below (w' := _) ⟨HB.out.os, HB.out.tape, HB.out.output, HB.out.size, HB.out.block⟩, ⟨HB.out.os, HB.out.tape, HB.out.output, HB.out.size, HB.out.block⟩⟩
theorem tset_no (v : Value) (l : List Tm) (x : Tm) (K : Nat → Prop) (w : World) (h : RdW w K v l) (hm : mayW x.tick = false) :
    Calls Try.prog 9 #[v, x.val] w fun e w' => ∃ u, e = .returned u ∧ RdW w' (fun b => K b ∨ w.heap.size ≤ b) u (setW l x) ∧ Below w.heap.size w w' := by
  have HS := Lib.hid (show setW l x = l by unfold setW; rw [if_neg (by rw [hm]; simp)])
  obtain ⟨A, c, rfl, hc, _⟩ := rdW_form h
  have HR := Lib.hid h
  clear h hc
  cases x with
  | mk id tick =>
  have hm2 : ¬ (0 ≤ tick ∧ tick ≤ 1099511627776) := by unfold mayW at hm; simp at hm; omega
  clear hm
  unfold Tm.val
  by_cases h1 : tick < 0
  · have d1 : decide (tick < 0) = true := decide_eq_true h1
    go_enter Try.func9, Try.ntmps9
    go_wp2_with fail
    go_ret
    exact ⟨_, rfl, by rw [HS.out]; exact (HR.out.below ((Below.refl _ _).alloc (Nat.le_refl _) _)).imp fun b hb _ => .inl hb, (Below.refl _ _).alloc (Nat.le_refl _) _⟩
  · have d1 : decide (tick < 0) = false := decide_eq_false h1
    have d2 : decide (tick > 1099511627776) = true := decide_eq_true (by omega)
    have d3 : decide (1099511627776 < tick) = true := decide_eq_true (by omega)
    go_enter Try.func9, Try.ntmps9
    go_wp2_with fail
    go_ret
    exact ⟨_, rfl, by rw [HS.out]; exact (HR.out.below ((Below.refl _ _).alloc (Nat.le_refl _) _)).imp fun b hb _ => .inl hb, (Below.refl _ _).alloc (Nat.le_refl _) _⟩
theorem tset_yes (v : Value) (l : List Tm) (x : Tm) (K : Nat → Prop) (w : World) (hn : l.length ≤ 100000) (h : RdW w K v l) (hm : mayW x.tick = true) :
    Calls Try.prog 9 #[v, x.val] w fun e w' => ∃ u, e = .returned u ∧ RdW w' (fun b => K b ∨ w.heap.size ≤ b) u (setW l x) ∧ Below w.heap.size w w' := by
  have hset : setW l x = insW (dropW l x.id) x := by unfold setW; rw [if_pos hm]
  have hld := dropW_len l x.id
  cases x with
  | mk id tick =>
  have hm2 : 0 ≤ tick ∧ tick ≤ 1099511627776 := by unfold mayW at hm; simp at hm; exact hm
  have d1 : decide (tick < 0) = false := decide_eq_false (by omega)
  have d2 : decide (tick > 1099511627776) = false := decide_eq_false (by omega)
  have d3 : decide (1099511627776 < tick) = false := decide_eq_false (by omega)
  have C := Lib.hid (tdrop_any v l id K (w.alloc (.cells #[.int .i64 id, .int .i64 tick] 37)) hn (h.below ((Below.refl _ _).alloc (Nat.le_refl _) _)))
  have HST := Lib.hid (show setW l ⟨id, tick⟩ = insW (dropW l id) ⟨id, tick⟩ from hset)
  have hld : (dropW l id).length ≤ l.length := hld
  obtain ⟨A, c, rfl, hc, _⟩ := rdW_form h
  clear h hm hset hc hm2
  unfold Tm.val
  go_enter Try.func9, Try.ntmps9
  go_wp2_with fail
  refine C.out.mono ?_; rintro e w1 ⟨u1, rfl, hr1, hb1⟩
  have hbx : w1.heap[w.heap.size]? = some (.cells #[.int .i64 id, .int .i64 tick] 37 (0, 0)) := blk_below hb1 (blk_new w _) (by simp)
  have hbw : Below w.heap.size w w1 := ((Below.refl _ w).alloc (Nat.le_refl _) _).trans (hb1.mono (by simp))
  have hw1 : w.heap.size < w1.heap.size := lt_of_block hbx
  generalize dropW l id = l1 at *
  obtain ⟨A1, c1, rfl, hc1, _⟩ := rdW_form hr1
  have H := Lib.hid fun k (hk : k < l1.length) => rdW_at hr1 hk
  have HRD := Lib.hid (hr1.imp (K' := fun _ => True) fun _ _ _ => trivial)
  have HBX := Lib.hid hbx
  have HBW := Lib.hid hbw
  clear hr1 hb1 hbx hbw C d1 d2 d3
  go_wp2_with fail
  go_loopw [5] (fun i wr => ∃ k : Nat, k ≤ l1.length ∧ i = .int .i64 k ∧ lessW l1 ⟨id, tick⟩ = k + lessW (l1.drop k) ⟨id, tick⟩ ∧ Below w1.heap.size w1 wr) (fun i _ => l1.length - (intOf i).toNat)
  case atStart => exact ⟨0, by omega, rfl, by simp, Below.refl _ _⟩
  case round =>
    obtain ⟨k, hk, rfl, hI, hb⟩ := hrel
    have hws := hb.size
    have bx : wr.heap[w.heap.size]? = some (.cells #[.int .i64 id, .int .i64 tick] 37 (0, 0)) := blk_below hb HBX.out hw1
    have c0 := blk_cell bx 0
    have c1' := blk_cell bx 1
    by_cases hlt : k < l1.length
    · obtain ⟨b, o, rfl, hbl, x0, x1⟩ := H.out k hlt
      have g0 : wr.cell? ⟨b, o + k * 2, none⟩ = some (.int .i64 l1[k].id) := (hb.cell (p := ⟨b, o + k * 2, none⟩) hbl).trans x0
      have g1 : wr.cell? ⟨b, o + k * 2 + 1, none⟩ = some (.int .i64 l1[k].tick) := (hb.cell (p := ⟨b, o + k * 2 + 1, none⟩) hbl).trans x1
      have dk : decide (k < l1.length) = true := decide_eq_true hlt
      have dk2 : decide ((k : Int) < (l1.length : Int)) = true := decide_eq_true (by omega)
      have i0k : (0 : Int) ≤ (k : Int) := by omega
      have i1k : (k : Int) < (l1.length : Int) := by omega
      have HS := Lib.hid (lessW_step l1 ⟨id, tick⟩ k hlt hI)
      have HB := Lib.hid hb
      clear hI hb x0 x1
      have ht : tmB l1[k] ⟨id, tick⟩ = (decide (l1[k].tick < tick) || (l1[k].tick == tick && decide (l1[k].id < id))) := rfl
      rw [ht] at HS
      clear ht
      generalize l1[k] = T at *
      by_cases t1 : T.tick < tick
      · have dt : decide (T.tick < tick) = true := decide_eq_true t1
        have HI := Lib.hid (HS.out.1 (by rw [dt]; rfl))
        clear HS t1
        go_wp2_with fail
        go_quiet (fail)
        go_wp2_with fail
        go_roundw
        case rel => exact ⟨k + 1, by omega, by go_num, HI.out, HB.out.os, HB.out.tape, HB.out.output, HB.out.size, HB.out.block⟩
        case measure => simp [intOf]; omega
      · have dt : decide (T.tick < tick) = false := decide_eq_false t1
        by_cases t2 : T.tick = tick
        · have de : (T.tick == tick) = true := by simp [t2]
          by_cases t3 : T.id < id
          · have di : decide (T.id < id) = true := decide_eq_true t3
            have HI := Lib.hid (HS.out.1 (by rw [dt, de, di]; rfl))
            clear HS t1 t2 t3
            go_wp2_with fail
            go_quiet (fail)
            go_wp2_with fail
            go_roundw
            case rel => exact ⟨k + 1, by omega, by go_num, HI.out, HB.out.os, HB.out.tape, HB.out.output, HB.out.size, HB.out.block⟩
            case measure => simp [intOf]; omega
          · have di : decide (T.id < id) = false := decide_eq_false t3
            have HK := Lib.hid (HS.out.2 (by rw [dt, de, di]; simp))
            clear HS t1 t2 t3
            go_wp2_with fail
            go_quiet (fail)
            obtain ⟨w2, hw2⟩ : ∃ w2, wr.drewN nq = w2 := ⟨_, rfl⟩
            rw [hw2]
            have HB2 := Lib.hid (show Below w1.heap.size w1 w2 by rw [← hw2]; exact ⟨HB.out.os, HB.out.tape, HB.out.output, HB.out.size, HB.out.block⟩)
            have bx2 : w2.heap[w.heap.size]? = some (.cells #[.int .i64 id, .int .i64 tick] 37 (0, 0)) := blk_below HB2.out HBX.out hw1
            clear hw2 HB bx c0 c1' g0 g1
            have hs1 := fun w => run_slice_hd (P := Try.prog) w 30 37 (some ⟨b, o, none⟩) l1.length c1 k Try.underlying30 Try.sizeOf37 (by omega)
            have hs2 := fun w => run_slice_tl (P := Try.prog) w 30 37 (some ⟨b, o, none⟩) l1.length c1 k Try.underlying30 Try.sizeOf37 (by omega)
            have R0 := HRD.out.below HB2.out
            have R1 := R0.take k (by rw [rowsW_len]; omega)
            have R2 := R0.drop k (by rw [rowsW_len]; omega)
            generalize sliced (some ⟨b, o, none⟩) k l1.length c1 2 = s2 at hs2 R2
            have e1 : (rowsW l1).take k = rowsW (l1.take k) := by unfold rowsW; rw [List.map_take]
            have e2 : (rowsW l1).drop k = rowsW (l1.drop k) := by unfold rowsW; rw [List.map_drop]
            rw [e1] at R1
            rw [e2] at R2
            have htl : (l1.take k).length = k := by rw [List.length_take]; omega
            have hdl : (l1.drop k).length = l1.length - k := List.length_drop
            have HE := Lib.hid (show insW l1 ⟨id, tick⟩ = l1.take k ++ ⟨id, tick⟩ :: l1.drop k by unfold insW; rw [HK.out])
            clear HK HRD R0 e1 e2
            generalize l1.take k = lt at *
            generalize l1.drop k = ld at *
            have R1 := Lib.hid R1
            have R2 := Lib.hid R2
            have hw12 := HB2.out.size
            go_wp2_with (at_builtin; refine wpList_append_rdK rfl _ _ 30 rfl w2.heap.size 37 (.agg #[.int .i64 0, .int .i64 0]) 2 16 infoTr rfl (by decide) (by decide) Try.underlying30 _ 0 [] rfl (World.ownsRow_nil _ _ _ _) (fun _ => True) _ (rowsW lt) rfl ?aX1 (rowsW_two _) (rowsW_one _) ?aX2 (Nat.le_refl _) ?_)
            case aX1 => first | exact R1.out | (have h := R1.out; rw [htl] at *; exact h)
            case aX2 => rw [rowsW_len]; omega
            intro v1 w3 hown1 hgrow1
            have HB3 := Lib.hid (grown_below (Below.refl _ _) hgrow1 (fun g hg => by cases hg) (Nat.le_refl _))
            have hw3 : w2.heap.size ≤ w3.heap.size := HB3.out.size
            have bx3 : w3.heap[w.heap.size]? = some (.cells #[.int .i64 id, .int .i64 tick] 37 (0, 0)) := blk_below HB3.out bx2 (by omega)
            have y0 := blk_cell bx3 0
            have y1 := blk_cell bx3 1
            have HO1 := Lib.hid hown1
            clear hown1 hgrow1 bx2
            go_wp2_with (at_builtin; refine wpList_append_rdK rfl _ _ 30 rfl w2.heap.size 37 (.agg #[.int .i64 0, .int .i64 0]) 2 16 infoTr rfl (by decide) (by decide) Try.underlying30 _ _ _ rfl (HO1.out.alloc _) (fun _ => True) _ (rowsW [⟨id, tick⟩]) rfl ?aY1 (rowsW_two _) (rowsW_one _) ?aY2 ?aY3 ?_)
            case aY1 => exact (rdK_lit1 w3 (Tm.row ⟨id, tick⟩) #[.int .i64 id, .int .i64 tick] 37 rfl).imp fun _ _ _ => trivial
            case aY2 => rw [rowsW_len, rowsW_len]; simp; omega
            case aY3 => simp; omega
            intro v2 w4 hown2 hgrow2
            have HB4 := Lib.hid (grown_below (HB3.out.alloc (HB3.out.size) _) hgrow2 (fun g hg => owns_row HO1.out hg) (by simp; omega))
            have hw4 : w2.heap.size ≤ w4.heap.size := HB4.out.size
            have HO2 := Lib.hid hown2
            clear hown2 hgrow2
            go_wp2_with (at_builtin; refine wpList_append_rdK rfl _ _ 30 rfl w2.heap.size 37 (.agg #[.int .i64 0, .int .i64 0]) 2 16 infoTr rfl (by decide) (by decide) Try.underlying30 _ _ _ rfl HO2.out (fun _ => True) _ (rowsW ld) rfl ?aZ1 (rowsW_two _) (rowsW_one _) ?aZ2 ?aZ3 ?_)
            case aZ1 => exact R2.out.below HB4.out
            case aZ2 => rw [rowsW_len, rowsW_len, rowsW_len]; simp; omega
            case aZ3 => omega
            intro v3 w5 hown3 hgrow3
            have HB5 := Lib.hid (grown_below HB4.out hgrow3 (fun g hg => owns_row HO2.out hg) hw4)
            have HR := Lib.hid (show RdW w5 (fun b => K b ∨ w.heap.size ≤ b) v3 (setW l ⟨id, tick⟩) from by
              rw [HST.out, HE.out]
              have h := rdW_own (l := lt ++ ⟨id, tick⟩ :: ld) (n := (lt ++ ⟨id, tick⟩ :: ld).length) (by
                have e : (rowsW (lt ++ ⟨id, tick⟩ :: ld)).flatten = (rowsW lt).flatten ++ (rowsW [⟨id, tick⟩]).flatten ++ (rowsW ld).flatten := by unfold rowsW; simp
                have e2 : (lt ++ ⟨id, tick⟩ :: ld).length = 0 + (rowsW lt).length + (rowsW [⟨id, tick⟩]).length + (rowsW ld).length := by rw [rowsW_len, rowsW_len, rowsW_len]; simp; omega
                rw [e, e2]
                simpa using hown3) rfl
              exact h.imp fun b hb _ => .inr (by omega))
            have HBE := Lib.hid (show Below w.heap.size w w5 from HBW.out.trans ((HB2.out.mono (by omega)).trans (HB5.out.mono (by omega))))
            clear hown3 hgrow3
            obtain ⟨A3, c3, rfl, _, _⟩ := rdW_form HR.out
            go_wp2_with fail
            go_ret
            exact ⟨_, rfl, HR.out, HBE.out⟩
        · have de : (T.tick == tick) = false := by simpa using t2
          have HK := Lib.hid (HS.out.2 (by rw [dt, de]; simp))
          clear HS t1 t2
          go_wp2_with fail
          go_quiet (fail)
          obtain ⟨w2, hw2⟩ : ∃ w2, wr.drewN nq = w2 := ⟨_, rfl⟩
          rw [hw2]
          have HB2 := Lib.hid (show Below w1.heap.size w1 w2 by rw [← hw2]; exact ⟨HB.out.os, HB.out.tape, HB.out.output, HB.out.size, HB.out.block⟩)
          have bx2 : w2.heap[w.heap.size]? = some (.cells #[.int .i64 id, .int .i64 tick] 37 (0, 0)) := blk_below HB2.out HBX.out hw1
          clear hw2 HB bx c0 c1' g0 g1
          have hs1 := fun w => run_slice_hd (P := Try.prog) w 30 37 (some ⟨b, o, none⟩) l1.length c1 k Try.underlying30 Try.sizeOf37 (by omega)
          have hs2 := fun w => run_slice_tl (P := Try.prog) w 30 37 (some ⟨b, o, none⟩) l1.length c1 k Try.underlying30 Try.sizeOf37 (by omega)
          have R0 := HRD.out.below HB2.out
          have R1 := R0.take k (by rw [rowsW_len]; omega)
          have R2 := R0.drop k (by rw [rowsW_len]; omega)
          generalize sliced (some ⟨b, o, none⟩) k l1.length c1 2 = s2 at hs2 R2
          have e1 : (rowsW l1).take k = rowsW (l1.take k) := by unfold rowsW; rw [List.map_take]
          have e2 : (rowsW l1).drop k = rowsW (l1.drop k) := by unfold rowsW; rw [List.map_drop]
          rw [e1] at R1
          rw [e2] at R2
          have htl : (l1.take k).length = k := by rw [List.length_take]; omega
          have hdl : (l1.drop k).length = l1.length - k := List.length_drop
          have HE := Lib.hid (show insW l1 ⟨id, tick⟩ = l1.take k ++ ⟨id, tick⟩ :: l1.drop k by unfold insW; rw [HK.out])
          clear HK HRD R0 e1 e2
          generalize l1.take k = lt at *
          generalize l1.drop k = ld at *
          have R1 := Lib.hid R1
          have R2 := Lib.hid R2
          have hw12 := HB2.out.size
          go_wp2_with (at_builtin; refine wpList_append_rdK rfl _ _ 30 rfl w2.heap.size 37 (.agg #[.int .i64 0, .int .i64 0]) 2 16 infoTr rfl (by decide) (by decide) Try.underlying30 _ 0 [] rfl (World.ownsRow_nil _ _ _ _) (fun _ => True) _ (rowsW lt) rfl ?bX1 (rowsW_two _) (rowsW_one _) ?bX2 (Nat.le_refl _) ?_)
          case bX1 => first | exact R1.out | (have h := R1.out; rw [htl] at *; exact h)
          case bX2 => rw [rowsW_len]; omega
          intro v1 w3 hown1 hgrow1
          have HB3 := Lib.hid (grown_below (Below.refl _ _) hgrow1 (fun g hg => by cases hg) (Nat.le_refl _))
          have hw3 : w2.heap.size ≤ w3.heap.size := HB3.out.size
          have bx3 : w3.heap[w.heap.size]? = some (.cells #[.int .i64 id, .int .i64 tick] 37 (0, 0)) := blk_below HB3.out bx2 (by omega)
          have y0 := blk_cell bx3 0
          have y1 := blk_cell bx3 1
          have HO1 := Lib.hid hown1
          clear hown1 hgrow1 bx2
          go_wp2_with (at_builtin; refine wpList_append_rdK rfl _ _ 30 rfl w2.heap.size 37 (.agg #[.int .i64 0, .int .i64 0]) 2 16 infoTr rfl (by decide) (by decide) Try.underlying30 _ _ _ rfl (HO1.out.alloc _) (fun _ => True) _ (rowsW [⟨id, tick⟩]) rfl ?bY1 (rowsW_two _) (rowsW_one _) ?bY2 ?bY3 ?_)
          case bY1 => exact (rdK_lit1 w3 (Tm.row ⟨id, tick⟩) #[.int .i64 id, .int .i64 tick] 37 rfl).imp fun _ _ _ => trivial
          case bY2 => rw [rowsW_len, rowsW_len]; simp; omega
          case bY3 => simp; omega
          intro v2 w4 hown2 hgrow2
          have HB4 := Lib.hid (grown_below (HB3.out.alloc (HB3.out.size) _) hgrow2 (fun g hg => owns_row HO1.out hg) (by simp; omega))
          have hw4 : w2.heap.size ≤ w4.heap.size := HB4.out.size
          have HO2 := Lib.hid hown2
          clear hown2 hgrow2
          go_wp2_with (at_builtin; refine wpList_append_rdK rfl _ _ 30 rfl w2.heap.size 37 (.agg #[.int .i64 0, .int .i64 0]) 2 16 infoTr rfl (by decide) (by decide) Try.underlying30 _ _ _ rfl HO2.out (fun _ => True) _ (rowsW ld) rfl ?bZ1 (rowsW_two _) (rowsW_one _) ?bZ2 ?bZ3 ?_)
          case bZ1 => exact R2.out.below HB4.out
          case bZ2 => rw [rowsW_len, rowsW_len, rowsW_len]; simp; omega
          case bZ3 => omega
          intro v3 w5 hown3 hgrow3
          have HB5 := Lib.hid (grown_below HB4.out hgrow3 (fun g hg => owns_row HO2.out hg) hw4)
          have HR := Lib.hid (show RdW w5 (fun b => K b ∨ w.heap.size ≤ b) v3 (setW l ⟨id, tick⟩) from by
            rw [HST.out, HE.out]
            have h := rdW_own (l := lt ++ ⟨id, tick⟩ :: ld) (n := (lt ++ ⟨id, tick⟩ :: ld).length) (by
              have e : (rowsW (lt ++ ⟨id, tick⟩ :: ld)).flatten = (rowsW lt).flatten ++ (rowsW [⟨id, tick⟩]).flatten ++ (rowsW ld).flatten := by unfold rowsW; simp
              have e2 : (lt ++ ⟨id, tick⟩ :: ld).length = 0 + (rowsW lt).length + (rowsW [⟨id, tick⟩]).length + (rowsW ld).length := by rw [rowsW_len, rowsW_len, rowsW_len]; simp; omega
              rw [e, e2]
              simpa using hown3) rfl
            exact h.imp fun b hb _ => .inr (by omega))
          have HBE := Lib.hid (show Below w.heap.size w w5 from HBW.out.trans ((HB2.out.mono (by omega)).trans (HB5.out.mono (by omega))))
          clear hown3 hgrow3
          obtain ⟨A3, c3, rfl, _, _⟩ := rdW_form HR.out
          go_wp2_with fail
          go_ret
          exact ⟨_, rfl, HR.out, HBE.out⟩
    · have dk : decide (k < l1.length) = false := decide_eq_false hlt
      have dk2 : decide ((k : Int) < (l1.length : Int)) = false := decide_eq_false (by omega)
      have HK := Lib.hid (show lessW l1 ⟨id, tick⟩ = k by rw [hI, List.drop_of_length_le (by omega)]; rfl)
      have HB := Lib.hid hb
      clear hI hb
      have T : Tm := ⟨0, 0⟩
      go_wp2_with fail
      go_quiet (fail)
      obtain ⟨w2, hw2⟩ : ∃ w2, wr.drewN nq = w2 := ⟨_, rfl⟩
      rw [hw2]
      have HB2 := Lib.hid (show Below w1.heap.size w1 w2 by rw [← hw2]; exact ⟨HB.out.os, HB.out.tape, HB.out.output, HB.out.size, HB.out.block⟩)
      have bx2 : w2.heap[w.heap.size]? = some (.cells #[.int .i64 id, .int .i64 tick] 37 (0, 0)) := blk_below HB2.out HBX.out hw1
      clear hw2 HB bx c0 c1'
      have hs1 := fun w => run_slice_hd (P := Try.prog) w 30 37 A1 l1.length c1 k Try.underlying30 Try.sizeOf37 (by omega)
      have hs2 := fun w => run_slice_tl (P := Try.prog) w 30 37 A1 l1.length c1 k Try.underlying30 Try.sizeOf37 (by omega)
      have R0 := HRD.out.below HB2.out
      have R1 := R0.take k (by rw [rowsW_len]; omega)
      have R2 := R0.drop k (by rw [rowsW_len]; omega)
      generalize sliced A1 k l1.length c1 2 = s2 at hs2 R2
      have e1 : (rowsW l1).take k = rowsW (l1.take k) := by unfold rowsW; rw [List.map_take]
      have e2 : (rowsW l1).drop k = rowsW (l1.drop k) := by unfold rowsW; rw [List.map_drop]
      rw [e1] at R1
      rw [e2] at R2
      have htl : (l1.take k).length = k := by rw [List.length_take]; omega
      have hdl : (l1.drop k).length = l1.length - k := List.length_drop
      have HE := Lib.hid (show insW l1 ⟨id, tick⟩ = l1.take k ++ ⟨id, tick⟩ :: l1.drop k by unfold insW; rw [HK.out])
      clear HK HRD R0 e1 e2
      generalize l1.take k = lt at *
      generalize l1.drop k = ld at *
      have R1 := Lib.hid R1
      have R2 := Lib.hid R2
      have hw12 := HB2.out.size
      go_wp2_with (at_builtin; refine wpList_append_rdK rfl _ _ 30 rfl w2.heap.size 37 (.agg #[.int .i64 0, .int .i64 0]) 2 16 infoTr rfl (by decide) (by decide) Try.underlying30 _ 0 [] rfl (World.ownsRow_nil _ _ _ _) (fun _ => True) _ (rowsW lt) rfl ?cX1 (rowsW_two _) (rowsW_one _) ?cX2 (Nat.le_refl _) ?_)
      case cX1 => first | exact R1.out | (have h := R1.out; rw [htl] at *; exact h)
      case cX2 => rw [rowsW_len]; omega
      intro v1 w3 hown1 hgrow1
      have HB3 := Lib.hid (grown_below (Below.refl _ _) hgrow1 (fun g hg => by cases hg) (Nat.le_refl _))
      have hw3 : w2.heap.size ≤ w3.heap.size := HB3.out.size
      have bx3 : w3.heap[w.heap.size]? = some (.cells #[.int .i64 id, .int .i64 tick] 37 (0, 0)) := blk_below HB3.out bx2 (by omega)
      have y0 := blk_cell bx3 0
      have y1 := blk_cell bx3 1
      have HO1 := Lib.hid hown1
      clear hown1 hgrow1 bx2
      go_wp2_with (at_builtin; refine wpList_append_rdK rfl _ _ 30 rfl w2.heap.size 37 (.agg #[.int .i64 0, .int .i64 0]) 2 16 infoTr rfl (by decide) (by decide) Try.underlying30 _ _ _ rfl (HO1.out.alloc _) (fun _ => True) _ (rowsW [⟨id, tick⟩]) rfl ?cY1 (rowsW_two _) (rowsW_one _) ?cY2 ?cY3 ?_)
      case cY1 => exact (rdK_lit1 w3 (Tm.row ⟨id, tick⟩) #[.int .i64 id, .int .i64 tick] 37 rfl).imp fun _ _ _ => trivial
      case cY2 => rw [rowsW_len, rowsW_len]; simp; omega
      case cY3 => simp; omega
      intro v2 w4 hown2 hgrow2
      have HB4 := Lib.hid (grown_below (HB3.out.alloc (HB3.out.size) _) hgrow2 (fun g hg => owns_row HO1.out hg) (by simp; omega))
      have hw4 : w2.heap.size ≤ w4.heap.size := HB4.out.size
      have HO2 := Lib.hid hown2
      clear hown2 hgrow2
      go_wp2_with (at_builtin; refine wpList_append_rdK rfl _ _ 30 rfl w2.heap.size 37 (.agg #[.int .i64 0, .int .i64 0]) 2 16 infoTr rfl (by decide) (by decide) Try.underlying30 _ _ _ rfl HO2.out (fun _ => True) _ (rowsW ld) rfl ?cZ1 (rowsW_two _) (rowsW_one _) ?cZ2 ?cZ3 ?_)
      case cZ1 => exact R2.out.below HB4.out
      case cZ2 => rw [rowsW_len, rowsW_len, rowsW_len]; simp; omega
      case cZ3 => omega
      intro v3 w5 hown3 hgrow3
      have HB5 := Lib.hid (grown_below HB4.out hgrow3 (fun g hg => owns_row HO2.out hg) hw4)
      have HR := Lib.hid (show RdW w5 (fun b => K b ∨ w.heap.size ≤ b) v3 (setW l ⟨id, tick⟩) from by
        rw [HST.out, HE.out]
        have h := rdW_own (l := lt ++ ⟨id, tick⟩ :: ld) (n := (lt ++ ⟨id, tick⟩ :: ld).length) (by
          have e : (rowsW (lt ++ ⟨id, tick⟩ :: ld)).flatten = (rowsW lt).flatten ++ (rowsW [⟨id, tick⟩]).flatten ++ (rowsW ld).flatten := by unfold rowsW; simp
          have e2 : (lt ++ ⟨id, tick⟩ :: ld).length = 0 + (rowsW lt).length + (rowsW [⟨id, tick⟩]).length + (rowsW ld).length := by rw [rowsW_len, rowsW_len, rowsW_len]; simp; omega
          rw [e, e2]
          simpa using hown3) rfl
        exact h.imp fun b hb _ => .inr (by omega))
      have HBE := Lib.hid (show Below w.heap.size w w5 from HBW.out.trans ((HB2.out.mono (by omega)).trans (HB5.out.mono (by omega))))
      clear hown3 hgrow3
      obtain ⟨A3, c3, rfl, _, _⟩ := rdW_form HR.out
      go_wp2_with fail
      go_ret
      exact ⟨_, rfl, HR.out, HBE.out⟩
theorem tset_any (v : Value) (l : List Tm) (x : Tm) (K : Nat → Prop) (w : World) (hn : l.length ≤ 100000) (h : RdW w K v l) :
    Calls Try.prog 9 #[v, x.val] w fun e w' => ∃ u, e = .returned u ∧ RdW w' (fun b => K b ∨ w.heap.size ≤ b) u (setW l x) ∧ Below w.heap.size w w' := by
  cases hm : mayW x.tick with
  | false => exact tset_no v l x K w h hm
  | true => exact tset_yes v l x K w hn h hm
end Go.Proofs.Ytpdlpnfaclpgbaa
