/- What the document's Jobs and SameJobs come to. Conditions: lists of at most 100,000 jobs. -/
import Derived.Test.YtalpocgajecjbaaJbR
import Derived.Test.YtalpocgajecjbaaHolds
import Derived.Deep.DeepCutAuto
import Derived.Deep.CutBlock
namespace Go.Proofs.Ytalpocgajecjbaa
open Go.ChangeShapes Go.WideShapes Go.ChangeAt Go.RowKit
set_option linter.unusedVariables false
set_option maxRecDepth 100000
set_option linter.unusedSimpArgs false

/-- A job's eight cells, from an offset on. -/
def J8 (b o : Nat) (x : Jb) (w : World) : Prop := w.cell? ⟨b, o, none⟩ = some (.int .i64 x.id) ∧ w.cell? ⟨b, o + 1, none⟩ = some (.int .i64 x.prio) ∧ w.cell? ⟨b, o + 2, none⟩ = some (.int .i64 x.seq) ∧ w.cell? ⟨b, o + 3, none⟩ = some (.int .i64 x.phase) ∧ w.cell? ⟨b, o + 4, none⟩ = some (.int .i64 x.node) ∧ w.cell? ⟨b, o + 5, none⟩ = some (.int .i64 x.need.a) ∧ w.cell? ⟨b, o + 6, none⟩ = some (.int .i64 x.need.b) ∧ w.cell? ⟨b, o + 7, none⟩ = some (.int .i64 x.need.c)
theorem j8_of {w : World} {K : Nat → Prop} {A : Option Addr} {l : List Jb} {n c k : Nat} (h : RdK 8 w K (.slice A n c) (rowsJ l)) (hk : k < l.length) : ∃ b o, A = some ⟨b, o, none⟩ ∧ b < w.heap.size ∧ ∀ i (hi : i < l.length), J8 b (o + i * 8) l[i] w := by
  obtain ⟨b, o, ha, hb, _, hx⟩ := h.at_ (k := k) (by rw [rowsJ_len]; exact hk)
  exact ⟨b, o, ha, hb, fun i hi => ⟨hx i _ (rowsJ_get l i hi) 0 _ rfl, hx i _ (rowsJ_get l i hi) 1 _ rfl, hx i _ (rowsJ_get l i hi) 2 _ rfl, hx i _ (rowsJ_get l i hi) 3 _ rfl, hx i _ (rowsJ_get l i hi) 4 _ rfl, hx i _ (rowsJ_get l i hi) 5 _ rfl, hx i _ (rowsJ_get l i hi) 6 _ rfl, hx i _ (rowsJ_get l i hi) 7 _ rfl⟩⟩
theorem J8.below {b o : Nat} {x : Jb} {w w' : World} {B : Nat} (h : J8 b o x w) (hb : Below B w w') (hB : b < B) : J8 b o x w' := by
  obtain ⟨h0, h1, h2, h3, h4, h5, h6, h7⟩ := h
  exact ⟨(hb.cell (p := ⟨b, o, none⟩) hB).trans h0, (hb.cell (p := ⟨b, o + 1, none⟩) hB).trans h1, (hb.cell (p := ⟨b, o + 2, none⟩) hB).trans h2, (hb.cell (p := ⟨b, o + 3, none⟩) hB).trans h3, (hb.cell (p := ⟨b, o + 4, none⟩) hB).trans h4, (hb.cell (p := ⟨b, o + 5, none⟩) hB).trans h5, (hb.cell (p := ⟨b, o + 6, none⟩) hB).trans h6, (hb.cell (p := ⟨b, o + 7, none⟩) hB).trans h7⟩
theorem jb_row (x : Jb) : x.row = [.int .i64 x.id, .int .i64 x.prio, .int .i64 x.seq, .int .i64 x.phase, .int .i64 x.node, .int .i64 x.need.a, .int .i64 x.need.b, .int .i64 x.need.c] := rfl
theorem owns_base {w : World} {base base' size n : Nat} {e : TypeId} {v : Value} {xs : List Value} (h : w.ownsRow base e size v n xs) (hb : base' ≤ base) : w.ownsRow base' e size v n xs := by
  refine ⟨h.1, ?_⟩
  rcases h.2 with h2 | ⟨g, cap, cur, hv, h0, h3⟩
  · exact .inl h2
  · exact .inr ⟨g, cap, cur, hv, Nat.le_trans hb h0, h3⟩
theorem bx_grew {w w' : World} (h : Grw w w') : Below w.heap.size w w' := h.below
theorem rowsJ_snoc (l : List Jb) (x : Jb) : (rowsJ (l ++ [x])).flatten = (rowsJ l).flatten ++ x.row := by simp [rowsJ]
theorem rowsJ_mid (l r : List Jb) (x : Jb) : (rowsJ (l ++ x :: r)).flatten = (rowsJ l).flatten ++ x.row ++ (rowsJ r).flatten := by simp [rowsJ]
set_option maxHeartbeats 8000000 in
theorem kjobs_any (v : Value) (l : List Jb) (K : Nat → Prop) (w : World) (hn : l.length ≤ 100000) (h : RdK 8 w K v (rowsJ l)) :
    Calls Try.prog 21 #[v] w (JobsR (stb jobB l) w) := by
  obtain ⟨i0, hi, hz0, hz1, hz2⟩ := info_parts infoJ
  obtain ⟨A, c, rfl, hc, _⟩ := h.form
  have H := Lib.hid fun k (hk : k < l.length) => j8_of h hk
  rw [rowsJ_len]
  unfold JobsR
  clear h hc
  go_enter Try.func21, Try.ntmps21
  go_wp2_with fail
  go_loopw [3, 4] (fun vo i wo => ∃ k : Nat, k ≤ l.length ∧ i = .int .i64 k ∧ wo.ownsRow w.heap.size 37 8 vo k (rowsJ (stb jobB (l.take k))).flatten ∧ Below w.heap.size w wo ∧ (k = 0 → vo = .slice none 0 0)) (fun _ i _ => l.length - (intOf i).toNat)
  case atStart => exact ⟨0, by omega, rfl, World.ownsRow_nil _ _ _ _, Below.refl _ _, fun _ => rfl⟩
  case round =>
    obtain ⟨k, hk, rfl, hown, hb, h0⟩ := hrel
    rename World => wo
    have hw3 : w.heap.size ≤ wo.heap.size := hb.size
    by_cases hlt : k < l.length
    · have dk : decide (k < l.length) = true := decide_eq_true hlt
      obtain ⟨b, o, rfl, hbl, hx⟩ := H.out k hlt
      have HXC := Lib.hid (show ∀ w', Below wo.heap.size wo w' → J8 b (o + k * 8) l[k] w' from fun w' hb' => (hx k hlt).below (hb.trans (hb'.mono hw3)) hbl)
      have hnext : stb jobB (l.take (k + 1)) = ins jobB l[k] (stb jobB (l.take k)) := by rw [List.take_succ_eq_append_getElem hlt, stb_append]
      have hasc := asc_stb swoJ (l.take k)
      have hlen : (stb jobB (l.take k)).length = k := by rw [stb_len, List.length_take]; omega
      obtain ⟨S, hS⟩ : ∃ S, stb jobB (l.take k) = S := ⟨_, rfl⟩
      rw [hS] at hown hnext hasc hlen
      obtain ⟨x, hxE⟩ : ∃ x, l[k] = x := ⟨_, rfl⟩
      rw [hxE] at HXC hnext
      clear hx hS hxE
      have HNX := Lib.hid hnext
      have HAS := Lib.hid hasc
      have HO := Lib.hid hown
      have HB := Lib.hid hb
      have HS := Lib.hid hlen
      have HR8 := Lib.hid (jrow_one x)
      unfold Jb.row at HR8
      clear hnext hasc hb
      rcases own_formJ hown with ⟨rfl, hk0⟩ | ⟨g, cap, rfl⟩
      · subst hk0
        obtain rfl : S = [] := List.eq_nil_of_length_eq_zero hlen
        clear hown h0 hlen
        go_upto_block 2 with (fail)
        go_cut [5] from 15 to 30 (fun s5 wx => s5 = .int .i64 0 ∧ ∃ wy, Below wo.heap.size wo wy ∧ wy = wx)
        case first =>
          go_wp2_with fail
          go_loopw [5] (fun s5 wx => s5 = .int .i64 0 ∧ wo = wx) (fun _ _ => 0)
          case atStart => exact ⟨rfl, rfl⟩
          case round =>
            obtain ⟨rfl, rfl⟩ := hrel
            go_wp2_with fail
            have AH := Lib.hid fun w => kjob_any x x w
            refine wp_region_hold (fun w' => Below wo.heap.size wo w') (by kernel_rfl) (by kernel_rfl) ⟨rfl, rfl, rfl, Nat.le_refl _, fun _ _ => rfl⟩ ?_
            repeat
              first
              | (refine hold_val (v := ?_) (by rfl) ?_ ?_
                 rotate_left
                 · (intro w' hS
                    go_simp
                    try with_reducible rfl)
                 simp only [Act.put, List.setIfInBounds_toArray, List.set_cons_zero, List.set_cons_succ])
              | (refine hold_skip (by rfl) ?_
                 simp only [Act.put, List.setIfInBounds_toArray, List.set_cons_zero, List.set_cons_succ])
            refine hold_nil (fun wx hS => ?_)
            have HS1 := Lib.hid hS
            clear hS AH
            go_wp2_with fail
            go_meet
            exact ⟨rfl, _, HS1.out, rfl⟩
        case rest =>
          obtain ⟨rfl, wy, hby, rfl⟩ := hcut
          have HBY := Lib.hid (HB.out.trans (hby.mono hw3))
          obtain ⟨c0, c1, c2, c3, c4, c5, c6, c7⟩ := HXC.out wy hby
          simp only [Nat.zero_mul, Nat.add_zero] at c0 c1 c2 c3 c4 c5 c6 c7
          have hwy : w.heap.size ≤ wy.heap.size := HBY.out.size
          clear hby HB HO HXC
          go_wp2_with (at_builtin; first | (refine wpList_append_own_none rfl _ _ 33 rfl wy.heap.size 37 i0 8 Try.underlying33 hi _ _ _ rfl (World.ownsRow_nil _ _ _ _) rfl ?_) | (refine wpList_append_own _ rfl _ _ 33 rfl wy.heap.size 37 i0 (.agg #[.int .i64 0, .int .i64 0, .int .i64 0, .int .i64 0, .int .i64 0, .int .i64 0, .int .i64 0, .int .i64 0]) 8 64 Try.underlying33 hi hz0 hz1 hz2 rfl (by decide) _ _ _ rfl (World.ownsRow_nil _ wy.heap.size 37 8) ⟨wy.heap.size, 0, none⟩ 1 1 [.int .i64 x.id, .int .i64 x.prio, .int .i64 x.seq, .int .i64 x.phase, .int .i64 x.node, .int .i64 x.need.a, .int .i64 x.need.b, .int .i64 x.need.c] rfl rfl (cells_new _ _ _) ?c2 ?c3 ?c4 ?c5 ?_))
          case c2 => exact HR8.out
          case c3 => unfold maxLen; omega
          case c4 => omega
          case c5 => first | (simp; done) | (simp; omega)
          intro v4 w4 hown4 hgrow _
          have HB4 := Lib.hid (grown_below (HBY.out.alloc HBY.out.size _) hgrow (fun g hg => by cases hg) (by simp; omega))
          have HO4 := Lib.hid hown4
          clear hown4 hgrow c0 c1 c2 c3 c4 c5 c6 c7
          go_wp2_with (at_builtin; refine wpList_append_own_none rfl _ _ 33 rfl wy.heap.size 37 i0 8 Try.underlying33 hi _ _ _ rfl HO4.out rfl ?_)
          have HO5 := Lib.hid (show w4.ownsRow w.heap.size 37 8 v4 (0 + 1) (rowsJ (stb jobB (l.take (0 + 1)))).flatten from by
            have e : (rowsJ (stb jobB (l.take (0 + 1)))).flatten = [.int .i64 x.id, .int .i64 x.prio, .int .i64 x.seq, .int .i64 x.phase, .int .i64 x.node, .int .i64 x.need.a, .int .i64 x.need.b, .int .i64 x.need.c] := by rw [HNX.out]; rfl
            rw [e]; exact owns_base (by simpa using HO4.out) hwy)
          go_wp2_with fail
          go_roundw
          case rel => exact ⟨0 + 1, by omega, by go_num, HO5.out, HB4.out, fun h => absurd h (by omega)⟩
          case measure => simp [intOf]; omega
      · have hk1 : 0 < k := by
          rcases Nat.eq_zero_or_pos k with h | h
          · have := h0 h; cases this
          · exact h
        have hcap : k ≤ cap ∧ cap ≤ maxLen := by
          rcases hown.2 with ⟨e, _⟩ | ⟨_, _, _, e, _, _, q2, q3, _⟩
          · cases e
          · cases e; exact ⟨q2, q3⟩
        have hrd := RdK.own hown (by rw [rowsJ_len]; exact hlen) (rowsJ_eight S)
        obtain ⟨_, _, hg0, hgl, hS8⟩ := j8_of hrd (k := 0) (by omega)
        cases hg0
        have HSC := Lib.hid (show ∀ q (hq : q < S.length) w', Below wo.heap.size wo w' → J8 g (q * 8) S[q] w' from fun q hq w' hb' => by
          have := (hS8 q hq).below hb' hgl
          rwa [Nat.zero_add] at this)
        have HRD := Lib.hid hrd
        clear hown h0 hrd hS8
        go_upto_block 2 with (fail)
        go_cut [5] from 15 to 30 (fun s5 wx => ∃ (q : Nat) (wy : World), s5 = .int .i64 q ∧ q ≤ k ∧ Below wo.heap.size wo wy ∧ ins jobB x S = S.take q ++ x :: S.drop q ∧ wy = wx)
        case first =>
          go_wp2_with fail
          go_loopw [5] (fun s5 wr => ∃ q : Nat, s5 = .int .i64 q ∧ q ≤ k ∧ Below wo.heap.size wo wr ∧ (∀ j (hj : j < S.length), q ≤ j → jobB x (S[j]'hj) = true)) (fun s5 _ => (intOf s5).toNat)
          case atStart => exact ⟨k, rfl, Nat.le_refl _, Below.refl _ _, fun j hj hq => absurd hj (by have := HS.out; omega)⟩
          case round =>
            obtain ⟨q, rfl, hqk, hbi, hall⟩ := hrel
            have HALL := Lib.hid hall
            have HBI := Lib.hid hbi
            clear hall hbi
            by_cases hq0 : q = 0
            · subst hq0
              have HE := Lib.hid (show ins jobB x S = S.take 0 ++ x :: S.drop 0 from by
                rw [List.take_zero, List.drop_zero, List.nil_append]
                have := ins_at (lt := jobB) x [] S (fun a ha => by cases ha) (fun b hb => by
                  obtain ⟨j, hj, rfl⟩ := List.getElem_of_mem hb
                  exact HALL.out j hj (Nat.zero_le _))
                simpa using this)
              go_wp2_with fail
              have AH := Lib.hid fun w => kjob_any x x w
              refine wp_region_hold (fun w' => Below wr.heap.size wr w') (by kernel_rfl) (by kernel_rfl) ⟨rfl, rfl, rfl, Nat.le_refl _, fun _ _ => rfl⟩ ?_
              repeat
                first
                | (refine hold_val (v := ?_) (by rfl) ?_ ?_
                   rotate_left
                   · (intro w' hS
                      go_simp
                      try with_reducible rfl)
                   simp only [Act.put, List.setIfInBounds_toArray, List.set_cons_zero, List.set_cons_succ])
                | (refine hold_skip (by rfl) ?_
                   simp only [Act.put, List.setIfInBounds_toArray, List.set_cons_zero, List.set_cons_succ])
              refine hold_nil (fun wx hS => ?_)
              have HS1 := Lib.hid (HBI.out.trans (hS.mono HBI.out.size))
              clear hS AH
              go_wp2_with fail
              go_meet
              exact ⟨0, _, rfl, Nat.zero_le _, HS1.out, HE.out, rfl⟩
            · obtain ⟨p, rfl⟩ : ∃ p, q = p + 1 := ⟨q - 1, by omega⟩
              have hps : p < S.length := by have := HS.out; omega
              have HYC := Lib.hid (HSC.out p hps)
              have dq : decide ((0 : Int) < ((p + 1 : Nat) : Int)) = true := decide_eq_true (by omega)
              have dq2 : decide ((0 : Int) < (p : Int) + 1) = true := decide_eq_true (by omega)
              have i0 : (0 : Int) ≤ (p : Int) := by omega
              have i1 : (p : Int) < (k : Int) := by omega
              have r1 : IntKind.i64.wrap ((p : Int) + 1 - 1) = (p : Int) := by rw [IntWalk.i64_in _ (by omega)]; omega
              have r2 : IntKind.i64.wrap (((p + 1 : Nat) : Int) - 1) = (p : Int) := by rw [IntWalk.i64_in _ (by omega)]; omega
              have HUP := Lib.hid (show jobB x S[p] = true → ∀ j (hj : j < S.length), p ≤ j → jobB x (S[j]'hj) = true from fun h1 j hj hpj => by
                by_cases e : j = p
                · subst e; exact h1
                · exact HALL.out j hj (by omega))
              have HDN := Lib.hid (show jobB x S[p] = false → ins jobB x S = S.take (p + 1) ++ x :: S.drop (p + 1) from fun h1 => by
                have := ins_at (lt := jobB) x (S.take (p + 1)) (S.drop (p + 1)) (fun a ha => by
                  obtain ⟨j, hj, rfl⟩ := List.getElem_of_mem ha
                  rw [List.length_take] at hj
                  rw [List.getElem_take]
                  exact swoJ.ntrans _ _ _ h1 (asc_at HAS.out (by omega) hps swoJ)) (fun b hb => by
                  obtain ⟨j, hj, rfl⟩ := List.getElem_of_mem hb
                  rw [List.length_drop] at hj
                  rw [List.getElem_drop]
                  exact HALL.out _ (by omega) (by omega))
                rwa [List.take_append_drop] at this)
              have r3 : IntKind.i64.wrap (p : Int) = (p : Int) := IntWalk.i64_in _ (by omega)
              have hpk : p < k := by omega
              clear HALL hq0
              generalize S[p] = y at *
              cases hv : jobB x y with
              | true =>
                replace HUP := Lib.hid (HUP.out hv)
                clear HDN
                have AH := Lib.hid (show ∀ w, Calls Try.prog 18 #[x.val, y.val] w fun e w' => e = .returned (.bool true) ∧ Grw w w' from fun w => by
                  have := kjob_any x y w
                  rw [hv] at this
                  exact this)
                unfold Jb.val at AH
                clear hv
                have hwq : wo.heap.size ≤ wr.heap.size := HBI.out.size
                have HL := Lib.hid (show ∀ w', Below wr.heap.size wr w' → (w'.cell? ⟨b, o + k * 8, none⟩ = some (.int .i64 x.id) ∧ w'.cell? ⟨b, o + k * 8 + 1, none⟩ = some (.int .i64 x.prio) ∧ w'.cell? ⟨b, o + k * 8 + 2, none⟩ = some (.int .i64 x.seq) ∧ w'.cell? ⟨b, o + k * 8 + 3, none⟩ = some (.int .i64 x.phase) ∧ w'.cell? ⟨b, o + k * 8 + 4, none⟩ = some (.int .i64 x.node) ∧ w'.cell? ⟨b, o + k * 8 + 5, none⟩ = some (.int .i64 x.need.a) ∧ w'.cell? ⟨b, o + k * 8 + 6, none⟩ = some (.int .i64 x.need.b) ∧ w'.cell? ⟨b, o + k * 8 + 7, none⟩ = some (.int .i64 x.need.c)) ∧ (w'.cell? ⟨g, p * 8, none⟩ = some (.int .i64 y.id) ∧ w'.cell? ⟨g, p * 8 + 1, none⟩ = some (.int .i64 y.prio) ∧ w'.cell? ⟨g, p * 8 + 2, none⟩ = some (.int .i64 y.seq) ∧ w'.cell? ⟨g, p * 8 + 3, none⟩ = some (.int .i64 y.phase) ∧ w'.cell? ⟨g, p * 8 + 4, none⟩ = some (.int .i64 y.node) ∧ w'.cell? ⟨g, p * 8 + 5, none⟩ = some (.int .i64 y.need.a) ∧ w'.cell? ⟨g, p * 8 + 6, none⟩ = some (.int .i64 y.need.b) ∧ w'.cell? ⟨g, p * 8 + 7, none⟩ = some (.int .i64 y.need.c)) from fun w' hb' => ⟨HXC.out w' (HBI.out.trans (hb'.mono hwq)), HYC.out w' (HBI.out.trans (hb'.mono hwq))⟩)
                go_wp2_with fail
                refine wp_region_hold (fun w' => Below wr.heap.size wr w') (by kernel_rfl) (by kernel_rfl) ⟨rfl, rfl, rfl, Nat.le_refl _, fun _ _ => rfl⟩ ?_
                repeat
                  first
                  | (refine hold_val (v := ?_) (by rfl) ?_ ?_
                     rotate_left
                     · (intro w' hS
                        obtain ⟨⟨_, _, _, _, _, _, _, _⟩, ⟨_, _, _, _, _, _, _, _⟩⟩ := HL.out w' hS
                        go_simp
                        try with_reducible rfl)
                     simp only [Act.put, List.setIfInBounds_toArray, List.set_cons_zero, List.set_cons_succ])
                  | (refine hold_skip (by rfl) ?_
                     simp only [Act.put, List.setIfInBounds_toArray, List.set_cons_zero, List.set_cons_succ])
                  | (refine hold_call (by rfl) ?_ (fun w' hS => made_call hS (Nat.le_refl _) ((AH.out w').mono fun e w2 h => ⟨h.1, h.2.below⟩)) ?_; focus (intro w' hS; go_simp; done)
                     simp only [Act.put, List.setIfInBounds_toArray, List.set_cons_zero, List.set_cons_succ])
                refine hold_nil (fun wx hS => ?_)
                replace HBI := Lib.hid (HBI.out.trans (hS.mono hwq))
                clear hS AH HL
                go_wp2_with fail
                go_roundw
                case rel => exact ⟨p, by go_num, by omega, HBI.out, HUP.out⟩
                case measure => simp [intOf]
              | false =>
                replace HDN := Lib.hid (HDN.out hv)
                clear HUP
                have AH := Lib.hid (show ∀ w, Calls Try.prog 18 #[x.val, y.val] w fun e w' => e = .returned (.bool false) ∧ Grw w w' from fun w => by
                  have := kjob_any x y w
                  rw [hv] at this
                  exact this)
                unfold Jb.val at AH
                clear hv
                have hwq : wo.heap.size ≤ wr.heap.size := HBI.out.size
                have HL := Lib.hid (show ∀ w', Below wr.heap.size wr w' → (w'.cell? ⟨b, o + k * 8, none⟩ = some (.int .i64 x.id) ∧ w'.cell? ⟨b, o + k * 8 + 1, none⟩ = some (.int .i64 x.prio) ∧ w'.cell? ⟨b, o + k * 8 + 2, none⟩ = some (.int .i64 x.seq) ∧ w'.cell? ⟨b, o + k * 8 + 3, none⟩ = some (.int .i64 x.phase) ∧ w'.cell? ⟨b, o + k * 8 + 4, none⟩ = some (.int .i64 x.node) ∧ w'.cell? ⟨b, o + k * 8 + 5, none⟩ = some (.int .i64 x.need.a) ∧ w'.cell? ⟨b, o + k * 8 + 6, none⟩ = some (.int .i64 x.need.b) ∧ w'.cell? ⟨b, o + k * 8 + 7, none⟩ = some (.int .i64 x.need.c)) ∧ (w'.cell? ⟨g, p * 8, none⟩ = some (.int .i64 y.id) ∧ w'.cell? ⟨g, p * 8 + 1, none⟩ = some (.int .i64 y.prio) ∧ w'.cell? ⟨g, p * 8 + 2, none⟩ = some (.int .i64 y.seq) ∧ w'.cell? ⟨g, p * 8 + 3, none⟩ = some (.int .i64 y.phase) ∧ w'.cell? ⟨g, p * 8 + 4, none⟩ = some (.int .i64 y.node) ∧ w'.cell? ⟨g, p * 8 + 5, none⟩ = some (.int .i64 y.need.a) ∧ w'.cell? ⟨g, p * 8 + 6, none⟩ = some (.int .i64 y.need.b) ∧ w'.cell? ⟨g, p * 8 + 7, none⟩ = some (.int .i64 y.need.c)) from fun w' hb' => ⟨HXC.out w' (HBI.out.trans (hb'.mono hwq)), HYC.out w' (HBI.out.trans (hb'.mono hwq))⟩)
                go_wp2_with fail
                refine wp_region_hold (fun w' => Below wr.heap.size wr w') (by kernel_rfl) (by kernel_rfl) ⟨rfl, rfl, rfl, Nat.le_refl _, fun _ _ => rfl⟩ ?_
                repeat
                  first
                  | (refine hold_val (v := ?_) (by rfl) ?_ ?_
                     rotate_left
                     · (intro w' hS
                        obtain ⟨⟨_, _, _, _, _, _, _, _⟩, ⟨_, _, _, _, _, _, _, _⟩⟩ := HL.out w' hS
                        go_simp
                        try with_reducible rfl)
                     simp only [Act.put, List.setIfInBounds_toArray, List.set_cons_zero, List.set_cons_succ])
                  | (refine hold_skip (by rfl) ?_
                     simp only [Act.put, List.setIfInBounds_toArray, List.set_cons_zero, List.set_cons_succ])
                  | (refine hold_call (by rfl) ?_ (fun w' hS => made_call hS (Nat.le_refl _) ((AH.out w').mono fun e w2 h => ⟨h.1, h.2.below⟩)) ?_; focus (intro w' hS; go_simp; done)
                     simp only [Act.put, List.setIfInBounds_toArray, List.set_cons_zero, List.set_cons_succ])
                refine hold_nil (fun wx hS => ?_)
                replace HBI := Lib.hid (HBI.out.trans (hS.mono hwq))
                clear hS AH HL
                go_wp2_with fail
                go_meet
                exact ⟨p + 1, _, by go_num, hqk, HBI.out, HDN.out, rfl⟩
        case rest =>
          obtain ⟨q, wy, rfl, hqk, hby, hins, rfl⟩ := hcut
          have HBY := Lib.hid (HB.out.trans (hby.mono hw3))
          have HOY := Lib.hid hby
          have HIN := Lib.hid hins
          have HT := Lib.hid (show ∀ j u, (rowsJ (S.take q)).flatten[j]? = some u → wy.cell? ((⟨g, 0, none⟩ : Addr).add j) = some u from fun j u hj => by
            have h2 := RdK.cells (HRD.out.below hby) (by omega) (rowsJ_eight S)
            refine h2 j u ?_
            have e : (rowsJ S).flatten = (rowsJ (S.take q)).flatten ++ (rowsJ (S.drop q)).flatten := by rw [← List.flatten_append, ← rowsJ_append, List.take_append_drop]
            rw [e, List.getElem?_append_left ((List.getElem?_eq_some_iff.1 hj).1)]
            exact hj)
          have HTL := Lib.hid (show (rowsJ (S.take q)).flatten.length = q * 8 by rw [rowsJ_flat, List.length_take]; have := HS.out; congr 1; omega)
          have HTO := Lib.hid (rowsJ_one (S.take q))
          have hwy : w.heap.size ≤ wy.heap.size := HBY.out.size
          have i0q : (0 : Int) ≤ (q : Int) := by omega
          have i1q : (q : Int) ≤ (k : Int) := by omega
          have i2q : (q : Int) ≤ (cap : Int) := by omega
          have hcapm := hcap.2
          have hcapk := hcap.1
          clear hins hby
          go_wp2_with (at_builtin; refine wpList_append_own _ rfl _ _ 33 rfl wy.heap.size 37 i0 (.agg #[.int .i64 0, .int .i64 0, .int .i64 0, .int .i64 0, .int .i64 0, .int .i64 0, .int .i64 0, .int .i64 0]) 8 64 Try.underlying33 hi hz0 hz1 hz2 rfl (by decide) _ _ _ rfl (World.ownsRow_nil _ wy.heap.size 37 8) ⟨g, 0, none⟩ q cap (rowsJ (S.take q)).flatten rfl HTL.out HT.out HTO.out ?c3 ?c4 ?c5 ?_)
          case c3 => unfold maxLen; omega
          case c4 => omega
          case c5 => exact Nat.le_refl _
          intro v4 w4 hown4 hgrow _
          have HY4 := Lib.hid (grown_below (Below.refl wy.heap.size wy) hgrow (fun g hg => by cases hg) (Nat.le_refl _))
          have HO4 := Lib.hid hown4
          have hw4 : wy.heap.size ≤ w4.heap.size := HY4.out.size
          clear hown4 hgrow HT
          obtain ⟨c0, c1, c2, c3, c4, c5, c6, c7⟩ := HXC.out w4 (HOY.out.trans (HY4.out.mono HOY.out.size))
          go_wp2_with (at_builtin; refine wpList_append_own _ rfl _ _ 33 rfl wy.heap.size 37 i0 (.agg #[.int .i64 0, .int .i64 0, .int .i64 0, .int .i64 0, .int .i64 0, .int .i64 0, .int .i64 0, .int .i64 0]) 8 64 Try.underlying33 hi hz0 hz1 hz2 rfl (by decide) _ _ _ rfl (HO4.out.alloc _) ⟨w4.heap.size, 0, none⟩ 1 1 [.int .i64 x.id, .int .i64 x.prio, .int .i64 x.seq, .int .i64 x.phase, .int .i64 x.node, .int .i64 x.need.a, .int .i64 x.need.b, .int .i64 x.need.c] rfl rfl (cells_new _ _ _) ?d2 ?d3 ?d4 ?d5 ?_)
          case d2 => exact HR8.out
          case d3 => unfold maxLen; omega
          case d4 => omega
          case d5 => simp; omega
          intro v5 w5 hown5 hgrow _
          have HY5 := Lib.hid (grown_below (HY4.out.alloc HY4.out.size _) hgrow (fun g hg => owns_row HO4.out hg) (by simp; omega))
          have HO5 := Lib.hid hown5
          have hw5 : wy.heap.size ≤ w5.heap.size := HY5.out.size
          clear hown5 hgrow c0 c1 c2 c3 c4 c5 c6 c7
          have HRW := Lib.hid (show (rowsJ (stb jobB (l.take (k + 1)))).flatten = (rowsJ (S.take q)).flatten ++ [.int .i64 x.id, .int .i64 x.prio, .int .i64 x.seq, .int .i64 x.phase, .int .i64 x.node, .int .i64 x.need.a, .int .i64 x.need.b, .int .i64 x.need.c] ++ (rowsJ (S.drop q)).flatten by rw [HNX.out, HIN.out, rowsJ_mid]; rfl)
          by_cases hcq : cap = q
          · have hqS : q = k := by omega
            have hdr : (rowsJ (S.drop q)).flatten = [] := by rw [List.drop_eq_nil_of_le (by have := HS.out; omega)]; rfl
            rw [hdr] at HRW
            have HQS := Lib.hid hqS
            subst hcq
            clear hqS hdr
            have hzz : k - cap = 0 := by omega
            go_wp2_with (at_builtin; refine wpList_append_own _ rfl _ _ 33 rfl wy.heap.size 37 i0 (.agg #[.int .i64 0, .int .i64 0, .int .i64 0, .int .i64 0, .int .i64 0, .int .i64 0, .int .i64 0, .int .i64 0]) 8 64 Try.underlying33 hi hz0 hz1 hz2 rfl (by decide) _ _ _ rfl HO5.out ⟨g, 0, none⟩ 0 _ [] rfl rfl (fun j u h => by simp at h) (fun u h => by cases h) ?g03 ?g04 ?g05 ?_)
            case g03 => unfold maxLen; omega
            case g04 => omega
            case g05 => omega
            intro v6 w6 hown6 hgrow _
            have HY6 := Lib.hid (grown_below HY5.out hgrow (fun g hg => owns_row HO5.out hg) hw5)
            have HO6 := Lib.hid (show w6.ownsRow w.heap.size 37 8 v6 (k + 1) (rowsJ (stb jobB (l.take (k + 1)))).flatten from by
              rw [HRW.out]
              have e := owns_base hown6 hwy
              rw [← HQS.out]
              simpa using e)
            have HB6 := Lib.hid (HBY.out.trans (HY6.out.mono hwy))
            clear hown6 hgrow
            go_wp2_with fail
            go_roundw
            case rel => exact ⟨k + 1, by omega, by go_num, HO6.out, HB6.out, fun h => absurd h (by omega)⟩
            case measure => simp [intOf]; omega
          · have HCL := Lib.hid (show ∀ j u, (rowsJ (S.drop q)).flatten[j]? = some u → w5.cell? ((⟨g, q * 8, none⟩ : Addr).add j) = some u from by
              have hd := (HRD.out.drop q (by rw [rowsJ_len]; have := HS.out; omega)).below (HOY.out.trans (HY5.out.mono HOY.out.size))
              rw [show (rowsJ S).drop q = rowsJ (S.drop q) by simp [rowsJ]] at hd
              unfold sliced at hd
              rw [if_neg hcq] at hd
              have h2 := RdK.cells hd (by omega) (rowsJ_eight _)
              intro j u hj
              rw [← h2 j u hj]
              congr 2
              unfold Addr.add; simp)
            have HLN := Lib.hid (show (rowsJ (S.drop q)).flatten.length = (k - q) * 8 by rw [rowsJ_flat, List.length_drop, HS.out])
            have HON := Lib.hid (rowsJ_one (S.drop q))
            go_wp2_with (at_builtin; refine wpList_append_own _ rfl _ _ 33 rfl wy.heap.size 37 i0 (.agg #[.int .i64 0, .int .i64 0, .int .i64 0, .int .i64 0, .int .i64 0, .int .i64 0, .int .i64 0, .int .i64 0]) 8 64 Try.underlying33 hi hz0 hz1 hz2 rfl (by decide) _ _ _ rfl HO5.out ⟨g, q * 8, none⟩ (k - q) (cap - q) (rowsJ (S.drop q)).flatten rfl HLN.out HCL.out HON.out ?f3 ?f4 ?f5 ?_)
            case f3 => unfold maxLen; omega
            case f4 => omega
            case f5 => omega
            intro v6 w6 hown6 hgrow _
            have HY6 := Lib.hid (grown_below HY5.out hgrow (fun g hg => owns_row HO5.out hg) hw5)
            have HO6 := Lib.hid (show w6.ownsRow w.heap.size 37 8 v6 (k + 1) (rowsJ (stb jobB (l.take (k + 1)))).flatten from by
              rw [HRW.out]
              have e := owns_base hown6 hwy
              rw [show q + 1 + (k - q) = k + 1 by omega] at e
              simpa using e)
            have HB6 := Lib.hid (HBY.out.trans (HY6.out.mono hwy))
            clear hown6 hgrow
            go_wp2_with fail
            go_roundw
            case rel => exact ⟨k + 1, by omega, by go_num, HO6.out, HB6.out, fun h => absurd h (by omega)⟩
            case measure => simp [intOf]; omega
    · obtain rfl : k = l.length := by omega
      have dk : decide (l.length < l.length) = false := decide_eq_false hlt
      rw [List.take_length] at hown
      have HR := Lib.hid (RdK.own hown (by rw [rowsJ_len, stb_len]) (rowsJ_eight _))
      have HB := Lib.hid hb
      clear hown hb h0
      obtain ⟨A2, c2, rfl, _, _⟩ := HR.out.form
      go_wp2_with fail
      go_ret
      exact ⟨_, rfl, HR.out, HB.out⟩
end Go.Proofs.Ytalpocgajecjbaa
