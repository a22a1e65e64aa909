/- What the cursor's groups gives. Conditions: the text is no longer than any text. -/
import Derived.Test.YtkahdmhgfojbiaaOctF
namespace Go.Proofs.Ytkahdmhgfojbiaa
open Go.ChangeShapes Go.WideShapes Go.ChangeAt Go.RowKit
set_option linter.unusedVariables false
set_option maxRecDepth 100000
set_option linter.unusedSimpArgs false

/-- The array behind so many bytes. -/
def grpA (l : List UInt8) (k : Nat) : Array Value := varA (l.take (min k 9))
theorem grpA_zero (l : List UInt8) : grpA l 0 = varA [] := by simp [grpA]
theorem grpA_set (l : List UInt8) (k : Nat) (h : k < 9) (hk : k < l.length) : (grpA l k).setIfInBounds k (.int .u8 (l[k]).toNat) = grpA l (k + 1) := by
  unfold grpA
  rw [Nat.min_eq_left (by omega), Nat.min_eq_left (by omega), List.take_succ_eq_append_getElem hk]
  have hl : (l.take k).length = k := by rw [List.length_take]; omega
  have := varA_set (l.take k) l[k] (by omega)
  rw [hl] at this
  exact this
theorem grpA_more (l : List UInt8) (k : Nat) (h : 9 ≤ k) : grpA l k = grpA l (k + 1) := by
  unfold grpA; rw [Nat.min_eq_right h, Nat.min_eq_right (by omega)]

/-- What groups gives. -/
def groupsV (l : List UInt8) : Value := if l.length ≤ leadN l then .tuple #[.agg (varA []), .int .i64 0, .bool false] else .tuple #[.agg (grpA l (leadN l + 1)), .int .i64 ((leadN l + 1 : Nat) : Int), .bool true]
theorem groups_results (tmps : Array Value) (w : World) (g : Nat) (cs : Array Value) (hs : cs.size = 9) (hg : w.heap[g]? = some (.cells cs 63 (0, 0))) (hp : tmps.getD 2 undef = .pointer (some ⟨g, 0, none⟩)) :
    (results Try.f44 tmps).run Try.prog w = .ok (.tuple #[.agg cs, tmps.getD 3 undef, tmps.getD 4 undef]) w := by
  have hl := run_loadVar_row (P := Try.prog) w g _ 63 cs (0, 0) (.array 9 5) hg (by kernel_rfl) rfl (by rw [hs]; kernel_rfl)
  have hr : Try.f44.results = #[.cell 2 63, .tmp 3, .tmp 4] := rfl
  have hp' : tmps[2]?.getD undef = .pointer (some ⟨g, 0, none⟩) := by simpa using hp
  simp [results, hr, hp', asAddr, hl]
theorem groups_nil (w : World) :
    Calls Try.prog 44 #[.pointer none] w fun e w' => e = .returned (.tuple #[.agg (varA []), .int .i64 0, .bool false]) ∧ Below w.heap.size w w' := by
  go_enter Try.func44, Try.ntmps44
  go_wp2_with (go_at_call 37; (with_reducible refine (reader_nil _).mono ?_); rintro e w1 ⟨rfl, rfl⟩)
  refine wp_loop_rounds 1 ?_
  rw [rounds_succ]
  go_wp2_with (go_at_call 42; (with_reducible refine (next_nil _).mono ?_); rintro e w1 ⟨rfl, rfl⟩)
  have hz : varA [] = #[Value.int IntKind.u8 0, Value.int IntKind.u8 0, Value.int IntKind.u8 0, Value.int IntKind.u8 0, Value.int IntKind.u8 0, Value.int IntKind.u8 0, Value.int IntKind.u8 0, Value.int IntKind.u8 0, Value.int IntKind.u8 0] := varA_zero
  refine bodyPost_ret (v := .tuple #[.agg (varA []), .int .i64 0, .bool false]) (by rw [hz]; simp [results, Try.results44, go_sem]) rfl ⟨rfl, (((Below.refl _ _).alloc (Nat.le_refl _) _).alloc (by simp) _)⟩

theorem setRow_heap (w : World) (g : Nat) (cs : Array Value) (t : TypeId) (old : Array Value) (h : w.heap[g]? = some (.cells old t (0, 0))) : (w.setRow g cs).heap[g]? = some (.cells cs t (0, 0)) := by
  simp [World.setRow, Array.getElem?_modify, h]
theorem setRow_below {w w' : World} {B g : Nat} (cs : Array Value) (h : Below B w w') (hB : B ≤ g) : Below B w (w'.setRow g cs) :=
  h.trans ⟨rfl, rfl, rfl, by simp [World.setRow], fun k hk => by simp only [World.setRow, Array.getElem?_modify]; rw [if_neg (by omega)]⟩
theorem u8s_one (l : List UInt8) : (u8s l).all (·.oneCell') = true := by
  simp [u8s, Array.all_eq_true_iff_forall_mem]
  intro b hb; rfl
theorem varA_size (l : List UInt8) (h : l.length ≤ 9) : (varA l).size = 9 := by unfold varA; rw [u8s_size]; simp; omega
theorem grpA_size (l : List UInt8) (k : Nat) : (grpA l k).size = 9 := varA_size _ (by rw [List.length_take]; omega)
/-- The whole array out of its block, and into one. -/
theorem load9 {ops : Array Oper} {rest : List Oper} {o : Oper} {a : Act} {w : World} {Q : Exit → Act → World → Prop} (x : Operand) (ho : o.op = .load 63 x) (hgd : o.guard = none)
    (g : Nat) (cs : Array Value) (hs : cs.size = 9) (hg : w.heap[g]? = some (.cells cs 63 (0, 0))) (hx : a.eval x = .pointer (some ⟨g, 0, none⟩))
    (h : wpList Try.prog ops Q rest (a.put o.dst (.agg cs)) w) : wpList Try.prog ops Q (o :: rest) a w :=
  wpList_load_row hgd 63 x ho g hx _ cs (0, 0) (.array 9 5) hg (by kernel_rfl) rfl (by rw [hs]; kernel_rfl) h
theorem store9 {ops : Array Oper} {rest : List Oper} {o : Oper} {a : Act} {w : World} {Q : Exit → Act → World → Prop} (x y : Operand) (ho : o.op = .store 63 x y) (hgd : o.guard = none)
    (g : Nat) (old cs : Array Value) (hold : old.size = 9) (hs : cs.size = 9) (h1 : cs.all (·.oneCell') = true) (hg : w.heap[g]? = some (.cells old 63 (0, 0))) (hx : a.eval x = .pointer (some ⟨g, 0, none⟩)) (hy : a.eval y = .agg cs)
    (h : wpList Try.prog ops Q rest (a.put o.dst undef) (w.setRow g cs)) : wpList Try.prog ops Q (o :: rest) a w :=
  wpList_plain hgd fun _ hK => wp_store_row 63 x y ho g cs hx hy _ old hg (by rw [hs]; kernel_rfl) (by omega) h1 (hK _ _ h)
theorem next_step (a r i B : Nat) (t : ByteArray) (w : World) (ht : t.size ≤ 9223372036854775000) (hi : i < t.size) (hB : B ≤ a) (ha : w.heap[a]? = some (.cells #[.int .i64 i] 3 (0, 0))) (hr : w.heap[r]? = some (.cells #[.string t] 9 (0, 0))) :
    Calls Try.prog 43 #[.pointer (some ⟨a, 0, none⟩), .pointer (some ⟨r, 0, none⟩)] w fun e w' => e = .returned (.tuple #[.int .u8 (t[i]).toNat, .bool true]) ∧ w'.heap[a]? = some (.cells #[.int .i64 ((i : Int) + 1)] 3 (0, 0)) ∧ Hid (∀ b, b ≠ a → w'.heap[b]? = w.heap[b]?) ∧ Below B w w' :=
  (next_any a r i t w ht hi ha hr).mono fun e w' h => by
    obtain ⟨h1, h2⟩ := h
    subst h2
    exact ⟨h1, one_setCell ha, fun b hb => Below.heap_setCell _ _ _ _ hb, (Below.refl _ _).setCell hB _⟩

theorem int_str_ne {w : World} {a r : Nat} {n : Int} {t : ByteArray} (hA : w.heap[a]? = some (.cells #[.int .i64 n] 3 (0, 0))) (hR : w.heap[r]? = some (.cells #[.string t] 9 (0, 0))) : r ≠ a := by
  rintro rfl; rw [hA] at hR; simp at hR
/-- What a round of groups finds. -/
def GI (B a r : Nat) (t : ByteArray) (w wr : World) (k : Nat) : Prop :=
  wr.heap[B]? = some (.cells (varA []) 63 (0, 0)) ∧ wr.heap[B + 1]? = some (.cells (grpA t.data.toList k) 63 (0, 0)) ∧
  wr.heap[a]? = some (.cells #[.int .i64 k] 3 (0, 0)) ∧ wr.heap[r]? = some (.cells #[.string t] 9 (0, 0)) ∧ Below B w wr
set_option maxRecDepth 100000 in
set_option maxHeartbeats 2000000 in
theorem groups_any (b : Nat) (s : ByteArray) (k0 : Nat) (w : World) (hs : s.size ≤ 9223372036854775000) (hc : Cur w b s k0) :
    Calls Try.prog 44 #[.pointer (some ⟨b, 0, none⟩)] w fun e w' =>
      e = .returned (groupsV (rest s k0)) ∧ Below w.heap.size w w' := by
  have hbs : b < w.heap.size := lt_of_block hc.1
  have hz := varA_zero
  go_enter Try.func44, Try.ntmps44
  go_wp2_with fail
  rw [← hz]
  have hc2 : Cur ((w.alloc (Obj.cells (varA []) 63)).alloc (Obj.cells (varA []) 63)) b s k0 := ⟨blk_old _ (blk_old _ hc.1), hc.2⟩
  have g0 : ((w.alloc (Obj.cells (varA []) 63)).alloc (Obj.cells (varA []) 63)).heap[w.heap.size]? = some (.cells (varA []) 63 (0, 0)) := blk_old _ (blk_new _ _)
  have g1 : ((w.alloc (Obj.cells (varA []) 63)).alloc (Obj.cells (varA []) 63)).heap[w.heap.size + 1]? = some (.cells (varA []) 63 (0, 0)) := by
    have := blk_new (w.alloc (Obj.cells (varA []) 63)) (Obj.cells (varA []) 63)
    rw [World.size_alloc] at this; exact this
  have hB0 : Below w.heap.size w ((w.alloc (Obj.cells (varA []) 63)).alloc (Obj.cells (varA []) 63)) := (((Below.refl _ _).alloc (Nat.le_refl _) _).alloc (by simp) _)
  have hsz : ((w.alloc (Obj.cells (varA []) 63)).alloc (Obj.cells (varA []) 63)).heap.size = w.heap.size + 2 := by simp
  generalize ((w.alloc (Obj.cells (varA []) 63)).alloc (Obj.cells (varA []) 63)) = wa at *
  refine (reader_any b s k0 wa hs hc2).mono ?_
  rintro e w1 ⟨r, a, t, rfl, ht, hra, hrr, hA, hR, hB⟩
  have hgi : GI w.heap.size a r t w w1 0 := ⟨blk_below hB g0 (by omega), by rw [grpA_zero]; exact blk_below hB g1 (by omega), hA, hR, hB0.trans (hB.mono (by omega))⟩
  have hra2 : w.heap.size + 2 ≤ a := by omega
  have hrr2 : w.heap.size + 2 ≤ r := by omega
  have hts : t.size ≤ 9223372036854775000 := by rw [← data_len, ht, rest_len]; omega
  have HT := Lib.hid ht
  obtain ⟨e, he⟩ : ∃ e, leadN t.data.toList = e := ⟨_, rfl⟩
  have hle : e ≤ t.size := by rw [← he, ← data_len]; exact leadN_le t.data.toList
  have HGE := Lib.hid (show ∀ k (h : k < t.size), k < e → 128 ≤ (t[k]).toNat from fun k h hk => leadN_ge t.data.toList k (by rw [data_len]; exact h) (by omega))
  have HAT := Lib.hid (show ∀ (h : e < t.size), (t[e]).toNat < 128 from fun h => by subst he; exact leadN_at t.data.toList (by rw [data_len]; omega))
  have HE := Lib.hid he
  have HZ := Lib.hid hz
  clear hc hc2 g0 g1 hB0 hsz hra hrr hA hR hB ht he hz hbs
  go_wp2_with fail
  go_loopw [6] (fun m wr => ∃ k : Nat, k ≤ e ∧ m = .int .i64 k ∧ GI w.heap.size a r t w wr k) (fun m _ => t.size + 1 - (intOf m).toNat)
  case atStart => exact ⟨0, by omega, rfl, hgi⟩
  case round =>
    obtain ⟨k, hk, rfl, hG0, hG1, hA, hR, hB⟩ := hrel
    have HG0 := Lib.hid hG0
    have HG1 := Lib.hid hG1
    clear hG0 hG1
    have hne := int_str_ne hA hR
    by_cases hlt : k < e
    · have hg := HGE.out k (by omega) hlt
      have hkt : k < t.size := by omega
      by_cases h9 : k < 9
      · go_wp2_with fail
        refine (next_step a r k w.heap.size t wr hts hkt (by omega) hA hR).mono ?_
        rintro ee w2 ⟨rfl, hA2, hO, hB2⟩
        have hR2 := (hO.out r hne).trans hR
        have hG02 := (hO.out w.heap.size (by omega)).trans HG0.out
        have hG12 := (hO.out (w.heap.size + 1) (by omega)).trans HG1.out
        have hB3 := hB.trans hB2
        obtain ⟨v, hv⟩ := varA_get (t.data.toList.take (min k 9)) k (by rw [List.length_take]; omega) h9
        have c := (blk_cell hG12 k).trans hv
        have f := blk_free hG12 k
        have hG13 := blk_set hG12 k (.int .u8 (t[k]).toNat)
        have hgs : (grpA t.data.toList k).setIfInBounds k (.int .u8 (t[k]).toNat) = grpA t.data.toList (k + 1) := grpA_set t.data.toList k h9 (by rw [data_len]; exact hkt)
        rw [hgs] at hG13
        have hA3 := blk_far (p := ⟨w.heap.size + 1, k, none⟩) (.int .u8 (t[k]).toNat) hA2 (by show a ≠ w.heap.size + 1; omega)
        have hR3 := blk_far (p := ⟨w.heap.size + 1, k, none⟩) (.int .u8 (t[k]).toNat) hR2 (by show r ≠ w.heap.size + 1; omega)
        have hG03 := blk_far (p := ⟨w.heap.size + 1, k, none⟩) (.int .u8 (t[k]).toNat) hG02 (by show w.heap.size ≠ w.heap.size + 1; omega)
        have hB4 := hB3.setCell (p := ⟨w.heap.size + 1, k, none⟩) (by show w.heap.size ≤ w.heap.size + 1; omega) (.int .u8 (t[k]).toNat)
        have HH := Lib.hid (show GI w.heap.size a r t w (w2.setCell ⟨w.heap.size + 1, k, none⟩ (.int .u8 (t[k]).toNat)) (k + 1) from ⟨hG03, hG13, hA3, hR3, hB4⟩)
        clear hG03 hG13 hA3 hR3 hB4 hgs hv hA2 hO hB2 hR2 hG02 hG12 hA hR HG0 HG1
        go_wp2_with fail
        go_roundw
        case rel => exact ⟨k + 1, by omega, by go_num, HH.out⟩
        case measure => simp [intOf]; omega
      · go_wp2_with fail
        refine (next_step a r k w.heap.size t wr hts hkt (by omega) hA hR).mono ?_
        rintro ee w2 ⟨rfl, hA2, hO, hB2⟩
        have hR2 := (hO.out r hne).trans hR
        have hG02 := (hO.out w.heap.size (by omega)).trans HG0.out
        have hG12 := (hO.out (w.heap.size + 1) (by omega)).trans HG1.out
        have hB3 := hB.trans hB2
        have hgm := grpA_more t.data.toList k (by omega)
        rw [hgm] at hG12
        have HH := Lib.hid (show GI w.heap.size a r t w w2 (k + 1) from ⟨hG02, hG12, hA2, hR2, hB3⟩)
        clear hgm hA2 hO hB2 hR2 hG02 hG12 hA hR HG0 HG1
        go_wp2_with fail
        go_roundw
        case rel => exact ⟨k + 1, by omega, by go_num, HH.out⟩
        case measure => simp [intOf]; omega
    · obtain rfl : k = e := by omega
      by_cases hkt : k < t.size
      · have hat := HAT.out hkt
        by_cases h9 : k < 9
        · go_wp2_with fail
          refine (next_step a r k w.heap.size t wr hts hkt (by omega) hA hR).mono ?_
          rintro ee w2 ⟨rfl, hA2, hO, hB2⟩
          have hR2 := (hO.out r hne).trans hR
          have hG02 := (hO.out w.heap.size (by omega)).trans HG0.out
          have hG12 := (hO.out (w.heap.size + 1) (by omega)).trans HG1.out
          have hB3 := hB.trans hB2
          obtain ⟨v, hv⟩ := varA_get (t.data.toList.take (min k 9)) k (by rw [List.length_take]; omega) h9
          have c := (blk_cell hG12 k).trans hv
          have f := blk_free hG12 k
          have hG13 := blk_set hG12 k (.int .u8 (t[k]).toNat)
          have hgs : (grpA t.data.toList k).setIfInBounds k (.int .u8 (t[k]).toNat) = grpA t.data.toList (k + 1) := grpA_set t.data.toList k h9 (by rw [data_len]; exact hkt)
          rw [hgs] at hG13
          have hA3 := blk_far (p := ⟨w.heap.size + 1, k, none⟩) (.int .u8 (t[k]).toNat) hA2 (by show a ≠ w.heap.size + 1; omega)
          have hR3 := blk_far (p := ⟨w.heap.size + 1, k, none⟩) (.int .u8 (t[k]).toNat) hR2 (by show r ≠ w.heap.size + 1; omega)
          have hG03 := blk_far (p := ⟨w.heap.size + 1, k, none⟩) (.int .u8 (t[k]).toNat) hG02 (by show w.heap.size ≠ w.heap.size + 1; omega)
          have hB4 := hB3.setCell (p := ⟨w.heap.size + 1, k, none⟩) (by show w.heap.size ≤ w.heap.size + 1; omega) (.int .u8 (t[k]).toNat)
          have HS3 := Lib.hid hG13
          have HS4 := Lib.hid hG03
          have hR0 := setRow_heap _ _ (grpA t.data.toList (k + 1)) _ _ hG03
          have HB5 := Lib.hid (setRow_below (grpA t.data.toList (k + 1)) hB4 (Nat.le_refl _))
          have HR0 := Lib.hid hR0
          clear hG03 hG13 hA3 hR3 hB4 hgs hv hA2 hO hB2 hR2 hG02 hG12 hA hR HG0 HG1 hR0
          go_wp2_with (first | (refine load9 (.tmp 5) rfl rfl (w.heap.size + 1) _ (grpA_size _ _) HS3.out (by simp [Act.eval]) ?_) | (refine store9 (.tmp 2) (.tmp 29) rfl rfl w.heap.size _ _ (varA_size _ (by simp)) (grpA_size t.data.toList (k + 1)) (u8s_one _) HS4.out (by simp [Act.eval, Act.put]) (by simp [Act.eval, Act.put]) ?_))
          refine bodyPost_ret (groups_results _ _ w.heap.size (grpA t.data.toList (k + 1)) (grpA_size _ _) HR0.out rfl) rfl ⟨?_, HB5.out⟩
          have he := HE.out
          have hgv : groupsV (rest s k0) = .tuple #[.agg (grpA t.data.toList (k + 1)), .int .i64 ((k + 1 : Nat) : Int), .bool true] := by
            rw [← HT.out, groupsV, he, if_neg (by rw [data_len]; omega)]
          rw [hgv]; rfl
        · go_wp2_with fail
          refine (next_step a r k w.heap.size t wr hts hkt (by omega) hA hR).mono ?_
          rintro ee w2 ⟨rfl, hA2, hO, hB2⟩
          have hR2 := (hO.out r hne).trans hR
          have hG02 := (hO.out w.heap.size (by omega)).trans HG0.out
          have hG12 := (hO.out (w.heap.size + 1) (by omega)).trans HG1.out
          have hB3 := hB.trans hB2
          have hgm := grpA_more t.data.toList k (by omega)
          rw [hgm] at hG12
          have hR0 := setRow_heap _ _ (grpA t.data.toList (k + 1)) _ _ hG02
          have HB5 := Lib.hid (setRow_below (grpA t.data.toList (k + 1)) hB3 (Nat.le_refl _))
          have HR0 := Lib.hid hR0
          have HS3 := Lib.hid hG12
          have HS4 := Lib.hid hG02
          clear hgm hA2 hO hB2 hR2 hG02 hG12 hA hR HG0 HG1 hR0
          go_wp2_with (first | (refine load9 (.tmp 5) rfl rfl (w.heap.size + 1) _ (grpA_size _ _) HS3.out (by simp [Act.eval]) ?_) | (refine store9 (.tmp 2) (.tmp 29) rfl rfl w.heap.size _ _ (varA_size _ (by simp)) (grpA_size t.data.toList (k + 1)) (u8s_one _) HS4.out (by simp [Act.eval, Act.put]) (by simp [Act.eval, Act.put]) ?_))
          refine bodyPost_ret (groups_results _ _ w.heap.size (grpA t.data.toList (k + 1)) (grpA_size _ _) HR0.out rfl) rfl ⟨?_, HB5.out⟩
          have he := HE.out
          have hgv : groupsV (rest s k0) = .tuple #[.agg (grpA t.data.toList (k + 1)), .int .i64 ((k + 1 : Nat) : Int), .bool true] := by
            rw [← HT.out, groupsV, he, if_neg (by rw [data_len]; omega)]
          rw [hgv]; rfl
      · have hkt2 : k = t.size := by omega
        have hA' : wr.heap[a]? = some (.cells #[.int .i64 t.size] 3 (0, 0)) := by rw [← hkt2]; exact hA
        go_wp2_with fail
        refine (next_end a r t wr hts hA' hR).mono ?_
        rintro ee w2 ⟨rfl, rfl⟩
        have hR0 := setRow_heap _ _ (varA []) _ _ HG0.out
        have HB5 := Lib.hid (setRow_below (varA []) hB (Nat.le_refl _))
        have HR0 := Lib.hid hR0
        have HK := Lib.hid hkt2
        clear hR0 hA hA' hR HG1 hkt2
        go_wp2_with ((refine store9 (.tmp 2) (.tmp 19) rfl rfl w.heap.size _ (varA []) (varA_size _ (by simp)) (varA_size _ (by simp)) (u8s_one _) HG0.out (by simp [Act.eval, Act.put]) (by simp [Act.eval, Act.put, varA_zero]) ?_))
        refine bodyPost_ret (groups_results _ _ w.heap.size (varA []) (varA_size _ (by simp)) HR0.out rfl) rfl ⟨?_, HB5.out⟩
        have he := HE.out
        have hgv : groupsV (rest s k0) = .tuple #[.agg (varA []), .int .i64 0, .bool false] := by
          rw [← HT.out, groupsV, he, if_pos (by rw [data_len, HK.out]; omega)]
        rw [hgv]; rfl
end Go.Proofs.Ytkahdmhgfojbiaa
