/- What the document's own answers for lists of numbers and for bytes as signs come to. Conditions: texts of at most 100,000 bytes, lists of at most 1,000 numbers. -/
import Derived.Test.YtgiofaccigkfjaaDoorDecRef
import Derived.Test.YtgiofaccigkfjaaDoorSame
namespace Go.Proofs.YtgiofaccigkfjaaDoor
open Go.ChangeShapes Go.WideShapes Go.ChangeAt Go.RowKit
set_option linter.unusedVariables false
set_option maxRecDepth 100000
set_option linter.unusedSimpArgs false

theorem listL_snoc (p : List Int) (n : Int) : listL (p ++ [n]) = if p = [] then textL n else listL p ++ 44 :: textL n := by
  unfold listL
  rw [List.map_append, List.map_cons, List.map_nil, joinS_snoc]
  by_cases h : p = []
  · rw [if_pos h, if_pos (by simp [h])]
  · rw [if_neg h, if_neg (by simpa using h)]
theorem listL_len (ns : List Int) (hi : ∀ n ∈ ns, inI n) : ∀ k, (listL (ns.take k)).length ≤ 21 * k := by
  intro k
  induction k with
  | zero => simp [listL, joinS]
  | succ k ih =>
    by_cases h : k < ns.length
    · rw [List.take_succ_eq_append_getElem h, listL_snoc]
      have := textL_len ns[k] (hi _ (List.getElem_mem h))
      split
      · omega
      · simp; omega
    · rw [List.take_of_length_le (by omega)]
      rw [List.take_of_length_le (by omega)] at ih
      omega
set_option maxHeartbeats 1000000 in
theorem rlist_any (v : Value) (ns : List Int) (B : Nat) (w : World) (hn : ns.length ≤ 1000) (hi : ∀ n ∈ ns, inI n) (h : Rd w B v (ints ns)) :
    Calls Tryd.prog 36 #[v] w fun e w' => e = .returned (.string (bs (listL ns))) ∧ w = w' := by
  obtain ⟨A, c, rfl, hc, _⟩ := h.form
  have H := Lib.hid fun k (hk : k < ns.length) => h.at_ (k := k) (by rw [ints_len]; exact hk)
  rw [ints_len]
  have HI := Lib.hid hi
  clear h hc hi
  go_enter Tryd.func36, Tryd.ntmps36
  go_wp2_with fail
  go_loop [3, 4] (fun s i => ∃ k : Nat, k ≤ ns.length ∧ i = .int .i64 k ∧ s = .string (bs (listL (ns.take k)))) (fun _ i => ns.length - (intOf i).toNat)
  case atStart => exact ⟨0, by omega, rfl, rfl⟩
  case round =>
    obtain ⟨k, hk, rfl, rfl⟩ := hrel
    by_cases hlt : k < ns.length
    · obtain ⟨b, o, rfl, hb, hx⟩ := H.out k hlt
      have g : w.cell? ⟨b, o + k, none⟩ = some (.int .i64 ns[k]) := by
        have := hx k (by rw [ints_len]; exact hlt)
        rw [this, ints_get]
      have dk : decide (k < ns.length) = true := decide_eq_true hlt
      have hin := HI.out ns[k] (List.getElem_mem hlt)
      have T := Lib.hid fun w => rtext_any ns[k] hin w
      have hz1 : (bs (textL ns[k])).size ≤ 20 := by rw [bs_size]; exact textL_len _ hin
      have hz2 : (bs (listL (ns.take k))).size ≤ 21000 := by
        have := listL_len ns HI.out k
        rw [bs_size]; omega
      have hs := listL_snoc (ns.take k) ns[k]
      rw [← List.take_succ_eq_append_getElem hlt] at hs
      unfold inI at hin
      obtain ⟨hin1, hin2⟩ := hin
      by_cases hk0 : k = 0
      · subst hk0
        rw [if_pos (show ns.take 0 = [] from rfl)] at hs
        have g0 : w.cell? ⟨b, o, none⟩ = some (.int .i64 ns[0]) := g
        clear g
        have hs2 : bs (listL (ns.take 0)) ++ bs (textL ns[0]) = bs (listL (ns.take (0 + 1))) := by rw [hs, bs_append]; rfl
        have HS := Lib.hid hs2
        clear hs hs2 hx
        generalize bs (listL (ns.take 0)) = L0 at *
        generalize hL : bs (listL (ns.take (0 + 1))) = L1 at *
        have HL := Lib.hid hL
        clear hL
        generalize bs (textL ns[0]) = TT at *
        generalize ns[0] = m at *
        go_wp2_with fail
        refine (T.out _).mono ?_
        rintro e w1 ⟨rfl, rfl⟩
        go_wp2_with fail
        rw [HS.out]
        go_round
        case rel => exact ⟨0 + 1, by omega, rfl, by rw [HL.out]⟩
        case measure => simp [intOf]; omega
      · have hp : ns.take k ≠ [] := by
          intro e
          have := congrArg List.length e
          rw [List.length_take, List.length_nil] at this; omega
        rw [if_neg hp] at hs
        have hs2 : bs (listL (ns.take k)) ++ ByteArray.mk #[44] ++ bs (textL ns[k]) = bs (listL (ns.take (k + 1))) := by
          rw [hs, show ByteArray.mk #[44] = bs [44] from rfl, bs_append, bs_append, List.append_assoc]; rfl
        have hz3 : (bs (listL (ns.take k)) ++ ByteArray.mk #[44]).size ≤ 21001 := by rw [ByteArray.size_append]; show _ + 1 ≤ _; omega
        have d0 : decide ((0 : Int) < (k : Int)) = true := decide_eq_true (by omega)
        have d0' : decide (0 < k) = true := decide_eq_true (by omega)
        have HS := Lib.hid hs2
        clear hs hs2 hp hx
        generalize bs (listL (ns.take k)) = L0 at *
        generalize hL : bs (listL (ns.take (k + 1))) = L1 at *
        have HL := Lib.hid hL
        clear hL
        generalize bs (textL ns[k]) = TT at *
        generalize ns[k] = m at *
        go_wp2_with fail
        refine (T.out _).mono ?_
        rintro e w1 ⟨rfl, rfl⟩
        go_wp2_with fail
        rw [HS.out]
        go_round
        case rel => exact ⟨k + 1, by omega, by go_num, by rw [HL.out]⟩
        case measure => simp [intOf]; omega
    · obtain rfl : k = ns.length := by omega
      have dk : decide (ns.length < ns.length) = false := decide_eq_false hlt
      rw [List.take_length]
      go_wp2_with fail
      go_ret
      exact ⟨rfl, rfl⟩

/-- What is behind so many bytes of a text of numbers: done, and what is open. -/
def PlI (l : List UInt8) (i f : Nat) (out : List Int) : Prop :=
  f ≤ i ∧ f ≤ l.length ∧ out.length ≤ f ∧ (44 : UInt8) ∉ (l.drop f).take (i - f) ∧ ∃ done : List (List UInt8), done.map parV = out ∧ (∀ p ∈ done, parE p = 0) ∧ splitS 44 l = done ++ splitS 44 (l.drop f)
theorem plI_zero (l : List UInt8) : PlI l 0 0 [] := ⟨Nat.le_refl _, Nat.zero_le _, Nat.zero_le _, by simp, [], rfl, by simp, rfl⟩
theorem plI_more {l : List UInt8} {i f : Nat} {out : List Int} (h : PlI l i f out) (hi : i < l.length) (hc : l[i] ≠ 44) : PlI l (i + 1) f out := by
  obtain ⟨h1, h2, h3, h4, h5⟩ := h
  refine ⟨by omega, h2, h3, ?_, h5⟩
  rw [show i + 1 - f = (i - f) + 1 by omega, List.take_succ_eq_append_getElem (by rw [List.length_drop]; omega)]
  intro hm
  rcases List.mem_append.1 hm with hm | hm
  · exact h4 hm
  · rw [List.getElem_drop] at hm
    simp only [show f + (i - f) = i by omega, List.mem_singleton] at hm
    exact hc hm.symm
/-- The part that ends at a comma. -/
theorem plI_part {l : List UInt8} {i f : Nat} {out : List Int} (h : PlI l i f out) (hi : i < l.length) (hc : l[i] = 44) :
    splitS 44 (l.drop f) = (l.drop f).take (i - f) :: splitS 44 (l.drop (i + 1)) := by
  obtain ⟨h1, h2, h3, h4, h5⟩ := h
  have e : l.drop f = (l.drop f).take (i - f) ++ 44 :: l.drop (i + 1) := by
    conv => lhs; rw [← List.take_append_drop (i - f) (l.drop f)]
    rw [List.drop_drop, show f + (i - f) = i by omega, List.drop_eq_getElem_cons hi, hc]
  conv => lhs; rw [e]
  exact splitS_at 44 _ _ h4
theorem plI_last {l : List UInt8} {f : Nat} {out : List Int} (h : PlI l l.length f out) : splitS 44 (l.drop f) = [(l.drop f).take (l.length - f)] := by
  obtain ⟨h1, h2, h3, h4, h5⟩ := h
  have e : (l.drop f).take (l.length - f) = l.drop f := List.take_of_length_le (by rw [List.length_drop]; omega)
  rw [e] at h4 ⊢
  exact splitS_end 44 _ h4
theorem plI_next {l : List UInt8} {i f : Nat} {out : List Int} (h : PlI l i f out) (hi : i < l.length) (hc : l[i] = 44) (hp : parE ((l.drop f).take (i - f)) = 0) : PlI l (i + 1) (i + 1) (out ++ [parV ((l.drop f).take (i - f))]) := by
  have hpart := plI_part h hi hc
  obtain ⟨h1, h2, h3, h4, done, h5, h6, h7⟩ := h
  refine ⟨Nat.le_refl _, by omega, by simp; omega, by simp, done ++ [(l.drop f).take (i - f)], by simp [h5], ?_, ?_⟩
  · intro p hp2
    rcases List.mem_append.1 hp2 with hp2 | hp2
    · exact h6 p hp2
    · obtain rfl : p = _ := by simpa using hp2
      exact hp
  · rw [h7, hpart]; simp
theorem pl_bad {l : List UInt8} {i f : Nat} {out : List Int} (h : PlI l i f out) (part : List UInt8) (hm : part ∈ splitS 44 (l.drop f)) (hp : ¬ parE part = 0) (many : Int) : plE l many = 2 ∧ plV l many = [] := by
  have e : plE l many = 2 := by
    unfold plE
    rw [if_neg]
    rintro ⟨h1, _⟩
    obtain ⟨_, _, _, _, done, _, _, h7⟩ := h
    exact hp (h1 part (by rw [h7]; exact List.mem_append_right _ hm))
  exact ⟨e, by unfold plV; rw [e, if_neg (by omega)]⟩
theorem pl_done {l : List UInt8} {f : Nat} {out : List Int} (h : PlI l l.length f out) (hp : parE ((l.drop f).take (l.length - f)) = 0) (many : Int) :
    (((out ++ [parV ((l.drop f).take (l.length - f))]).length : Int) = many → plE l many = 0 ∧ plV l many = out ++ [parV ((l.drop f).take (l.length - f))]) ∧
    (((out ++ [parV ((l.drop f).take (l.length - f))]).length : Int) ≠ many → plE l many = 2 ∧ plV l many = []) := by
  have hlast := plI_last h
  obtain ⟨_, _, _, _, done, h5, h6, h7⟩ := h
  have hs : splitS 44 l = done ++ [(l.drop f).take (l.length - f)] := by rw [h7, hlast]
  have hall : ∀ p ∈ splitS 44 l, parE p = 0 := by
    rw [hs]
    intro p hp2
    rcases List.mem_append.1 hp2 with hp2 | hp2
    · exact h6 p hp2
    · obtain rfl : p = _ := by simpa using hp2
      exact hp
  have hlen : (splitS 44 l).length = (out ++ [parV ((l.drop f).take (l.length - f))]).length := by rw [hs, ← h5]; simp
  refine ⟨fun hm => ?_, fun hm => ?_⟩
  · have e : plE l many = 0 := by unfold plE; rw [if_pos ⟨hall, by rw [hlen]; exact hm⟩]
    exact ⟨e, by unfold plV; rw [if_pos e, hs, ← h5]; simp⟩
  · have e : plE l many = 2 := by
      unfold plE; rw [if_neg]
      rintro ⟨_, h2⟩
      rw [hlen] at h2; exact hm h2
    exact ⟨e, by unfold plV; rw [e, if_neg (by omega)]⟩

def PlR (l : List UInt8) (many : Int) (w : World) (e : Ending) (w' : World) : Prop :=
  ∃ v, e = .returned (.tuple #[v, .int .i64 (plE l many)]) ∧ Rd w' w'.heap.size v (ints (plV l many)) ∧ Below w.heap.size w w'
theorem plR_bad {l : List UInt8} {many : Int} {w w' : World} (h : plE l many = 2 ∧ plV l many = []) (hb : Below w.heap.size w w') : PlR l many w (.returned (.tuple #[.slice none 0 0, .int .i64 2])) w' :=
  ⟨.slice none 0 0, by rw [h.1]; rfl, by rw [h.2]; exact Rd.nil _ _, hb⟩
def PlJ (l : List UInt8) (many : Int) (k f : Nat) (out : List Int) : Prop :=
  (k ≤ l.length ∧ PlI l k f out) ∨ (k = l.length + 1 ∧ out.length ≤ k ∧ ((out.length : Int) = many → plE l many = 0 ∧ plV l many = out) ∧ ((out.length : Int) ≠ many → plE l many = 2 ∧ plV l many = []))
set_option maxHeartbeats 2000000 in
theorem rplist_any (s : ByteArray) (many : Int) (w : World) (hs : s.size ≤ 100000) :
    Calls Tryd.prog 34 #[.string s, .int .i64 many] w (PlR s.data.toList many w) := by
  obtain ⟨i0, hi, hz0, hz1, hz2⟩ := info_parts infoI64
  go_enter Tryd.func34, Tryd.ntmps34
  go_wp2_with fail
  go_loopw [6, 7, 8] (fun v fr i wr => ∃ (k f : Nat) (out : List Int), i = .int .i64 k ∧ fr = .int .i64 f ∧ k ≤ s.size + 1 ∧ PlJ s.data.toList many k f out ∧ wr.ownsRow w.heap.size 3 1 v out.length (ints out) ∧ Below w.heap.size w wr) (fun _ _ i _ => s.size + 1 - (intOf i).toNat)
  case atStart => exact ⟨0, 0, [], rfl, rfl, by omega, Or.inl ⟨Nat.zero_le _, plI_zero _⟩, World.ownsRow_nil _ _ _ _, Below.refl _ _⟩
  case round =>
    obtain ⟨k, f, out, rfl, rfl, hk, hJ, hown, hb⟩ := hrel
    have HO := Lib.hid hown
    have HB := Lib.hid hb
    clear hown hb
    by_cases hk1 : k ≤ s.size
    · have hI : PlI s.data.toList k f out := by
        rcases hJ with ⟨_, h⟩ | ⟨h, _⟩
        · exact h
        · rw [data_len] at h; omega
      clear hJ
      have dk : decide (k ≤ s.size) = true := decide_eq_true hk1
      have dk' : decide ((k : Int) ≤ (s.size : Int)) = true := decide_eq_true (by omega)
      have hf : f ≤ k := hI.1
      have hol : out.length ≤ f := hI.2.2.1
      by_cases hc : k < s.size ∧ (∀ h : k < s.size, (s[k]'h).toNat ≠ 44)
      · obtain ⟨hlt, hc⟩ := hc
        have hc := hc hlt
        have HN := Lib.hid (plI_more hI (by rw [data_len]; exact hlt) (by rw [lget s k hlt]; intro e; exact hc (by rw [e]; rfl)))
        have dc : (((s[k]'hlt).toNat : Int) == 44) = false := beq_false_of_ne (by omega)
        have dl : decide (k < s.size) = true := decide_eq_true hlt
        clear hI hc
        go_wp2_with fail
        go_roundw
        case rel => exact ⟨k + 1, f, out, by go_num, rfl, by omega, Or.inl ⟨by rw [data_len]; omega, HN.out⟩, HO.out, HB.out⟩
        case measure => simp [intOf]; omega
      · have hpart : (s.extract f k).data.toList = (s.data.toList.drop f).take (k - f) := by rw [extract_list, List.drop_take]
        have hsl := fun w => run_slice_string (P := Tryd.prog) w 9 s .i64 .i64 (f : Int) (k : Int) (by kernel_rfl) (by omega) (by omega) (by omega)
        rw [Int.toNat_natCast, Int.toNat_natCast] at hsl
        have hP := fun w => rparse_any (s.extract f k) w (by rw [← data_len, hpart, List.length_take, List.length_drop, data_len]; omega)
        rw [hpart] at hP
        have HP := Lib.hid hP
        clear hP hpart
        have hmem : (s.data.toList.drop f).take (k - f) ∈ splitS 44 (s.data.toList.drop f) := by
          by_cases hlt : k < s.size
          · have h44 : (s[k]'hlt).toNat = 44 := by
              by_cases h : (s[k]'hlt).toNat = 44
              · exact h
              · exact absurd ⟨hlt, fun _ => h⟩ hc
            rw [plI_part hI (by rw [data_len]; exact hlt) (by rw [lget s k hlt]; exact u8_eq h44)]
            simp
          · obtain rfl : k = s.size := by omega
            have := plI_last (f := f) (out := out) (by rw [data_len]; exact hI)
            rw [data_len] at this
            rw [this]; simp
        have hnext : parE ((s.data.toList.drop f).take (k - f)) = 0 → PlJ s.data.toList many (k + 1) (k + 1) (out ++ [parV ((s.data.toList.drop f).take (k - f))]) := by
          intro hp
          by_cases hlt : k < s.size
          · have h44 : (s[k]'hlt).toNat = 44 := by
              by_cases h : (s[k]'hlt).toNat = 44
              · exact h
              · exact absurd ⟨hlt, fun _ => h⟩ hc
            exact Or.inl ⟨by rw [data_len]; omega, plI_next hI (by rw [data_len]; exact hlt) (by rw [lget s k hlt]; exact u8_eq h44) hp⟩
          · obtain rfl : k = s.size := by omega
            have := pl_done (f := f) (out := out) (by rw [data_len]; exact hI) (by rw [data_len]; exact hp) many
            rw [data_len] at this
            exact Or.inr ⟨by rw [data_len], by simp; omega, this.1, this.2⟩
        have HNX := Lib.hid hnext
        have HBD := Lib.hid fun hp => pl_bad hI _ hmem hp many
        have hin := parV_in ((s.data.toList.drop f).take (k - f))
        unfold inI at hin
        obtain ⟨hin1, hin2⟩ := hin
        have hcs : (∃ h : k < s.size, decide (k < s.size) = true ∧ (((s[k]'h).toNat : Int) == 44) = true) ∨ decide (k < s.size) = false := by
          by_cases hlt : k < s.size
          · refine Or.inl ⟨hlt, decide_eq_true hlt, ?_⟩
            by_cases h : (s[k]'hlt).toNat = 44
            · rw [h]; rfl
            · exact absurd ⟨hlt, fun _ => h⟩ hc
          · exact Or.inr (decide_eq_false hlt)
        clear hnext hmem hI hc
        generalize s.extract f k = X at *
        by_cases he : parE ((s.data.toList.drop f).take (k - f)) = 0
        · have HN := Lib.hid (HNX.out he)
          rw [he] at HP
          generalize parV ((s.data.toList.drop f).take (k - f)) = pv at *
          clear he HBD
          rcases hcs with ⟨hlt, dl, dc⟩ | dl
          all_goals
            go_wp2_with fail
            refine (HP.out _).mono ?_
            rintro e w2 ⟨rfl, rfl⟩
            have hw3 : w.heap.size ≤ wr.heap.size := HB.out.size
            go_wp2_with (at_builtin; refine wpList_append_own _ rfl _ _ 41 rfl w.heap.size 3 i0 (.int .i64 0) 1 8 Tryd.underlying41 hi hz0 hz1 hz2 rfl (by decide) _ _ _ rfl (HO.out.alloc _) ⟨wr.heap.size, 0, none⟩ 1 1 [.int .i64 pv] rfl rfl (cell_one_new _ _ _) ?c2 ?c3 ?c4 ?c5 ?_)
            case c2 => intro u hu; simp at hu; subst hu; rfl
            case c3 => unfold maxLen; omega
            case c4 => omega
            case c5 => simp; omega
            intro v' w4 hown4 hgrow _
            have hb4 := grown_below (HB.out.alloc (HB.out.size) _) hgrow (fun g hg => owns_row HO.out hg) (by simp; omega)
            have HB4 := Lib.hid hb4
            have hown4' : w4.ownsRow w.heap.size 3 1 v' (out ++ [pv]).length (ints (out ++ [pv])) := by
              simpa [ints] using hown4
            have HO4 := Lib.hid hown4'
            clear hb4 hown4 hown4' hgrow
            go_wp2_with fail
            go_roundw
            case rel => exact ⟨k + 1, k + 1, out ++ [pv], by go_num, by go_num, by omega, HN.out, HO4.out, HB4.out⟩
            case measure => simp [intOf]; omega
        · have hpb := par_bad he
          have HN := Lib.hid (HBD.out he)
          rw [hpb.1, hpb.2] at HP
          generalize parV ((s.data.toList.drop f).take (k - f)) = pv at *
          clear he HBD hpb HNX
          rcases hcs with ⟨hlt, dl, dc⟩ | dl
          all_goals
            go_wp2_with fail
            refine (HP.out _).mono ?_
            rintro e w2 ⟨rfl, rfl⟩
            go_wp2_with fail
            go_ret2
            exact plR_bad HN.out HB.out
    · obtain rfl : k = s.size + 1 := by omega
      have hJ2 : out.length ≤ s.size + 1 ∧ ((out.length : Int) = many → plE s.data.toList many = 0 ∧ plV s.data.toList many = out) ∧ ((out.length : Int) ≠ many → plE s.data.toList many = 2 ∧ plV s.data.toList many = []) := by
        rcases hJ with ⟨h, _⟩ | ⟨_, h⟩
        · rw [data_len] at h; omega
        · exact h
      clear hJ
      obtain ⟨hol, h1, h2⟩ := hJ2
      obtain ⟨A, c, rfl, hc2, _⟩ := (Rd.own HO.out).form
      rw [ints_len]
      have hO := HO.out
      rw [ints_len] at hO
      have HO := Lib.hid hO
      have dk : decide (s.size + 1 ≤ s.size) = false := decide_eq_false (by omega)
      have dk' : decide ((s.size : Int) + 1 ≤ (s.size : Int)) = false := decide_eq_false (by omega)
      clear hO
      by_cases hm : (out.length : Int) = many
      · have HX := Lib.hid (h1 hm)
        subst hm
        clear h1 h2
        go_wp2_with fail
        go_ret2
        refine ⟨.slice A out.length c, ?_, ?_, HB.out⟩
        · rw [HX.out.1]; rfl
        · rw [HX.out.2]; exact Rd.own HO.out
      · have HX := Lib.hid (h2 hm)
        have dm : ((out.length : Int) == many) = false := beq_false_of_ne hm
        clear h1 h2
        go_wp2_with fail
        go_ret2
        exact plR_bad HX.out HB.out
end Go.Proofs.YtgiofaccigkfjaaDoor
