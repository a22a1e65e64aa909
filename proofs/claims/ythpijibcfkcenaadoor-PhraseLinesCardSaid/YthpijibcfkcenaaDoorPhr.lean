/- What package phrase's numbers, and the function in it that lists a number, come to. Conditions: as stated. -/
import Derived.Test.YthpijibcfkcenaaDoorPhrPlain
import Derived.Test.YthpijibcfkcenaaDoorEvNum
import Derived.Test.YthpijibcfkcenaaDoorHoldV
import Derived.Test.YthpijibcfkcenaaDoorSlices
import Derived.Test.YthpijibcfkcenaaDoorStrTab
import Derived.Test.YthpijibcfkcenaaDoorPhrT
import Derived.Test.YthpijibcfkcenaaDoorRow
import Derived.Test.YthpijibcfkcenaaDoorWrdA
import Derived.Test.YthpijibcfkcenaaDoorWrdD
namespace Go.Proofs.YthpijibcfkcenaaDoor
open Go.ChangeShapes Go.WideShapes Go.ChangeAt Go.RowKit
set_option linter.unusedVariables false
set_option maxRecDepth 100000
set_option linter.unusedSimpArgs false
set_option maxHeartbeats 4000000

theorem infoPt : (Tryd.prog.info? 51).map (fun i => (i.zero, i.size, i.bytes)) = some (some (.pointer none), 1, 8) := by kernel_rfl
def ptrs (b : Nat) (js : List Nat) : List Value := js.map (pt b)
theorem ptrs_len (b : Nat) (js : List Nat) : (ptrs b js).length = js.length := by simp [ptrs]
def addL {α : Type} (k : Int) (l : List α) (x : α) : List α := if k = 0 then l else l ++ [x]
/-- Two rows of the call's own in boxes: the names, and the places. -/
structure NmC (w0 w1 : World) (bx bn bp : Nat) (un up : Value) (ls : List (List UInt8)) (js : List Nat) (w : World) : Prop where
  nam : w.heap[bn]? = some (.cells #[un] 45 (0, 0))
  pla : w.heap[bp]? = some (.cells #[up] 46 (0, 0))
  nown : w.ownsRow (bp + 1) 9 1 un ls.length (strs ls)
  pown : w.ownsRow (bp + 1) 51 1 up js.length (ptrs bx js)
  apart : ∀ g, un.ownBlock = some g → up.ownBlock = some g → False
  ge : w0.heap.size ≤ bn
  lt : bn < bp
  bel : Below w0.heap.size w0 w
  bel1 : Below bn w1 w
theorem ownsRow_blk {w : World} {base n size : Nat} {e : TypeId} {v : Value} {xs : List Value} (h : w.ownsRow base e size v n xs) {g : Nat} (hg : v.ownBlock = some g) : base ≤ g ∧ g < w.heap.size := h.lt g hg
theorem NmC.draws {w0 w1 w : World} {bx bn bp : Nat} {un up : Value} {ls : List (List UInt8)} {js : List Nat} (h : NmC w0 w1 bx bn bp un up ls js w) (n : Nat) : NmC w0 w1 bx bn bp un up ls js (w.drewN n) :=
  ⟨h.nam, h.pla, h.nown, h.pown, h.apart, h.ge, h.lt, ⟨h.bel.os, h.bel.tape, h.bel.output, h.bel.size, h.bel.block⟩, ⟨h.bel1.os, h.bel1.tape, h.bel1.output, h.bel1.size, h.bel1.block⟩⟩
theorem cell_one_at (w : World) (n : Nat) (hn : n = w.heap.size) (x : Value) (t : TypeId) : ∀ j u, [x][j]? = some u → (w.alloc (.cells #[x] t)).cell? ((⟨n, 0, none⟩ : Addr).add j) = some u := by
  subst hn; exact cell_one_new w x t
theorem owns_own {w w' : World} {base size n : Nat} {e : TypeId} {v : Value} {xs : List Value} (h : w.ownsRow base e size v n xs) (hk : ∀ g, v.ownBlock = some g → base ≤ g → g < w.heap.size → w'.heap[g]? = w.heap[g]?) : w'.ownsRow base e size v n xs := by
  refine ⟨h.1, ?_⟩
  rcases h.2 with h2 | ⟨g, cap, cur, hv, hb, hg, h3⟩
  · exact Or.inl h2
  · exact Or.inr ⟨g, cap, cur, hv, hb, (hk g (by rw [hv]; rfl) hb (lt_of_block hg)).trans hg, h3⟩
/-- What stays while one row grows, and its box is written. -/
theorem nm_grow {w0 w1 w w' : World} {bn bp b n : Nat} {u u' v : Value} {xs ys : List Value} {e f : TypeId} {m : Nat} {cs : Array Value} {t : TypeId} (ho : w.ownsRow (bp + 1) e 1 u n xs) (hv : w.ownsRow (bp + 1) f 1 v m ys) (hap : ∀ g, u.ownBlock = some g → v.ownBlock = some g → False)
    (hg : (w.alloc (.cells cs t)).grownBy w' u.ownBlock) (hat : u'.ownBlock = u.ownBlock ∨ u'.ownBlock = some (w.heap.size + 1)) (hbp : bp < w.heap.size) (hb : b ≤ bp) (hge : w0.heap.size ≤ bn) (hbn : bn ≤ b) (hle : Below w0.heap.size w0 w) (h1 : Below bn w1 w) :
    (∀ k o, k ≤ bp → w.heap[k]? = some o → w'.heap[k]? = some o) ∧ (w'.setCell ⟨b, 0, none⟩ u').ownsRow (bp + 1) f 1 v m ys ∧ (∀ g, u'.ownBlock = some g → v.ownBlock = some g → False) ∧ Below w0.heap.size w0 (w'.setCell ⟨b, 0, none⟩ u') ∧ Below bn w1 (w'.setCell ⟨b, 0, none⟩ u') := by
  have hsz : (w.alloc (.cells cs t)).heap.size = w.heap.size + 1 := by simp
  have hB : Below (bp + 1) w w' := grown_below ((Below.refl _ w).alloc (by omega) _) hg (fun g hg' => owns_row ho hg') (by omega)
  have hsw := hB.size
  have hO : Only b w' (w'.setCell ⟨b, 0, none⟩ u') := (Only.refl b w').setCell 0 u'
  have hS : Below b w (w'.setCell ⟨b, 0, none⟩ u') := (hB.mono (by omega)).trans (hO.below (Nat.le_refl _) (by omega))
  refine ⟨fun k o hk hw => (hB.block k (by omega)).trans hw, owns_only ?_ hO (by omega), ?_, hle.trans (hS.mono (by omega)), h1.trans (hS.mono hbn)⟩
  · refine owns_own hv fun g hg1 hg2 hg3 => ?_
    rw [hg.block g (by omega) (fun e => hap g e.symm hg1)]
    exact ((Below.refl w.heap.size w).alloc (Nat.le_refl _) _).block g hg3
  · intro g e1 e2
    rcases hat with hat | hat
    · exact hap g (hat ▸ e1) e2
    · rw [hat] at e1
      have := Option.some.inj e1
      have := (hv.lt g e2).2
      omega
theorem nmC_name {w0 w1 w w' : World} {bx bn bp : Nat} {un up un' : Value} {ls : List (List UInt8)} {js : List Nat} {nm : List UInt8} {cs : Array Value} {t : TypeId} (h : NmC w0 w1 bx bn bp un up ls js w)
    (ho : w'.ownsRow (bp + 1) 9 1 un' (ls.length + 1) (strs ls ++ [.string (bs nm)])) (hg : (w.alloc (.cells cs t)).grownBy w' un.ownBlock) (hat : un'.ownBlock = un.ownBlock ∨ un'.ownBlock = some (w.heap.size + 1)) :
    w'.heap[bn]? = some (.cells #[un] 45 (0, 0)) ∧ NmC w0 w1 bx bn bp un' up (ls ++ [nm]) js (w'.setCell ⟨bn, 0, none⟩ un') := by
  have hln := lt_of_block h.nam
  have hlp := lt_of_block h.pla
  have hlt := h.lt
  obtain ⟨h1, h2, h3, h4, h5⟩ := nm_grow (b := bn) h.nown h.pown h.apart hg hat hlp (by omega) h.ge (Nat.le_refl _) h.bel h.bel1
  have e1 : ls.length + 1 = (ls ++ [nm]).length := by simp
  have e2 : strs ls ++ [.string (bs nm)] = strs (ls ++ [nm]) := by simp [strs]
  rw [e1, e2] at ho
  exact ⟨h1 _ _ (by omega) h.nam, blk_set (h1 _ _ (by omega) h.nam) 0 un', blk_far un' (h1 _ _ (by omega) h.pla) (show bp ≠ bn by omega), owns_only ho ((Only.refl bn w').setCell 0 un') (by omega), h2, h3, h.ge, h.lt, h4, h5⟩
theorem nmC_place {w0 w1 w w' : World} {bx bn bp : Nat} {un up up' : Value} {ls : List (List UInt8)} {js : List Nat} {j : Nat} {cs : Array Value} {t : TypeId} (h : NmC w0 w1 bx bn bp un up ls js w)
    (ho : w'.ownsRow (bp + 1) 51 1 up' (js.length + 1) (ptrs bx js ++ [pt bx j])) (hg : (w.alloc (.cells cs t)).grownBy w' up.ownBlock) (hat : up'.ownBlock = up.ownBlock ∨ up'.ownBlock = some (w.heap.size + 1)) :
    w'.heap[bp]? = some (.cells #[up] 46 (0, 0)) ∧ NmC w0 w1 bx bn bp un up' ls (js ++ [j]) (w'.setCell ⟨bp, 0, none⟩ up') := by
  have hln := lt_of_block h.nam
  have hlp := lt_of_block h.pla
  have hlt := h.lt
  obtain ⟨h1, h2, h3, h4, h5⟩ := nm_grow (b := bp) h.pown h.nown (fun g a b => h.apart g b a) hg hat hlp (Nat.le_refl _) h.ge (by omega) h.bel h.bel1
  have e1 : js.length + 1 = (js ++ [j]).length := by simp
  have e2 : ptrs bx js ++ [pt bx j] = ptrs bx (js ++ [j]) := by simp [ptrs]
  rw [e1, e2] at ho
  exact ⟨h1 _ _ (by omega) h.pla, blk_far up' (h1 _ _ (by omega) h.nam) (show bn ≠ bp by omega), blk_set (h1 _ _ (by omega) h.pla) 0 up', h2, owns_only ho ((Only.refl bp w').setCell 0 up') (by omega), fun g a b => h3 g b a, h.ge, h.lt, h4, h5⟩
theorem phadd_any (w0 w1 : World) (bx bn bp j : Nat) (k : Int) (nm : List UInt8) (un up : Value) (ls : List (List UInt8)) (js : List Nat) (w : World) (h : NmC w0 w1 bx bn bp un up ls js w) (hl : ls.length ≤ 100) (hj : js.length ≤ 100) :
    Calls Tryd.prog 41 #[.string (bs nm), .int .i64 k, pt bx j, pt bn 0, pt bp 0] w fun e w' => e = .returned (.tuple #[]) ∧ ∃ un' up', NmC w0 w1 bx bn bp un' up' (addL k ls nm) (addL k js j) w' := by
  obtain ⟨i0, hi, hz0, hz1, hz2⟩ := info_parts infoS
  obtain ⟨i1, hi1, hy0, hy1, hy2⟩ := info_parts infoPt
  by_cases hk : k = 0
  · subst hk
    have HH := Lib.hid h
    clear h
    go_enter Tryd.func41, Tryd.ntmps41
    go_wp2_with fail
    go_end0
    exact ⟨rfl, un, up, HH.out⟩
  have dk : (k != 0) = true := by simpa using hk
  have e1 : addL k ls nm = ls ++ [nm] := if_neg hk
  have e2 : addL k js j = js ++ [j] := if_neg hk
  rw [e1, e2]
  clear e1 e2 hk
  have HH := Lib.hid h
  obtain ⟨A1, c1, rfl⟩ := owns_form h.nown
  obtain ⟨A2, c2, rfl⟩ := owns_form h.pown
  have cn := blk_cell h.nam 0
  have cp := blk_cell h.pla 0
  have hln := lt_of_block h.nam
  have hlp := lt_of_block h.pla
  simp only [List.getElem?_toArray, List.getElem?_cons_zero] at cn cp
  clear h
  unfold pt
  go_enter Tryd.func41, Tryd.ntmps41
  go_wp2_with (at_builtin; refine wpList_append_own_at _ rfl _ _ 45 rfl (bp + 1) 9 i0 (.string ⟨#[]⟩) 1 16 Tryd.underlying45 hi hz0 hz1 hz2 rfl (by decide) _ _ _ rfl (HH.out.nown.alloc _) ⟨w.heap.size, 0, none⟩ 1 1 [.string (bs nm)] rfl rfl (cell_one_new _ _ _) ?c2 ?c3 ?c4 ?c5 ?_)
  case c2 => intro u hu; simp at hu; subst hu; rfl
  case c3 => unfold maxLen; omega
  case c4 => omega
  case c5 => simp; omega
  intro v2 w2 hown2 hgrow2 _ hat2
  obtain ⟨hq2, hc2⟩ := nmC_name HH.out hown2 hgrow2 hat2
  have HC2 := Lib.hid hc2
  obtain ⟨A3, c3, rfl⟩ := owns_form hown2
  clear hown2 hgrow2 hat2 cn cp
  have cn := blk_cell hq2 0
  have fz2 := fun o => blk_free hq2 o
  have cp := blk_cell hc2.pla 0
  simp only [List.getElem?_toArray, List.getElem?_cons_zero] at cn cp
  clear hq2 hc2
  have hzs := Lib.hid (show w2.heap.size = (w2.setCell ⟨bn, 0, none⟩ (.slice A3 (ls.length + 1) c3)).heap.size by simp)
  have hl3 : bp < (w2.setCell ⟨bn, 0, none⟩ (.slice A3 (ls.length + 1) c3)).heap.size := lt_of_block HC2.out.pla
  go_wp2_with (at_builtin; refine wpList_append_own_at _ rfl _ _ 46 rfl (bp + 1) 51 i1 (.pointer none) 1 8 Tryd.underlying46 hi1 hy0 hy1 hy2 rfl (by decide) _ _ _ rfl (HC2.out.pown.alloc _) ⟨w2.heap.size, 0, none⟩ 1 1 [pt bx j] rfl rfl (cell_one_at _ _ hzs.out _ _) ?d2 ?d3 ?d4 ?d5 ?_)
  case d2 => intro u hu; simp at hu; subst hu; rfl
  case d3 => unfold maxLen; omega
  case d4 => omega
  case d5 => simp at hl3 ⊢; omega
  intro v4 w4 hown4 hgrow4 _ hat4
  obtain ⟨hq4, hc4⟩ := nmC_place HC2.out hown4 hgrow4 (by rw [← hzs.out]; exact hat4)
  have HC4 := Lib.hid hc4
  obtain ⟨A4, c4, rfl⟩ := owns_form hown4
  clear hown4 hgrow4 hat4 cn cp fz2
  have cp := blk_cell hq4 0
  have fz4 := fun o => blk_free hq4 o
  simp only [List.getElem?_toArray, List.getElem?_cons_zero] at cp
  clear hq4 hc4
  go_wp2_with fail
  go_end0
  exact ⟨rfl, _, _, HC4.out⟩
end Go.Proofs.YthpijibcfkcenaaDoor
/- What package phrase's numbers comes to. Conditions: the kind fits. -/
namespace Go.Proofs.YthpijibcfkcenaaDoor
open Go.ChangeShapes Go.WideShapes Go.ChangeAt Go.RowKit
set_option linter.unusedVariables false
set_option maxRecDepth 100000
set_option linter.unusedSimpArgs false
set_option maxHeartbeats 8000000

def ones (k : Int) : Evt := ⟨k, 1, 1, 1, 1, ⟨1, 1, 1⟩⟩
/-- What numbers' names are: none, where there is no such kind. -/
def namesQ (k : Int) : List (List UInt8) := if lettersE k = [] then [] else namesP k
def nmTab (K : Evt) : List (Int × List UInt8 × Nat) := [(K.j, nJob, 2), (K.p, nPrio, 4), (K.n, nNode, 1), (K.i, nInc, 3), (K.r.a, nCores, 5), (K.r.b, nMem, 6), (K.r.c, nDisk, 7)]
def addN (K : Evt) (m : Nat) : List (List UInt8) := ((nmTab K).take m).foldl (fun l e => addL e.1 l e.2.1) []
def addJ (K : Evt) (m : Nat) : List Nat := ((nmTab K).take m).foldl (fun l e => addL e.1 l e.2.2) []
theorem kept_all (k : Int) : addN (pureE (ones k)) 7 = namesQ k ∧ addJ (pureE (ones k)) 7 = idxE k := by
  rcases idx_cases k with ⟨rfl, _, _⟩ | ⟨rfl, _, _⟩ | ⟨rfl, _, _⟩ | ⟨rfl, _, _⟩ | ⟨rfl, _, _⟩ | ⟨rfl, _, _⟩ | ⟨rfl, _, _⟩ | ⟨h1, h2⟩
  · exact ⟨by kernel_rfl, by kernel_rfl⟩
  · exact ⟨by kernel_rfl, by kernel_rfl⟩
  · exact ⟨by kernel_rfl, by kernel_rfl⟩
  · exact ⟨by kernel_rfl, by kernel_rfl⟩
  · exact ⟨by kernel_rfl, by kernel_rfl⟩
  · exact ⟨by kernel_rfl, by kernel_rfl⟩
  · exact ⟨by kernel_rfl, by kernel_rfl⟩
  · have e : pureE (ones k) = zeroE := if_pos h2
    rw [e, h1]
    unfold namesQ
    rw [if_pos h2]
    exact ⟨rfl, rfl⟩
theorem addL_len {α : Type} (k : Int) (l : List α) (x : α) : (addL k l x).length ≤ l.length + 1 := by unfold addL; split <;> simp
theorem fold_len {α β : Type} (f : β → Int) (g : β → α) : ∀ (t : List β) (l : List α), (t.foldl (fun l e => addL (f e) l (g e)) l).length ≤ l.length + t.length
  | [], l => Nat.le_refl _
  | e :: t, l => by
    have h1 := fold_len f g t (addL (f e) l (g e))
    have h2 := addL_len (f e) l (g e)
    simp only [List.foldl_cons, List.length_cons]
    omega
theorem add_few (K : Evt) (m : Nat) (hm : m ≤ 7) : (addN K m).length ≤ 7 ∧ (addJ K m).length ≤ 7 := by
  have h1 := fold_len (fun e : Int × List UInt8 × Nat => e.1) (fun e => e.2.1) ((nmTab K).take m) []
  have h2 := fold_len (fun e : Int × List UInt8 × Nat => e.1) (fun e => e.2.2) ((nmTab K).take m) []
  have h3 : ((nmTab K).take m).length ≤ 7 := by rw [List.length_take]; omega
  simp only [List.length_nil] at h1 h2
  exact ⟨Nat.le_trans h1 (by omega), Nat.le_trans h2 (by omega)⟩
/-- Where numbers stands: so many names have been tried. -/
def NmI (w0 w1 : World) (bx bn bp : Nat) (K : Evt) (m : Nat) (w : World) : Prop := ∃ un up, NmC w0 w1 bx bn bp un up (addN K m) (addJ K m) w
theorem NmI.bel1 {w0 w1 w : World} {bx bn bp m : Nat} {K : Evt} (h : NmI w0 w1 bx bn bp K m w) : Below bn w1 w := by obtain ⟨un, up, h⟩ := h; exact h.bel1
theorem NmI.drew {w0 w1 w : World} {bx bn bp m : Nat} {K : Evt} (h : NmI w0 w1 bx bn bp K m w) : NmI w0 w1 bx bn bp K m w.drew := by obtain ⟨un, up, h⟩ := h; exact ⟨un, up, h.draws 1⟩
def NmP (w0 w1 : World) (bx bn bp : Nat) (K : Evt) (m : Nat) (p : Nat) (w : World) : Prop := NmI w0 w1 bx bn bp K (if p = 0 then m else m + 1) w
theorem NmP.bel1 {w0 w1 w : World} {bx bn bp m p : Nat} {K : Evt} (h : NmP w0 w1 bx bn bp K m p w) : Below bn w1 w := NmI.bel1 h
theorem nm_step (w0 w1 : World) (bx bn bp m j : Nat) (k : Int) (nm : List UInt8) (K : Evt) (w : World) (hm : m < 7) (e1 : addN K (m + 1) = addL k (addN K m) nm) (e2 : addJ K (m + 1) = addL k (addJ K m) j) (h : NmI w0 w1 bx bn bp K m w) :
    Calls Tryd.prog 41 #[.string (bs nm), .int .i64 k, pt bx j, pt bn 0, pt bp 0] w fun e w' => e = .returned (.tuple #[]) ∧ NmI w0 w1 bx bn bp K (m + 1) w' := by
  obtain ⟨un, up, h⟩ := h
  have hf := add_few K m (by omega)
  refine (phadd_any w0 w1 bx bn bp j k nm un up _ _ w h (by omega) (by omega)).mono ?_
  rintro e w' ⟨he, un', up', h'⟩
  exact ⟨he, un', up', by rw [e1, e2]; exact h'⟩
theorem nm_start {w w1 : World} (bx : Nat) (K : Evt) (hB : Below w.heap.size w w1) : NmI w ((w1.alloc (.cells K.cells 25)).alloc (.cells #[.slice none 0 0] 45) |>.alloc (.cells #[.slice none 0 0] 46)) bx (w1.heap.size + 1) (w1.heap.size + 2) K 0
    ((w1.alloc (.cells K.cells 25)).alloc (.cells #[.slice none 0 0] 45) |>.alloc (.cells #[.slice none 0 0] 46)) := by
  have hs := hB.size
  refine ⟨.slice none 0 0, .slice none 0 0, blk_old _ (blk_at _ _ _ (by simp)), blk_at _ _ _ (by simp), World.ownsRow_nil _ _ _ _, World.ownsRow_nil _ _ _ _, (fun g h => by cases h), by omega, by omega, ?_, Below.refl _ _⟩
  exact ((hB.alloc hs _).alloc (by simp; omega) _).alloc (by simp; omega) _
theorem phnumbers_any (bx : Nat) (k : Int) (w : World) (hk : inI k) (hx : w.cell? ⟨bx, 0, none⟩ = some (.int .i64 k)) :
    Calls Tryd.prog 21 #[pt bx 0] w fun e w' => ∃ un up, e = .returned (.tuple #[un, up]) ∧ Rd w' w'.heap.size un (strs (namesQ k)) ∧ Rd w' w'.heap.size up (ptrs bx (idxE k)) ∧ Below w.heap.size w w' ∧ ∀ g, up.ownBlock = some g → w.heap.size ≤ g := by
  have h1 : inI 1 := by unfold inI; omega
  have CP := Lib.hid (evpure_any (ones k) w ⟨hk, h1, h1, h1, h1, h1, h1, h1⟩)
  have HKA := Lib.hid (kept_all k)
  generalize pureE (ones k) = K at *
  unfold Evt.val ones at CP
  go_enter Tryd.func21, Tryd.ntmps21
  go_wp2_with fail
  refine CP.out.mono ?_
  rintro e w1 ⟨rfl, hB⟩
  have hK0 : (w1.alloc (.cells K.cells 25)).heap[w1.heap.size]? = some (.cells K.cells 25 (0, 0)) := blk_new w1 _
  have HB1 := Lib.hid hB
  unfold Evt.cells at hK0
  clear hB CP hx h1
  go_wp2_with fail
  have H0 := Lib.hid (show NmI w ((w1.alloc (.cells K.cells 25)).alloc (.cells #[.slice none 0 0] 45) |>.alloc (.cells #[.slice none 0 0] 46)) bx (w1.heap.size + 1) (w1.heap.size + 2) K 0 ((w1.alloc (.cells K.cells 25)).alloc (.cells #[.slice none 0 0] 45) |>.alloc (.cells #[.slice none 0 0] 46)) from nm_start bx K HB1.out)
  have HK := Lib.hid (blk_old (.cells #[.slice none 0 0] 46) (blk_old (.cells #[.slice none 0 0] 45) hK0))
  unfold Evt.cells at H0 HK
  clear hK0
  generalize hw3 : ((w1.alloc _).alloc (.cells #[.slice none 0 0] 45)).alloc (.cells #[.slice none 0 0] 46) = w3 at *
  have HW3 := Lib.hid hw3
  clear hw3
  have hsz : w1.heap.size < w1.heap.size + 1 := by omega
  refine wp_region_holdP [6] (NmP w w3 bx (w1.heap.size + 1) (w1.heap.size + 2) K 0) (by kernel_rfl) (by kernel_rfl) H0.out.drew ?_
  refine holdP_val (v := (.func (.func 41) #[] #[pt (w1.heap.size + 1) 0, pt (w1.heap.size + 1 + 1) 0])) (by rfl) (by rfl) (fun p w' hC => by go_simp) ?_
  simp only [Act.put, List.setIfInBounds_toArray, List.set_cons_zero, List.set_cons_succ]
  refine holdP_val (v := pt w1.heap.size 2) (by rfl) (by rfl) (fun p w' hC => by go_simp) ?_
  simp only [Act.put, List.setIfInBounds_toArray, List.set_cons_zero, List.set_cons_succ]
  refine holdP_val (v := .int .i64 K.j) (by rfl) (by rfl) (fun p w' hC => by
    obtain ⟨e0, e1, e2, e3, e4, e5, e6, e7⟩ := evt_cells (v := K) (blk_below hC.bel1 HK.out hsz)
    go_simp) ?_
  simp only [Act.put, List.setIfInBounds_toArray, List.set_cons_zero, List.set_cons_succ]
  refine holdP_val (v := pt bx 0) (by rfl) (by rfl) (fun p w' hC => by go_simp) ?_
  simp only [Act.put, List.setIfInBounds_toArray, List.set_cons_zero, List.set_cons_succ]
  refine holdP_val (v := pt bx 0) (by rfl) (by rfl) (fun p w' hC => by go_simp) ?_
  simp only [Act.put, List.setIfInBounds_toArray, List.set_cons_zero, List.set_cons_succ]
  refine holdP_val (v := pt bx 2) (by rfl) (by rfl) (fun p w' hC => by go_simp) ?_
  simp only [Act.put, List.setIfInBounds_toArray, List.set_cons_zero, List.set_cons_succ]
  refine holdP_call (v := .tuple #[]) (f := 41) (args := #[.string (bs nJob), .int .i64 K.j, pt bx 2, pt (w1.heap.size + 1) 0, pt (w1.heap.size + 2) 0]) 0 rfl (by rfl) (fun w' hC => by go_simp; try rfl) (fun w' hC => nm_step w w3 bx _ _ 0 2 K.j nJob K w' (by omega) rfl rfl hC) ?_
  simp only [Act.put, List.setIfInBounds_toArray, List.set_cons_zero, List.set_cons_succ]
  refine holdP_nil (fun w4 hC => ?_)
  have H1 := Lib.hid (show NmI w w3 bx (w1.heap.size + 1) (w1.heap.size + 2) K 1 w4 from hC)
  clear hC H0
  go_wp2_with fail
  refine wp_region_holdP [6] (NmP w w3 bx (w1.heap.size + 1) (w1.heap.size + 2) K 1) (by kernel_rfl) (by kernel_rfl) H1.out.drew ?_
  refine holdP_val (v := (.func (.func 41) #[] #[pt (w1.heap.size + 1) 0, pt (w1.heap.size + 1 + 1) 0])) (by rfl) (by rfl) (fun p w' hC => by go_simp) ?_
  simp only [Act.put, List.setIfInBounds_toArray, List.set_cons_zero, List.set_cons_succ]
  refine holdP_val (v := pt w1.heap.size 4) (by rfl) (by rfl) (fun p w' hC => by go_simp) ?_
  simp only [Act.put, List.setIfInBounds_toArray, List.set_cons_zero, List.set_cons_succ]
  refine holdP_val (v := .int .i64 K.p) (by rfl) (by rfl) (fun p w' hC => by
    obtain ⟨e0, e1, e2, e3, e4, e5, e6, e7⟩ := evt_cells (v := K) (blk_below hC.bel1 HK.out hsz)
    go_simp) ?_
  simp only [Act.put, List.setIfInBounds_toArray, List.set_cons_zero, List.set_cons_succ]
  refine holdP_val (v := pt bx 0) (by rfl) (by rfl) (fun p w' hC => by go_simp) ?_
  simp only [Act.put, List.setIfInBounds_toArray, List.set_cons_zero, List.set_cons_succ]
  refine holdP_val (v := pt bx 0) (by rfl) (by rfl) (fun p w' hC => by go_simp) ?_
  simp only [Act.put, List.setIfInBounds_toArray, List.set_cons_zero, List.set_cons_succ]
  refine holdP_val (v := pt bx 4) (by rfl) (by rfl) (fun p w' hC => by go_simp) ?_
  simp only [Act.put, List.setIfInBounds_toArray, List.set_cons_zero, List.set_cons_succ]
  refine holdP_call (v := .tuple #[]) (f := 41) (args := #[.string (bs nPrio), .int .i64 K.p, pt bx 4, pt (w1.heap.size + 1) 0, pt (w1.heap.size + 2) 0]) 0 rfl (by rfl) (fun w' hC => by go_simp; try rfl) (fun w' hC => nm_step w w3 bx _ _ 1 4 K.p nPrio K w' (by omega) rfl rfl hC) ?_
  simp only [Act.put, List.setIfInBounds_toArray, List.set_cons_zero, List.set_cons_succ]
  refine holdP_nil (fun w5 hC => ?_)
  have H2 := Lib.hid (show NmI w w3 bx (w1.heap.size + 1) (w1.heap.size + 2) K 2 w5 from hC)
  clear hC H1
  go_wp2_with fail
  refine wp_region_holdP [6] (NmP w w3 bx (w1.heap.size + 1) (w1.heap.size + 2) K 2) (by kernel_rfl) (by kernel_rfl) H2.out.drew ?_
  refine holdP_val (v := (.func (.func 41) #[] #[pt (w1.heap.size + 1) 0, pt (w1.heap.size + 1 + 1) 0])) (by rfl) (by rfl) (fun p w' hC => by go_simp) ?_
  simp only [Act.put, List.setIfInBounds_toArray, List.set_cons_zero, List.set_cons_succ]
  refine holdP_val (v := pt w1.heap.size 1) (by rfl) (by rfl) (fun p w' hC => by go_simp) ?_
  simp only [Act.put, List.setIfInBounds_toArray, List.set_cons_zero, List.set_cons_succ]
  refine holdP_val (v := .int .i64 K.n) (by rfl) (by rfl) (fun p w' hC => by
    obtain ⟨e0, e1, e2, e3, e4, e5, e6, e7⟩ := evt_cells (v := K) (blk_below hC.bel1 HK.out hsz)
    go_simp) ?_
  simp only [Act.put, List.setIfInBounds_toArray, List.set_cons_zero, List.set_cons_succ]
  refine holdP_val (v := pt bx 0) (by rfl) (by rfl) (fun p w' hC => by go_simp) ?_
  simp only [Act.put, List.setIfInBounds_toArray, List.set_cons_zero, List.set_cons_succ]
  refine holdP_val (v := pt bx 0) (by rfl) (by rfl) (fun p w' hC => by go_simp) ?_
  simp only [Act.put, List.setIfInBounds_toArray, List.set_cons_zero, List.set_cons_succ]
  refine holdP_val (v := pt bx 1) (by rfl) (by rfl) (fun p w' hC => by go_simp) ?_
  simp only [Act.put, List.setIfInBounds_toArray, List.set_cons_zero, List.set_cons_succ]
  refine holdP_call (v := .tuple #[]) (f := 41) (args := #[.string (bs nNode), .int .i64 K.n, pt bx 1, pt (w1.heap.size + 1) 0, pt (w1.heap.size + 2) 0]) 0 rfl (by rfl) (fun w' hC => by go_simp; try rfl) (fun w' hC => nm_step w w3 bx _ _ 2 1 K.n nNode K w' (by omega) rfl rfl hC) ?_
  simp only [Act.put, List.setIfInBounds_toArray, List.set_cons_zero, List.set_cons_succ]
  refine holdP_nil (fun w6 hC => ?_)
  have H3 := Lib.hid (show NmI w w3 bx (w1.heap.size + 1) (w1.heap.size + 2) K 3 w6 from hC)
  clear hC H2
  go_wp2_with fail
  refine wp_region_holdP [6] (NmP w w3 bx (w1.heap.size + 1) (w1.heap.size + 2) K 3) (by kernel_rfl) (by kernel_rfl) H3.out.drew ?_
  refine holdP_val (v := (.func (.func 41) #[] #[pt (w1.heap.size + 1) 0, pt (w1.heap.size + 1 + 1) 0])) (by rfl) (by rfl) (fun p w' hC => by go_simp) ?_
  simp only [Act.put, List.setIfInBounds_toArray, List.set_cons_zero, List.set_cons_succ]
  refine holdP_val (v := pt w1.heap.size 3) (by rfl) (by rfl) (fun p w' hC => by go_simp) ?_
  simp only [Act.put, List.setIfInBounds_toArray, List.set_cons_zero, List.set_cons_succ]
  refine holdP_val (v := .int .i64 K.i) (by rfl) (by rfl) (fun p w' hC => by
    obtain ⟨e0, e1, e2, e3, e4, e5, e6, e7⟩ := evt_cells (v := K) (blk_below hC.bel1 HK.out hsz)
    go_simp) ?_
  simp only [Act.put, List.setIfInBounds_toArray, List.set_cons_zero, List.set_cons_succ]
  refine holdP_val (v := pt bx 0) (by rfl) (by rfl) (fun p w' hC => by go_simp) ?_
  simp only [Act.put, List.setIfInBounds_toArray, List.set_cons_zero, List.set_cons_succ]
  refine holdP_val (v := pt bx 0) (by rfl) (by rfl) (fun p w' hC => by go_simp) ?_
  simp only [Act.put, List.setIfInBounds_toArray, List.set_cons_zero, List.set_cons_succ]
  refine holdP_val (v := pt bx 3) (by rfl) (by rfl) (fun p w' hC => by go_simp) ?_
  simp only [Act.put, List.setIfInBounds_toArray, List.set_cons_zero, List.set_cons_succ]
  refine holdP_call (v := .tuple #[]) (f := 41) (args := #[.string (bs nInc), .int .i64 K.i, pt bx 3, pt (w1.heap.size + 1) 0, pt (w1.heap.size + 2) 0]) 0 rfl (by rfl) (fun w' hC => by go_simp; try rfl) (fun w' hC => nm_step w w3 bx _ _ 3 3 K.i nInc K w' (by omega) rfl rfl hC) ?_
  simp only [Act.put, List.setIfInBounds_toArray, List.set_cons_zero, List.set_cons_succ]
  refine holdP_nil (fun w7 hC => ?_)
  have H4 := Lib.hid (show NmI w w3 bx (w1.heap.size + 1) (w1.heap.size + 2) K 4 w7 from hC)
  clear hC H3
  go_wp2_with fail
  have ix0 : ∀ w, (Instr.index 73 (.agg #[.string ⟨#[99, 111, 114, 101, 115]⟩, .string ⟨#[109, 101, 109, 111, 114, 121]⟩, .string ⟨#[100, 105, 115, 107]⟩]) (.int .i64 0)).run Tryd.prog w = .ok (.string ⟨#[99, 111, 114, 101, 115]⟩) w := fun _ => by kernel_rfl
  have ix1 : ∀ w, (Instr.index 73 (.agg #[.string ⟨#[99, 111, 114, 101, 115]⟩, .string ⟨#[109, 101, 109, 111, 114, 121]⟩, .string ⟨#[100, 105, 115, 107]⟩]) (.int .i64 1)).run Tryd.prog w = .ok (.string ⟨#[109, 101, 109, 111, 114, 121]⟩) w := fun _ => by kernel_rfl
  have ix2 : ∀ w, (Instr.index 73 (.agg #[.string ⟨#[99, 111, 114, 101, 115]⟩, .string ⟨#[109, 101, 109, 111, 114, 121]⟩, .string ⟨#[100, 105, 115, 107]⟩]) (.int .i64 2)).run Tryd.prog w = .ok (.string ⟨#[100, 105, 115, 107]⟩) w := fun _ => by kernel_rfl
  go_loopw [47] (fun i wr => ∃ m : Nat, m ≤ 3 ∧ i = .int .i64 m ∧ NmI w w3 bx (w1.heap.size + 1) (w1.heap.size + 2) K (4 + m) wr) (fun i _ => 3 - (intOf i).toNat)
  case atStart => exact ⟨0, by omega, rfl, H4.out⟩
  case round =>
    obtain ⟨m, hm, rfl, hI⟩ := hrel
    have HI := Lib.hid hI
    clear hI H4
    rcases (show m = 0 ∨ m = 1 ∨ m = 2 ∨ m = 3 by omega) with rfl | rfl | rfl | rfl
    · go_wp2_with fail
      refine wp_region_holdP [11] (NmP w w3 bx (w1.heap.size + 1) (w1.heap.size + 2) K 4) (by kernel_rfl) (by kernel_rfl) HI.out.drew ?_
      refine holdP_val (v := (.func (.func 41) #[] #[pt (w1.heap.size + 1) 0, pt (w1.heap.size + 1 + 1) 0])) (by rfl) (by rfl) (fun p w' hC => by go_simp) ?_
      simp only [Act.put, List.setIfInBounds_toArray, List.set_cons_zero, List.set_cons_succ]
      refine holdP_val (v := .string (bs nCores)) (by rfl) (by rfl) (fun p w' hC => by go_simp; try rfl) ?_
      simp only [Act.put, List.setIfInBounds_toArray, List.set_cons_zero, List.set_cons_succ]
      refine holdP_val (v := .int .i64 0) (by rfl) (by rfl) (fun p w' hC => by go_simp; try rfl) ?_
      simp only [Act.put, List.setIfInBounds_toArray, List.set_cons_zero, List.set_cons_succ]
      refine holdP_val (v := pt w1.heap.size 5) (by rfl) (by rfl) (fun p w' hC => by go_simp) ?_
      simp only [Act.put, List.setIfInBounds_toArray, List.set_cons_zero, List.set_cons_succ]
      refine holdP_val (v := pt w1.heap.size 5) (by rfl) (by rfl) (fun p w' hC => by go_simp) ?_
      simp only [Act.put, List.setIfInBounds_toArray, List.set_cons_zero, List.set_cons_succ]
      refine holdP_val (v := .int .i64 K.r.a) (by rfl) (by rfl) (fun p w' hC => by
        obtain ⟨e0, e1, e2, e3, e4, e5, e6, e7⟩ := evt_cells (v := K) (blk_below hC.bel1 HK.out hsz)
        go_simp) ?_
      simp only [Act.put, List.setIfInBounds_toArray, List.set_cons_zero, List.set_cons_succ]
      refine holdP_val (v := pt bx 0) (by rfl) (by rfl) (fun p w' hC => by go_simp) ?_
      simp only [Act.put, List.setIfInBounds_toArray, List.set_cons_zero, List.set_cons_succ]
      refine holdP_val (v := .int .i64 0) (by rfl) (by rfl) (fun p w' hC => by go_simp; try rfl) ?_
      simp only [Act.put, List.setIfInBounds_toArray, List.set_cons_zero, List.set_cons_succ]
      refine holdP_val (v := pt bx 0) (by rfl) (by rfl) (fun p w' hC => by go_simp) ?_
      simp only [Act.put, List.setIfInBounds_toArray, List.set_cons_zero, List.set_cons_succ]
      refine holdP_val (v := pt bx 5) (by rfl) (by rfl) (fun p w' hC => by go_simp) ?_
      simp only [Act.put, List.setIfInBounds_toArray, List.set_cons_zero, List.set_cons_succ]
      refine holdP_val (v := pt bx 5) (by rfl) (by rfl) (fun p w' hC => by go_simp) ?_
      simp only [Act.put, List.setIfInBounds_toArray, List.set_cons_zero, List.set_cons_succ]
      refine holdP_call (v := .tuple #[]) (f := 41) (args := #[.string (bs nCores), .int .i64 K.r.a, pt bx 5, pt (w1.heap.size + 1) 0, pt (w1.heap.size + 2) 0]) 0 rfl (by rfl) (fun w' hC => by go_simp; try rfl) (fun w' hC => nm_step w w3 bx _ _ 4 5 K.r.a nCores K w' (by omega) rfl rfl hC) ?_
      simp only [Act.put, List.setIfInBounds_toArray, List.set_cons_zero, List.set_cons_succ]
      refine holdP_nil (fun wx hC => ?_)
      have HX := Lib.hid (show NmI w w3 bx (w1.heap.size + 1) (w1.heap.size + 2) K 5 wx from hC)
      clear hC HI
      go_wp2_with fail
      go_roundw
      case rel => exact ⟨1, by omega, by go_num, HX.out⟩
      case measure => simp [intOf]
    · go_wp2_with fail
      refine wp_region_holdP [11] (NmP w w3 bx (w1.heap.size + 1) (w1.heap.size + 2) K 5) (by kernel_rfl) (by kernel_rfl) HI.out.drew ?_
      refine holdP_val (v := (.func (.func 41) #[] #[pt (w1.heap.size + 1) 0, pt (w1.heap.size + 1 + 1) 0])) (by rfl) (by rfl) (fun p w' hC => by go_simp) ?_
      simp only [Act.put, List.setIfInBounds_toArray, List.set_cons_zero, List.set_cons_succ]
      refine holdP_val (v := .string (bs nMem)) (by rfl) (by rfl) (fun p w' hC => by go_simp; try rfl) ?_
      simp only [Act.put, List.setIfInBounds_toArray, List.set_cons_zero, List.set_cons_succ]
      refine holdP_val (v := .int .i64 1) (by rfl) (by rfl) (fun p w' hC => by go_simp; try rfl) ?_
      simp only [Act.put, List.setIfInBounds_toArray, List.set_cons_zero, List.set_cons_succ]
      refine holdP_val (v := pt w1.heap.size 5) (by rfl) (by rfl) (fun p w' hC => by go_simp) ?_
      simp only [Act.put, List.setIfInBounds_toArray, List.set_cons_zero, List.set_cons_succ]
      refine holdP_val (v := pt w1.heap.size 6) (by rfl) (by rfl) (fun p w' hC => by go_simp) ?_
      simp only [Act.put, List.setIfInBounds_toArray, List.set_cons_zero, List.set_cons_succ]
      refine holdP_val (v := .int .i64 K.r.b) (by rfl) (by rfl) (fun p w' hC => by
        obtain ⟨e0, e1, e2, e3, e4, e5, e6, e7⟩ := evt_cells (v := K) (blk_below hC.bel1 HK.out hsz)
        go_simp) ?_
      simp only [Act.put, List.setIfInBounds_toArray, List.set_cons_zero, List.set_cons_succ]
      refine holdP_val (v := pt bx 0) (by rfl) (by rfl) (fun p w' hC => by go_simp) ?_
      simp only [Act.put, List.setIfInBounds_toArray, List.set_cons_zero, List.set_cons_succ]
      refine holdP_val (v := .int .i64 1) (by rfl) (by rfl) (fun p w' hC => by go_simp; try rfl) ?_
      simp only [Act.put, List.setIfInBounds_toArray, List.set_cons_zero, List.set_cons_succ]
      refine holdP_val (v := pt bx 0) (by rfl) (by rfl) (fun p w' hC => by go_simp) ?_
      simp only [Act.put, List.setIfInBounds_toArray, List.set_cons_zero, List.set_cons_succ]
      refine holdP_val (v := pt bx 5) (by rfl) (by rfl) (fun p w' hC => by go_simp) ?_
      simp only [Act.put, List.setIfInBounds_toArray, List.set_cons_zero, List.set_cons_succ]
      refine holdP_val (v := pt bx 6) (by rfl) (by rfl) (fun p w' hC => by go_simp) ?_
      simp only [Act.put, List.setIfInBounds_toArray, List.set_cons_zero, List.set_cons_succ]
      refine holdP_call (v := .tuple #[]) (f := 41) (args := #[.string (bs nMem), .int .i64 K.r.b, pt bx 6, pt (w1.heap.size + 1) 0, pt (w1.heap.size + 2) 0]) 0 rfl (by rfl) (fun w' hC => by go_simp; try rfl) (fun w' hC => nm_step w w3 bx _ _ 5 6 K.r.b nMem K w' (by omega) rfl rfl hC) ?_
      simp only [Act.put, List.setIfInBounds_toArray, List.set_cons_zero, List.set_cons_succ]
      refine holdP_nil (fun wx hC => ?_)
      have HX := Lib.hid (show NmI w w3 bx (w1.heap.size + 1) (w1.heap.size + 2) K 6 wx from hC)
      clear hC HI
      go_wp2_with fail
      go_roundw
      case rel => exact ⟨2, by omega, by go_num, HX.out⟩
      case measure => simp [intOf]
    · go_wp2_with fail
      refine wp_region_holdP [11] (NmP w w3 bx (w1.heap.size + 1) (w1.heap.size + 2) K 6) (by kernel_rfl) (by kernel_rfl) HI.out.drew ?_
      refine holdP_val (v := (.func (.func 41) #[] #[pt (w1.heap.size + 1) 0, pt (w1.heap.size + 1 + 1) 0])) (by rfl) (by rfl) (fun p w' hC => by go_simp) ?_
      simp only [Act.put, List.setIfInBounds_toArray, List.set_cons_zero, List.set_cons_succ]
      refine holdP_val (v := .string (bs nDisk)) (by rfl) (by rfl) (fun p w' hC => by go_simp; try rfl) ?_
      simp only [Act.put, List.setIfInBounds_toArray, List.set_cons_zero, List.set_cons_succ]
      refine holdP_val (v := .int .i64 2) (by rfl) (by rfl) (fun p w' hC => by go_simp; try rfl) ?_
      simp only [Act.put, List.setIfInBounds_toArray, List.set_cons_zero, List.set_cons_succ]
      refine holdP_val (v := pt w1.heap.size 5) (by rfl) (by rfl) (fun p w' hC => by go_simp) ?_
      simp only [Act.put, List.setIfInBounds_toArray, List.set_cons_zero, List.set_cons_succ]
      refine holdP_val (v := pt w1.heap.size 7) (by rfl) (by rfl) (fun p w' hC => by go_simp) ?_
      simp only [Act.put, List.setIfInBounds_toArray, List.set_cons_zero, List.set_cons_succ]
      refine holdP_val (v := .int .i64 K.r.c) (by rfl) (by rfl) (fun p w' hC => by
        obtain ⟨e0, e1, e2, e3, e4, e5, e6, e7⟩ := evt_cells (v := K) (blk_below hC.bel1 HK.out hsz)
        go_simp) ?_
      simp only [Act.put, List.setIfInBounds_toArray, List.set_cons_zero, List.set_cons_succ]
      refine holdP_val (v := pt bx 0) (by rfl) (by rfl) (fun p w' hC => by go_simp) ?_
      simp only [Act.put, List.setIfInBounds_toArray, List.set_cons_zero, List.set_cons_succ]
      refine holdP_val (v := .int .i64 2) (by rfl) (by rfl) (fun p w' hC => by go_simp; try rfl) ?_
      simp only [Act.put, List.setIfInBounds_toArray, List.set_cons_zero, List.set_cons_succ]
      refine holdP_val (v := pt bx 0) (by rfl) (by rfl) (fun p w' hC => by go_simp) ?_
      simp only [Act.put, List.setIfInBounds_toArray, List.set_cons_zero, List.set_cons_succ]
      refine holdP_val (v := pt bx 5) (by rfl) (by rfl) (fun p w' hC => by go_simp) ?_
      simp only [Act.put, List.setIfInBounds_toArray, List.set_cons_zero, List.set_cons_succ]
      refine holdP_val (v := pt bx 7) (by rfl) (by rfl) (fun p w' hC => by go_simp) ?_
      simp only [Act.put, List.setIfInBounds_toArray, List.set_cons_zero, List.set_cons_succ]
      refine holdP_call (v := .tuple #[]) (f := 41) (args := #[.string (bs nDisk), .int .i64 K.r.c, pt bx 7, pt (w1.heap.size + 1) 0, pt (w1.heap.size + 2) 0]) 0 rfl (by rfl) (fun w' hC => by go_simp; try rfl) (fun w' hC => nm_step w w3 bx _ _ 6 7 K.r.c nDisk K w' (by omega) rfl rfl hC) ?_
      simp only [Act.put, List.setIfInBounds_toArray, List.set_cons_zero, List.set_cons_succ]
      refine holdP_nil (fun wx hC => ?_)
      have HX := Lib.hid (show NmI w w3 bx (w1.heap.size + 1) (w1.heap.size + 2) K 7 wx from hC)
      clear hC HI
      go_wp2_with fail
      go_roundw
      case rel => exact ⟨3, by omega, by go_num, HX.out⟩
      case measure => simp [intOf]
    · obtain ⟨un, up, hI⟩ := HI.out
      have cn := blk_cell hI.nam 0
      have cp := blk_cell hI.pla 0
      simp only [List.getElem?_toArray, List.getElem?_cons_zero] at cn cp
      obtain ⟨A1, c1, rfl⟩ := owns_form hI.nown
      obtain ⟨A2, c2, rfl⟩ := owns_form hI.pown
      have HII := Lib.hid hI
      clear hI HI
      go_wp2_with fail
      go_quiet (fail)
      go_wp2_with fail
      go_ret2
      rw [← HKA.out.1, ← HKA.out.2]
      exact ⟨_, _, rfl, (Rd.own HII.out.nown).drewN _, (Rd.own HII.out.pown).drewN _, (HII.out.draws _).bel, fun g hg => by have h1 := owns_row HII.out.pown hg; have h2 := HB1.out.size; omega⟩
end Go.Proofs.YthpijibcfkcenaaDoor
/- What package phrase's Word and kindOf come to. Conditions: the table of words holds what it was laid with. -/
namespace Go.Proofs.YthpijibcfkcenaaDoor
open Go.ChangeShapes Go.WideShapes Go.ChangeAt Go.RowKit
set_option linter.unusedVariables false
set_option maxRecDepth 100000
set_option linter.unusedSimpArgs false
set_option maxHeartbeats 4000000

def words7 : List (List UInt8) := [wordP 1, wordP 2, wordP 3, wordP 4, wordP 5, wordP 6, wordP 7]
/-- The table of the kinds' words holds what it was laid with. -/
def Kd (w : World) : Prop := TextsIs Tryd.prog w "reeve/phrase.kinds" words7
theorem kd_name : Tryd.prog.globalNamed "reeve/phrase.kinds" = some 0 := by kernel_rfl
theorem kd_below {w w' : World} (h : Kd w) (hb : Below w.heap.size w w') : Kd w' := TextsIs.below h kd_name hb
theorem kd_cells {w : World} (h : Kd w) : w.cell? ⟨0, 0, none⟩ = some (.string (bs (wordP 1))) ∧ w.cell? ⟨0, 1, none⟩ = some (.string (bs (wordP 2))) ∧ w.cell? ⟨0, 2, none⟩ = some (.string (bs (wordP 3))) ∧
    w.cell? ⟨0, 3, none⟩ = some (.string (bs (wordP 4))) ∧ w.cell? ⟨0, 4, none⟩ = some (.string (bs (wordP 5))) ∧ w.cell? ⟨0, 5, none⟩ = some (.string (bs (wordP 6))) ∧ w.cell? ⟨0, 6, none⟩ = some (.string (bs (wordP 7))) :=
  ⟨TextsIs.cell h kd_name 0 _ rfl, TextsIs.cell h kd_name 1 _ rfl, TextsIs.cell h kd_name 2 _ rfl, TextsIs.cell h kd_name 3 _ rfl, TextsIs.cell h kd_name 4 _ rfl, TextsIs.cell h kd_name 5 _ rfl, TextsIs.cell h kd_name 6 _ rfl⟩
theorem phword_all (k : Int) (w : World) (hk : inI k) (hd : Kd w) : Calls Tryd.prog 11 #[.int .i64 k] w fun e w' => e = .returned (.tuple #[.string (bs (wordP k)), .bool (isK k)]) ∧ Below w.heap.size w w' := by
  rw [← wordQ_eq]
  by_cases h0 : k < 1
  · have d0 : decide (k < 1) = true := decide_eq_true h0
    have hi : isK k = false := by unfold isK; rw [decide_eq_false (by omega)]; rfl
    unfold wordQ
    rw [hi]
    clear hi hd
    go_enter Tryd.func11, Tryd.ntmps11
    go_wp2_with fail
    go_ret2
    exact ⟨rfl, Below.refl _ _⟩
  have d0 : decide (k < 1) = false := decide_eq_false h0
  by_cases h1 : k > 7
  · have d1 : decide (k - 1 ≥ 7) = true := decide_eq_true (by omega)
    have d2 : decide (7 ≤ k - 1) = true := d1
    have q : IntKind.i64.wrap (k - 1) = k - 1 := by unfold inI at hk; rw [IntWalk.i64_in _ (by omega)]
    have hi : isK k = false := by unfold isK; rw [decide_eq_false (show ¬ k ≤ 7 by omega)]; simp
    unfold wordQ
    rw [hi]
    clear hi hd
    unfold inI at hk
    go_enter Tryd.func11, Tryd.ntmps11
    go_wp2_with fail
    go_ret2
    exact ⟨rfl, Below.refl _ _⟩
  have hi : isK k = true := by unfold isK; rw [decide_eq_true (show 1 ≤ k by omega), decide_eq_true (show k ≤ 7 by omega)]; rfl
  unfold wordQ
  rw [hi, if_pos rfl]
  obtain ⟨g0, g1, g2, g3, g4, g5, g6⟩ := kd_cells hd
  clear hi hk d0
  rcases (show k = 1 ∨ k = 2 ∨ k = 3 ∨ k = 4 ∨ k = 5 ∨ k = 6 ∨ k = 7 by omega) with rfl | rfl | rfl | rfl | rfl | rfl | rfl
  all_goals
    clear h0 h1 hd
    go_enter Tryd.func11, Tryd.ntmps11
    go_wp2_with fail
    go_ret2
    exact ⟨rfl, Below.refl _ _⟩
/-- The kind of a word; 0 if there is none. -/
def kindP (s : List UInt8) : Int := if s = wordP 1 then 1 else if s = wordP 2 then 2 else if s = wordP 3 then 3 else if s = wordP 4 then 4 else if s = wordP 5 then 5 else if s = wordP 6 then 6 else if s = wordP 7 then 7 else 0
theorem kindP_word {k : Int} (h : lettersE k ≠ []) : kindP (wordP k) = k := by
  rcases kinds7 h with rfl | rfl | rfl | rfl | rfl | rfl | rfl <;> decide
theorem kindP_some {s : List UInt8} (h : kindP s ≠ 0) : lettersE (kindP s) ≠ [] ∧ s = wordP (kindP s) := by
  have hs : ∀ k : Int, s = wordP k → lettersE k ≠ [] → lettersE (kindP s) ≠ [] ∧ s = wordP (kindP s) := fun k e hk => by rw [e, kindP_word hk]; exact ⟨hk, rfl⟩
  by_cases h1 : s = wordP 1; · exact hs 1 h1 (by decide)
  by_cases h2 : s = wordP 2; · exact hs 2 h2 (by decide)
  by_cases h3 : s = wordP 3; · exact hs 3 h3 (by decide)
  by_cases h4 : s = wordP 4; · exact hs 4 h4 (by decide)
  by_cases h5 : s = wordP 5; · exact hs 5 h5 (by decide)
  by_cases h6 : s = wordP 6; · exact hs 6 h6 (by decide)
  by_cases h7 : s = wordP 7; · exact hs 7 h7 (by decide)
  refine absurd ?_ h
  unfold kindP
  rw [if_neg h1, if_neg h2, if_neg h3, if_neg h4, if_neg h5, if_neg h6, if_neg h7]
theorem kindP_none {s : List UInt8} (h : ∀ k : Int, 1 ≤ k → k ≤ 7 → s ≠ wordP k) : kindP s = 0 := by
  unfold kindP
  rw [if_neg (h 1 (by omega) (by omega)), if_neg (h 2 (by omega) (by omega)), if_neg (h 3 (by omega) (by omega)), if_neg (h 4 (by omega) (by omega)), if_neg (h 5 (by omega) (by omega)), if_neg (h 6 (by omega) (by omega)), if_neg (h 7 (by omega) (by omega))]
theorem kind_inI (s : List UInt8) : inI (kindP s) := by
  unfold kindP inI
  repeat' split
  all_goals omega
theorem phkind_any (s : ByteArray) (w : World) (hd : Kd w) : Calls Tryd.prog 28 #[.string s] w fun e w' => e = .returned (.int .i64 (kindP s.data.toList)) ∧ Below w.heap.size w w' := by
  obtain ⟨g0, g1, g2, g3, g4, g5, g6⟩ := kd_cells hd
  have hT : ∀ k : Int, s.data.toList = wordP k → ((bs (wordP k)).toList == s.toList) = true := fun k e => by rw [Lib.toList_data, Lib.toList_data, bs_list, e]; simp
  have hF : ∀ k : Int, s.data.toList ≠ wordP k → ((bs (wordP k)).toList == s.toList) = false := fun k e => by
    rw [Lib.toList_data, Lib.toList_data, bs_list]
    simpa using fun q => e q.symm
  have HT := Lib.hid hT
  have HF := Lib.hid hF
  have HK := Lib.hid (fun (k : Int) (hk : lettersE k ≠ []) (e : s.data.toList = wordP k) => (show kindP s.data.toList = k by rw [e]; exact kindP_word hk))
  have HN := Lib.hid (kindP_none (s := s.data.toList))
  clear hT hF hd
  generalize s.data.toList = S at *
  generalize kindP S = R at *
  go_enter Tryd.func28, Tryd.ntmps28
  go_wp2_with fail
  have ix0 : ∀ w, (Instr.index 63 (.agg #[.string (bs (wordP 1)), .string (bs (wordP 2)), .string (bs (wordP 3)), .string (bs (wordP 4)), .string (bs (wordP 5)), .string (bs (wordP 6)), .string (bs (wordP 7))]) (.int .i64 0)).run Tryd.prog w = .ok (.string (bs (wordP 1))) w := fun _ => by kernel_rfl
  have ix1 : ∀ w, (Instr.index 63 (.agg #[.string (bs (wordP 1)), .string (bs (wordP 2)), .string (bs (wordP 3)), .string (bs (wordP 4)), .string (bs (wordP 5)), .string (bs (wordP 6)), .string (bs (wordP 7))]) (.int .i64 1)).run Tryd.prog w = .ok (.string (bs (wordP 2))) w := fun _ => by kernel_rfl
  have ix2 : ∀ w, (Instr.index 63 (.agg #[.string (bs (wordP 1)), .string (bs (wordP 2)), .string (bs (wordP 3)), .string (bs (wordP 4)), .string (bs (wordP 5)), .string (bs (wordP 6)), .string (bs (wordP 7))]) (.int .i64 2)).run Tryd.prog w = .ok (.string (bs (wordP 3))) w := fun _ => by kernel_rfl
  have ix3 : ∀ w, (Instr.index 63 (.agg #[.string (bs (wordP 1)), .string (bs (wordP 2)), .string (bs (wordP 3)), .string (bs (wordP 4)), .string (bs (wordP 5)), .string (bs (wordP 6)), .string (bs (wordP 7))]) (.int .i64 3)).run Tryd.prog w = .ok (.string (bs (wordP 4))) w := fun _ => by kernel_rfl
  have ix4 : ∀ w, (Instr.index 63 (.agg #[.string (bs (wordP 1)), .string (bs (wordP 2)), .string (bs (wordP 3)), .string (bs (wordP 4)), .string (bs (wordP 5)), .string (bs (wordP 6)), .string (bs (wordP 7))]) (.int .i64 4)).run Tryd.prog w = .ok (.string (bs (wordP 5))) w := fun _ => by kernel_rfl
  have ix5 : ∀ w, (Instr.index 63 (.agg #[.string (bs (wordP 1)), .string (bs (wordP 2)), .string (bs (wordP 3)), .string (bs (wordP 4)), .string (bs (wordP 5)), .string (bs (wordP 6)), .string (bs (wordP 7))]) (.int .i64 5)).run Tryd.prog w = .ok (.string (bs (wordP 6))) w := fun _ => by kernel_rfl
  have ix6 : ∀ w, (Instr.index 63 (.agg #[.string (bs (wordP 1)), .string (bs (wordP 2)), .string (bs (wordP 3)), .string (bs (wordP 4)), .string (bs (wordP 5)), .string (bs (wordP 6)), .string (bs (wordP 7))]) (.int .i64 6)).run Tryd.prog w = .ok (.string (bs (wordP 7))) w := fun _ => by kernel_rfl
  go_loopw [6] (fun i wr => ∃ m : Nat, m ≤ 7 ∧ i = .int .i64 m ∧ (∀ k : Int, 1 ≤ k → k ≤ m → S ≠ wordP k) ∧ wr = w) (fun i _ => 7 - (intOf i).toNat)
  case atStart => exact ⟨0, by omega, rfl, fun k h1 h2 => by omega, rfl⟩
  case round =>
    obtain ⟨m, hm, rfl, hno, rfl⟩ := hrel
    have HNO := Lib.hid hno
    clear hno
    rcases (show m = 0 ∨ m = 1 ∨ m = 2 ∨ m = 3 ∨ m = 4 ∨ m = 5 ∨ m = 6 ∨ m = 7 by omega) with rfl | rfl | rfl | rfl | rfl | rfl | rfl | rfl
    · by_cases he : S = wordP 1
      · have dd := HT.out 1 he
        have HR := Lib.hid (HK.out 1 (by decide) he)
        clear he
        go_wp2_with fail
        go_ret
        exact ⟨by rw [HR.out]; rfl, Below.refl _ _⟩
      · have dd := HF.out 1 he
        have HR := Lib.hid (show ∀ k : Int, 1 ≤ k → k ≤ 1 → S ≠ wordP k from fun k h1 h2 => by
          by_cases hk : k = 1
          · rw [hk]; exact he
          · exact HNO.out k h1 (by omega))
        clear he
        go_wp2_with fail
        go_roundw
        case rel => exact ⟨1, by omega, rfl, HR.out, by trivial⟩
        case measure => simp [intOf]
    · by_cases he : S = wordP 2
      · have dd := HT.out 2 he
        have HR := Lib.hid (HK.out 2 (by decide) he)
        clear he
        go_wp2_with fail
        go_ret
        exact ⟨by rw [HR.out]; rfl, Below.refl _ _⟩
      · have dd := HF.out 2 he
        have HR := Lib.hid (show ∀ k : Int, 1 ≤ k → k ≤ 2 → S ≠ wordP k from fun k h1 h2 => by
          by_cases hk : k = 2
          · rw [hk]; exact he
          · exact HNO.out k h1 (by omega))
        clear he
        go_wp2_with fail
        go_roundw
        case rel => exact ⟨2, by omega, rfl, HR.out, by trivial⟩
        case measure => simp [intOf]
    · by_cases he : S = wordP 3
      · have dd := HT.out 3 he
        have HR := Lib.hid (HK.out 3 (by decide) he)
        clear he
        go_wp2_with fail
        go_ret
        exact ⟨by rw [HR.out]; rfl, Below.refl _ _⟩
      · have dd := HF.out 3 he
        have HR := Lib.hid (show ∀ k : Int, 1 ≤ k → k ≤ 3 → S ≠ wordP k from fun k h1 h2 => by
          by_cases hk : k = 3
          · rw [hk]; exact he
          · exact HNO.out k h1 (by omega))
        clear he
        go_wp2_with fail
        go_roundw
        case rel => exact ⟨3, by omega, rfl, HR.out, by trivial⟩
        case measure => simp [intOf]
    · by_cases he : S = wordP 4
      · have dd := HT.out 4 he
        have HR := Lib.hid (HK.out 4 (by decide) he)
        clear he
        go_wp2_with fail
        go_ret
        exact ⟨by rw [HR.out]; rfl, Below.refl _ _⟩
      · have dd := HF.out 4 he
        have HR := Lib.hid (show ∀ k : Int, 1 ≤ k → k ≤ 4 → S ≠ wordP k from fun k h1 h2 => by
          by_cases hk : k = 4
          · rw [hk]; exact he
          · exact HNO.out k h1 (by omega))
        clear he
        go_wp2_with fail
        go_roundw
        case rel => exact ⟨4, by omega, rfl, HR.out, by trivial⟩
        case measure => simp [intOf]
    · by_cases he : S = wordP 5
      · have dd := HT.out 5 he
        have HR := Lib.hid (HK.out 5 (by decide) he)
        clear he
        go_wp2_with fail
        go_ret
        exact ⟨by rw [HR.out]; rfl, Below.refl _ _⟩
      · have dd := HF.out 5 he
        have HR := Lib.hid (show ∀ k : Int, 1 ≤ k → k ≤ 5 → S ≠ wordP k from fun k h1 h2 => by
          by_cases hk : k = 5
          · rw [hk]; exact he
          · exact HNO.out k h1 (by omega))
        clear he
        go_wp2_with fail
        go_roundw
        case rel => exact ⟨5, by omega, rfl, HR.out, by trivial⟩
        case measure => simp [intOf]
    · by_cases he : S = wordP 6
      · have dd := HT.out 6 he
        have HR := Lib.hid (HK.out 6 (by decide) he)
        clear he
        go_wp2_with fail
        go_ret
        exact ⟨by rw [HR.out]; rfl, Below.refl _ _⟩
      · have dd := HF.out 6 he
        have HR := Lib.hid (show ∀ k : Int, 1 ≤ k → k ≤ 6 → S ≠ wordP k from fun k h1 h2 => by
          by_cases hk : k = 6
          · rw [hk]; exact he
          · exact HNO.out k h1 (by omega))
        clear he
        go_wp2_with fail
        go_roundw
        case rel => exact ⟨6, by omega, rfl, HR.out, by trivial⟩
        case measure => simp [intOf]
    · by_cases he : S = wordP 7
      · have dd := HT.out 7 he
        have HR := Lib.hid (HK.out 7 (by decide) he)
        clear he
        go_wp2_with fail
        go_ret
        exact ⟨by rw [HR.out]; rfl, Below.refl _ _⟩
      · have dd := HF.out 7 he
        have HR := Lib.hid (show ∀ k : Int, 1 ≤ k → k ≤ 7 → S ≠ wordP k from fun k h1 h2 => by
          by_cases hk : k = 7
          · rw [hk]; exact he
          · exact HNO.out k h1 (by omega))
        clear he
        go_wp2_with fail
        go_roundw
        case rel => exact ⟨7, by omega, rfl, HR.out, by trivial⟩
        case measure => simp [intOf]
    · have HR := Lib.hid (HN.out fun k h1 h2 => HNO.out k h1 (by omega))
      go_wp2_with fail
      go_ret
      exact ⟨by rw [HR.out]; rfl, Below.refl _ _⟩
end Go.Proofs.YthpijibcfkcenaaDoor
/- What package phrase's Line comes to. Conditions: the event's numbers fit, the tables hold what they were laid with. -/
namespace Go.Proofs.YthpijibcfkcenaaDoor
open Go.ChangeShapes Go.WideShapes Go.ChangeAt Go.RowKit
set_option linter.unusedVariables false
set_option maxRecDepth 100000
set_option linter.unusedSimpArgs false
set_option maxHeartbeats 4000000

theorem ptrs_at (b : Nat) (js : List Nat) (m : Nat) (h : m < (ptrs b js).length) : (ptrs b js)[m] = pt b (js[m]'(by rw [← ptrs_len b js]; exact h)) := by simp [ptrs]
theorem namesQ_eq {k : Int} (h : lettersE k ≠ []) : namesQ k = namesP k := if_neg h
/-- The first numbers of an event. -/
def firstsE (v : Evt) (m : Nat) : List Int := ((idxE v.k).take m).map fun j => (intsE v).getD j 0
theorem firstsE_len (v : Evt) (m : Nat) (h : m ≤ (idxE v.k).length) : (firstsE v m).length = m := by unfold firstsE; rw [List.length_map, List.length_take]; omega
theorem firstsE_succ (v : Evt) (m : Nat) (h : m < (idxE v.k).length) : ints (firstsE v (m + 1)) = ints (firstsE v m) ++ [.int .i64 ((intsE v).getD (idxE v.k)[m] 0)] := by
  unfold firstsE
  rw [List.take_succ_eq_append_getElem h, List.map_append]
  unfold ints
  rw [List.map_append]
  rfl
theorem firstsE_all (v : Evt) : firstsE v (idxE v.k).length = numsE v (lettersE v.k) := by
  unfold firstsE
  rw [List.take_length, idx_nums]
theorem phline_all (v : Evt) (w : World) (hok : v.ok) (ht : Tb w) (hd : Kd w) : Calls Tryd.prog 7 #[v.val] w fun e w' => e = .returned (.tuple #[.string (bs (lineP v).1), .int .i64 (lineP v).2]) ∧ Below w.heap.size w w' := by
  have CK := Lib.hid (fun w' => evcheck_any v w' hok)
  have hba : Below w.heap.size w (w.alloc (.cells v.cells 25)) := (Below.refl _ _).alloc (Nat.le_refl _) _
  have hbx := blk_new w (.cells v.cells 25)
  obtain ⟨e0, e1, e2, e3, e4, e5, e6, e7⟩ := evt_cells hbx
  have HB0 := Lib.hid hba
  have HX0 := Lib.hid hbx
  clear hba hbx
  by_cases hck : checkE v = 0
  · have hlp : lineP v = (lineL v, 0) := if_pos hck
    rw [hlp]
    rw [hck] at CK
    have hk := (check_ok hck).1
    have CW := Lib.hid (fun w' (hb : Below w.heap.size w w') => phword_all v.k w' hok.1 (kd_below hd hb))
    have CN := Lib.hid (fun w' (hx : w'.cell? ⟨w.heap.size, 0, none⟩ = some (.int .i64 v.k)) => phnumbers_any w.heap.size v.k w' hok.1 hx)
    rw [namesQ_eq hk] at CN
    have hnl : (numsE v (lettersE v.k)).length ≤ 9223372036854775807 := by
      rw [numsE_len, ← names_many hk]
      have := names_few v.k
      omega
    have CL := Lib.hid (fun va vn w' (hb : Below w.heap.size w w') (h1 : Rd w' w'.heap.size va (strs (namesP v.k))) (h2 : Rd w' w'.heap.size vn (ints (numsE v (lettersE v.k)))) => kline_any (bs (wordP v.k)) va vn (namesP v.k) (numsE v (lettersE v.k)) w' (by rw [bs_size]; have := word_small v.k; omega) (by have := names_few v.k; omega) (by have := names_all v.k; omega) hnl (nums_in hck) h1 h2 (tb_below ht hb))
    simp only [bs_list] at CL
    have hll : rowL (wordP v.k) (namesP v.k) (numsE v (lettersE v.k)) = lineL v := rfl
    rw [hll, ← firstsE_all v] at CL
    have hjl : (idxE v.k).length ≤ 5 := by rw [idx_len, ← names_many hk]; exact names_few v.k
    have HJ := Lib.hid (idx_lt v.k)
    have HSU := Lib.hid (firstsE_succ v)
    have HFL := Lib.hid (firstsE_len v)
    have HF0 := Lib.hid (show firstsE v 0 = [] from rfl)
    generalize lineL v = L at *
    generalize namesP v.k = ks at *
    generalize bs (wordP v.k) = wd at *
    generalize idxE v.k = js at *
    clear hlp hck hk hnl hll ht hd hok
    unfold Evt.val at *
    unfold Evt.cells at HB0 e0 e1 e2 e3 e4 e5 e6 e7
    obtain ⟨i0, hi, hz0, hz1, hz2⟩ := info_parts infoI64
    go_enter Tryd.func7, Tryd.ntmps7
    go_wp2_with fail
    refine (CK.out _).mono ?_; rintro e w1 ⟨rfl, hB⟩
    have HX1 := Lib.hid (blk_below hB HX0.out (lt_of_block HX0.out))
    have HB1 := Lib.hid (HB0.out.trans (hB.mono HB0.out.size))
    clear hB HX0 HB0 e0 e1 e2 e3 e4 e5 e6 e7 CK
    have e0 := (evt_cells HX1.out).1
    go_wp2_with fail
    refine (CW.out _ HB1.out).mono ?_; rintro e w2 ⟨rfl, hB⟩
    have HX2 := Lib.hid (blk_below hB HX1.out (lt_of_block HX1.out))
    have HB2 := Lib.hid (HB1.out.trans (hB.mono HB1.out.size))
    clear hB HX1 HB1 e0 CW
    have E0 := Lib.hid (evt_cells HX2.out).1
    go_wp2_with fail
    refine (CN.out _ E0.out).mono ?_; rintro e w3 ⟨un, up, rfl, hn, hp, hB, _⟩
    have HX3 := Lib.hid (blk_below hB HX2.out (lt_of_block HX2.out))
    have HB3 := Lib.hid (HB2.out.trans (hB.mono HB2.out.size))
    have HN3 := Lib.hid hn
    obtain ⟨A1, c1, rfl, _, _⟩ := hn.form
    obtain ⟨A2, c2, rfl, _, _⟩ := hp.form
    rw [ptrs_len]
    have HPA := Lib.hid fun k (hk : k < js.length) => hp.at_ (k := k) (by rw [ptrs_len]; exact hk)
    clear hB HX2 HB2 E0 CN hn hp
    go_wp2_with fail
    go_loopw [9, 29] (fun r i wr => ∃ m : Nat, m ≤ js.length ∧ i = .int .i64 m ∧ wr.ownsRow w3.heap.size 3 1 r m (ints (firstsE v m)) ∧ Below w3.heap.size w3 wr) (fun _ i _ => js.length - (intOf i).toNat)
    case atStart => exact ⟨0, by omega, rfl, by rw [HF0.out]; exact World.ownsRow_nil _ _ _ _, Below.refl _ _⟩
    case round =>
      obtain ⟨m, hm, rfl, hown, hb⟩ := hrel
      have HO := Lib.hid hown
      have HB := Lib.hid hb
      clear hown hb
      by_cases hlt : m < js.length
      · have dk : decide (m < js.length) = true := decide_eq_true hlt
        obtain ⟨b, o, rfl, hbl, hx⟩ := HPA.out m hlt
        have g := (HB.out.cell (p := ⟨b, o + m, none⟩) hbl).trans (hx m (by rw [ptrs_len]; exact hlt))
        rw [ptrs_at] at g
        have hj8 := HJ.out js[m] (List.getElem_mem _)
        have gv := evt_at (blk_below HB.out HX3.out (lt_of_block HX3.out)) js[m] hj8.2
        have HS := Lib.hid (HSU.out m hlt)
        have hsz3 := HB.out.size
        clear hx
        generalize (intsE v).getD js[m] 0 = x at *
        generalize js[m] = j at *
        go_wp2_with (at_builtin; refine wpList_append_own _ rfl _ _ 50 rfl w3.heap.size 3 i0 (.int .i64 0) 1 8 Tryd.underlying50 hi hz0 hz1 hz2 rfl (by decide) _ _ _ rfl (HO.out.alloc _) ⟨wr.heap.size, 0, none⟩ 1 1 [.int .i64 x] rfl rfl (cell_one_new _ _ _) ?c2 ?c3 ?c4 ?c5 ?_)
        case c2 => intro u hu; simp at hu; subst hu; rfl
        case c3 => unfold maxLen; omega
        case c4 => omega
        case c5 => simp; omega
        intro v' w4 hown4 hgrow _
        have HB4 := Lib.hid (grown_below (HB.out.alloc (HB.out.size) _) hgrow (fun g hg => owns_row HO.out hg) (by simp; omega))
        have HO4 := Lib.hid hown4
        clear hown4 hgrow g gv
        go_wp2_with fail
        go_roundw
        case rel => exact ⟨m + 1, by omega, by go_num, by rw [HS.out]; exact HO4.out, HB4.out⟩
        case measure => simp [intOf]; omega
      · obtain rfl : m = js.length := by omega
        have dk : decide (js.length < js.length) = false := decide_eq_false hlt
        have HV := Lib.hid (Rd.own HO.out)
        obtain ⟨A3, c3, rfl, _, _⟩ := HV.out.form
        have HNN := Lib.hid ((HN3.out.below HB.out).more HB.out.size)
        have HBB := Lib.hid (HB3.out.trans (HB.out.mono HB3.out.size))
        rw [ints_len, HFL.out _ (Nat.le_refl _)] at *
        clear HO HB
        go_wp2_with fail
        refine (CL.out _ _ _ HBB.out HNN.out HV.out).mono ?_; rintro e w4 ⟨rfl, hB⟩
        have HB4 := Lib.hid (HBB.out.trans (hB.mono HBB.out.size))
        clear hB
        go_wp2_with fail
        go_ret2
        exact ⟨rfl, HB4.out⟩
  · have hlp : lineP v = ([], checkE v) := if_neg hck
    rw [hlp]
    have dn : (checkE v != 0) = true := by simpa using hck
    generalize checkE v = r at *
    clear hlp hck hd ht hok
    unfold Evt.val at *
    unfold Evt.cells at HB0 e0 e1 e2 e3 e4 e5 e6 e7
    go_enter Tryd.func7, Tryd.ntmps7
    go_wp2_with fail
    refine (CK.out _).mono ?_; rintro e w1 ⟨rfl, hB⟩
    have HB1 := Lib.hid (HB0.out.trans (hB.mono HB0.out.size))
    clear hB HX0 HB0 e0 e1 e2 e3 e4 e5 e6 e7 CK
    go_wp2_with fail
    go_ret2
    exact ⟨rfl, HB1.out⟩
end Go.Proofs.YthpijibcfkcenaaDoor
/- What package phrase's Parse comes to. Conditions: a line of up to 100,000 bytes, the tables hold what they were laid with. -/
namespace Go.Proofs.YthpijibcfkcenaaDoor
open Go.ChangeShapes Go.WideShapes Go.ChangeAt Go.RowKit
set_option linter.unusedVariables false
set_option maxRecDepth 100000
set_option linter.unusedSimpArgs false
set_option maxHeartbeats 4000000

theorem rd_far {w w' : World} {B b : Nat} {v : Value} {xs : List Value} (h : Rd w B v xs) (hB : B ≤ w.heap.size) (hv : ∀ g, v.ownBlock = some g → g ≠ b) (ho : Only b w w') : Rd w' B v xs := by
  obtain ⟨A, c, rfl, h2, hm, h3⟩ := h
  refine ⟨A, c, rfl, h2, hm, fun h0 => ?_⟩
  obtain ⟨g, o, rfl, hb, hc⟩ := h3 h0
  refine ⟨g, o, rfl, hb, fun j x hj => ?_⟩
  rw [← hc j x hj]
  unfold World.cell?
  rw [ho.block g (by omega) (hv g rfl)]
theorem namesQ_few (k : Int) : (namesQ k).length ≤ 5 := by
  unfold namesQ
  split
  · simp
  · exact names_few k
theorem namesQ_each (k : Int) : ∀ a ∈ namesQ k, a.length ≤ 6 := by
  unfold namesQ
  split
  · simp
  · exact names_each k
theorem layE_ok : ∀ (ks : List Nat) (xs : List Int) (v : Evt), v.ok → (∀ x ∈ xs, inI x) → (layE ks xs v).ok
  | [], _, v, hv, _ => hv
  | _ :: _, [], v, hv, _ => hv
  | j :: ks, x :: xs, v, hv, hx => layE_ok ks xs (setE v j x) (setE_ok v j x hv (hx x (by simp))) fun y hy => hx y (by simp [hy])
/-- The numbers of xs laid so far into an event of the kind. -/
def layM (k : Int) (js : List Nat) (xs : List Int) (m : Nat) : Evt := layE (js.take m) (xs.take m) ⟨k, 0, 0, 0, 0, zero3⟩
theorem layM_succ (k : Int) (js : List Nat) (xs : List Int) (m : Nat) (h1 : m < js.length) (h2 : m < xs.length) : layM k js xs (m + 1) = setE (layM k js xs m) js[m] xs[m] := by
  unfold layM
  rw [List.take_succ_eq_append_getElem h1, List.take_succ_eq_append_getElem h2, layE_snoc zeroE _ _ _ _ _ (by rw [List.length_take, List.length_take]; omega)]
theorem parse_how (L : List UInt8) : (rowE L (rowW L) (namesQ (kindP (rowW L))) ≠ 0 → parseP L = (zeroE, 2)) ∧
    (rowE L (rowW L) (namesQ (kindP (rowW L))) = 0 → (rowV L (rowW L) (namesQ (kindP (rowW L)))).length = (idxE (kindP (rowW L))).length ∧
      parseP L = if checkE (madeE (kindP (rowW L)) (rowV L (rowW L) (namesQ (kindP (rowW L))))) = 0 then (madeE (kindP (rowW L)) (rowV L (rowW L) (namesQ (kindP (rowW L)))), 0) else (zeroE, 2)) := by
  by_cases hk : lettersE (kindP (rowW L)) = []
  · have h0 : kindP (rowW L) = 0 := by
      by_cases h : kindP (rowW L) = 0
      · exact h
      · exact absurd hk (kindP_some h).1
    have hp : parseP L = (zeroE, 2) := by
      have hm : parseO L = none := parse_miss fun k h1 h2 => by
        cases hl : wordsL L with
        | nil => exact try_none hl
        | cons x ps =>
          refine try_word hl fun e => ?_
          have hw : rowW L = x := by unfold rowW; rw [hl]; rfl
          rw [hw, e, kindP_word (letters_ne ⟨h1, by omega⟩)] at h0
          omega
      unfold parseP
      rw [hm]
    have hn : namesQ (kindP (rowW L)) = [] := if_pos hk
    have hj : idxE (kindP (rowW L)) = [] := (idx_none _).2 hk
    refine ⟨fun _ => hp, fun hr => ?_⟩
    have hl := rowV_len L (rowW L) (namesQ (kindP (rowW L)))
    rw [hn] at hl ⊢
    rw [hj]
    have hv : rowV L (rowW L) [] = [] := List.eq_nil_of_length_eq_zero (by simpa using hl)
    rw [hv, h0]
    exact ⟨rfl, by rw [hp]; exact (if_neg (by decide)).symm⟩
  · have hw0 : rowW L = wordP (kindP (rowW L)) := (kindP_some (fun e => hk (by rw [e]; decide))).2
    obtain ⟨k, hkd⟩ : ∃ k, kindP (rowW L) = k := ⟨_, rfl⟩
    rw [hkd] at hk hw0 ⊢
    rw [namesQ_eq hk, hw0]
    cases hl : wordsL L with
    | nil =>
      refine absurd hw0 fun e => (word_ok hk).1 ?_
      rw [← e]
      unfold rowW
      rw [hl]
      rfl
    | cons x ps =>
      have hx : rowW L = x := by unfold rowW; rw [hl]; rfl
      have hxk : x = wordP k := hx.symm.trans hw0
      have hp := parse_kind hk hl hxk
      refine ⟨fun hr => ?_, fun hr => ⟨?_, ?_⟩⟩
      · unfold parseP
        rw [hp, try_bad hr]
      · obtain ⟨o, h1, h2⟩ := rowE_some hr
        rw [h2, idx_len, ← names_many hk]
        rw [rowO_parts (by rw [hl, hxk])] at h1
        exact (partsO_len _ _ _ h1).2
      · unfold parseP
        rw [hp, try_good hr]
        by_cases hc : checkE (madeE k (rowV L (wordP k) (namesP k))) = 0
        · rw [if_pos hc, if_pos hc]
        · rw [if_neg hc, if_neg hc]
theorem phparse_all (s : ByteArray) (w : World) (hs : s.size ≤ 100000) (ht : Tb w) (hd : Kd w) : Calls Tryd.prog 9 #[.string s] w fun e w' => e = .returned (.tuple #[(parseP s.data.toList).1.val, .int .i64 (parseP s.data.toList).2]) ∧ Below w.heap.size w w' := by
  have hba : Below w.heap.size w (w.alloc (.cells zeroE.cells 25)) := (Below.refl _ _).alloc (Nat.le_refl _) _
  have HB0 := Lib.hid hba
  have HX0 := Lib.hid (blk_new w (.cells zeroE.cells 25))
  have CW := Lib.hid (fun w' => kword_any s w' hs)
  have CK := Lib.hid (fun x w' (hb : Below w.heap.size w w') => phkind_any x w' (kd_below hd hb))
  have CN := Lib.hid (fun b k w' hk hx => phnumbers_any b k w' hk hx)
  have CP := Lib.hid (fun v w' (hb : Below w.heap.size w w') (h : Rd w' w'.heap.size v (strs (namesQ (kindP (rowW s.data.toList))))) => kparse_far s (bs (rowW s.data.toList)) v _ w' hs (by have := namesQ_few (kindP (rowW s.data.toList)); omega) (fun a ha => by have := namesQ_each (kindP (rowW s.data.toList)) a ha; omega) h (tb_below ht hb))
  have CC := Lib.hid (fun v w' (hv : v.ok) => evcheck_any v w' hv)
  have HKI := Lib.hid (kind_inI (rowW s.data.toList))
  have HOW := Lib.hid (parse_how s.data.toList)
  have HMK := Lib.hid (fun l (h : l.length = (idxE (kindP (rowW s.data.toList))).length) => idx_made (kindP (rowW s.data.toList)) l h)
  have HJ := Lib.hid (idx_lt (kindP (rowW s.data.toList)))
  have hin : ∀ x ∈ rowV s.data.toList (rowW s.data.toList) (namesQ (kindP (rowW s.data.toList))), inI x := rowV_in _ _ _
  have HIN := Lib.hid hin
  have hjl : (idxE (kindP (rowW s.data.toList))).length ≤ 5 := by
    rcases idx_cases (kindP (rowW s.data.toList)) with ⟨_, h, _⟩ | ⟨_, h, _⟩ | ⟨_, h, _⟩ | ⟨_, h, _⟩ | ⟨_, h, _⟩ | ⟨_, h, _⟩ | ⟨_, h, _⟩ | ⟨h, _⟩ <;> rw [h] <;> decide
  unfold RowF at CP
  simp only [bs_list] at CP
  clear ht hd hba hin
  generalize s.data.toList = L at *
  generalize rowV L (rowW L) (namesQ (kindP (rowW L))) = xs at *
  generalize rowE L (rowW L) (namesQ (kindP (rowW L))) = r at *
  generalize hks : namesQ (kindP (rowW L)) = ks at *
  generalize hjs : idxE (kindP (rowW L)) = js at *
  have CKw := Lib.hid (fun w' hb => CK.out (bs (rowW L)) w' hb)
  simp only [bs_list] at CKw
  generalize kindP (rowW L) = k at *
  generalize bs (rowW L) = W at *
  have HMS := Lib.hid (layM_succ k js xs)
  have HM0 := Lib.hid (show layM k js xs 0 = ⟨k, 0, 0, 0, 0, zero3⟩ by unfold layM; rw [List.take_zero]; rfl)
  have HME := Lib.hid (fun (h : xs.length = js.length) => (show layM k js xs js.length = madeE k xs by unfold layM; rw [List.take_length, ← h, List.take_length]; exact HMK.out xs h))
  have HMO := Lib.hid (fun (h : xs.length = js.length) => (show (layM k js xs js.length).ok from layE_ok _ _ _ ⟨HKI.out, inI_zero, inI_zero, inI_zero, inI_zero, inI_zero, inI_zero, inI_zero⟩ (fun x hx => HIN.out x (List.mem_of_mem_take hx))))
  unfold zeroE Evt.cells zero3 at HB0 HX0
  clear CK
  go_enter Tryd.func9, Tryd.ntmps9
  go_wp2_with fail
  refine (CW.out _).mono ?_; rintro e w1 ⟨rfl, hB⟩
  have HX1 := Lib.hid (blk_below hB HX0.out (lt_of_block HX0.out))
  have HB1 := Lib.hid (HB0.out.trans (hB.mono HB0.out.size))
  clear hB HX0 HB0 CW
  go_wp2_with fail
  refine (CKw.out _ HB1.out).mono ?_; rintro e w2 ⟨rfl, hB⟩
  have HX2 := Lib.hid (blk_below hB HX1.out (lt_of_block HX1.out))
  have HB2 := Lib.hid (HB1.out.trans (hB.mono HB1.out.size))
  have hs2 : w.heap.size < w2.heap.size := lt_of_block HX2.out
  clear hB HX1 HB1 CKw
  have hal := (Below.refl w2.heap.size w2).alloc (Nat.le_refl _) (.cells (Evt.cells ⟨k, 0, 0, 0, 0, zero3⟩) 25)
  have HX3 := Lib.hid (blk_below hal HX2.out (lt_of_block HX2.out))
  have HB3 := Lib.hid (HB2.out.trans (hal.mono HB2.out.size))
  have hV3 : (w2.alloc (.cells (Evt.cells ⟨k, 0, 0, 0, 0, zero3⟩) 25)).heap[w2.heap.size]? = some (.cells (Evt.cells ⟨k, 0, 0, 0, 0, zero3⟩) 25 (0, 0)) := blk_new w2 _
  have HV3 := Lib.hid hV3
  have HC3 := Lib.hid (evt_cells hV3).1
  clear hal hV3 HX2 HB2
  unfold Evt.cells zero3 at HX3 HB3 HV3 HC3
  go_wp2_with fail
  generalize w2.alloc (Obj.cells #[.int .i64 k, .int .i64 0, .int .i64 0, .int .i64 0, .int .i64 0, .int .i64 0, .int .i64 0, .int .i64 0] 25) = w3 at *
  refine (CN.out w2.heap.size k w3 HKI.out HC3.out).mono ?_; rintro e w4 ⟨un, up, rfl, hn, hp, hB, hfar⟩
  rw [hks] at hn
  rw [hjs] at hp
  have hs3 : w2.heap.size < w3.heap.size := lt_of_block HV3.out
  have HX4 := Lib.hid (blk_below hB HX3.out (lt_of_block HX3.out))
  have HV4 := Lib.hid (blk_below hB HV3.out (lt_of_block HV3.out))
  have HB4 := Lib.hid (HB3.out.trans (hB.mono HB3.out.size))
  have HN4 := Lib.hid hn
  have HP4 := Lib.hid hp
  have HFA := Lib.hid (show ∀ g, up.ownBlock = some g → g ≠ w2.heap.size from fun g hg => by have := hfar g hg; omega)
  have hs4 : w3.heap.size ≤ w4.heap.size := hB.size
  obtain ⟨A1, c1, rfl, _, _⟩ := hn.form
  obtain ⟨A2, c2, rfl, _, _⟩ := hp.form
  rw [ptrs_len] at *
  clear hB hn hp hfar HX3 HV3 HB3 HC3 CN hks hjs
  go_wp2_with fail
  refine (CP.out _ _ HB4.out HN4.out).mono ?_; rintro e w5 ⟨v, rfl, hx, hB, hfar⟩
  have HX5 := Lib.hid (blk_below hB HX4.out (lt_of_block HX4.out))
  have HV5 := Lib.hid (blk_below hB HV4.out (lt_of_block HV4.out))
  have HB5 := Lib.hid (HB4.out.trans (hB.mono HB4.out.size))
  have HP5 := Lib.hid ((HP4.out.below hB).more hB.size)
  have HXS := Lib.hid hx
  have HFX := Lib.hid (show ∀ g, v.ownBlock = some g → g ≠ w2.heap.size from fun g hg => by have := hfar g hg; omega)
  obtain ⟨A3, c3, rfl, _, _⟩ := hx.form
  rw [ints_len] at *
  clear hB hx hfar HX4 HV4 HB4 HP4 HN4 CP
  obtain ⟨e0, e1, e2, e3, e4, e5, e6, e7⟩ := evt_cells (v := zeroE) HX5.out
  obtain ⟨f0, f1, f2, f3, f4, f5, f6, f7⟩ := evt_free (v := zeroE) HX5.out
  by_cases hr : r = 0
  · subst hr
    obtain ⟨hlen, hout⟩ := HOW.out.2 rfl
    have HOUT := Lib.hid hout
    have HMZ := Lib.hid (HME.out hlen)
    have HMK2 := Lib.hid (HMO.out hlen)
    have HLN := Lib.hid hlen
    rw [hlen]
    clear hlen hout HOW HME HMO e0 e1 e2 e3 e4 e5 e6 e7 f0 f1 f2 f3 f4 f5 f6 f7
    go_wp2_with fail
    go_loopw [33] (fun i wr => ∃ m : Nat, m ≤ js.length ∧ i = .int .i64 m ∧ wr.heap[w2.heap.size]? = some (.cells (layM k js xs m).cells 25 (0, 0)) ∧ Only w2.heap.size w5 wr) (fun i _ => js.length - (intOf i).toNat)
    case atStart => exact ⟨0, by omega, rfl, by rw [HM0.out]; exact HV5.out, Only.refl _ _⟩
    case round =>
      obtain ⟨m, hm, rfl, hv, ho⟩ := hrel
      by_cases hlt : m < js.length
      · have dk : decide (m < js.length) = true := decide_eq_true hlt
        have hp := rd_far HP5.out (Nat.le_refl _) HFA.out ho
        have hx := rd_far HXS.out (Nat.le_refl _) HFX.out ho
        have hlx : m < xs.length := by rw [HLN.out]; exact hlt
        obtain ⟨b, o, rfl, hbl, hpc⟩ := hp.at_ (k := m) (by rw [ptrs_len]; exact hlt)
        obtain ⟨b2, o2, rfl, hbl2, hxc⟩ := hx.at_ (k := m) (by rw [ints_len]; exact hlx)
        have gp := hpc m (by rw [ptrs_len]; exact hlt)
        have gx := hxc m (by rw [ints_len]; exact hlx)
        rw [ptrs_at] at gp
        rw [ints_get] at gx
        have hj8 := HJ.out js[m] (List.getElem_mem _)
        have gv := evt_at hv js[m] hj8.2
        have fz := blk_free hv js[m]
        have HV' := Lib.hid (show (wr.setCell ⟨w2.heap.size, js[m], none⟩ (.int .i64 xs[m])).heap[w2.heap.size]? = some (.cells (layM k js xs (m + 1)).cells 25 (0, 0)) by
          have h := blk_set hv js[m] (.int .i64 xs[m])
          rwa [setE_cells _ _ _ hj8, ← HMS.out m hlt hlx] at h)
        have HO' := Lib.hid (ho.setCell js[m] (.int .i64 xs[m]))
        clear hp hx hpc hxc hv ho
        generalize (intsE (layM k js xs m)).getD js[m] 0 = x' at *
        generalize js[m] = j at *
        generalize xs[m] = x at *
        unfold pt at gp
        go_wp2_with fail
        go_roundw
        case rel => exact ⟨m + 1, by omega, by go_num, HV'.out, HO'.out⟩
        case measure => simp [intOf]; omega
      · obtain rfl : m = js.length := by omega
        have dk : decide (js.length < js.length) = false := decide_eq_false hlt
        rw [HMZ.out] at hv
        have HOK := HMK2.out
        rw [HMZ.out] at HOK
        have CCx := Lib.hid (fun w' => CC.out (madeE k xs) w' HOK)
        have HX6 := Lib.hid (ho.old HX5.out (show w.heap.size ≠ w2.heap.size by omega))
        have HB6 := Lib.hid (HB5.out.trans (ho.below (by omega) HB5.out.size))
        have HV6 := Lib.hid hv
        clear hv ho HOK HMZ HMK2 CC HMS HM0 HV5 HX5 HB5
        generalize madeE k xs = x at *
        obtain ⟨g0, g1, g2, g3, g4, g5, g6, g7⟩ := evt_cells HV6.out
        unfold Evt.val at CCx
        go_wp2_with fail
        refine (CCx.out _).mono ?_; rintro e w6 ⟨rfl, hB⟩
        have HX7 := Lib.hid (blk_below hB HX6.out (lt_of_block HX6.out))
        have HV7 := Lib.hid (blk_below hB HV6.out (lt_of_block HV6.out))
        have HB7 := Lib.hid (HB6.out.trans (hB.mono HB6.out.size))
        clear hB HX6 HV6 HB6 CCx g0 g1 g2 g3 g4 g5 g6 g7
        obtain ⟨g0, g1, g2, g3, g4, g5, g6, g7⟩ := evt_cells HV7.out
        obtain ⟨e0, e1, e2, e3, e4, e5, e6, e7⟩ := evt_cells (v := zeroE) HX7.out
        obtain ⟨f0, f1, f2, f3, f4, f5, f6, f7⟩ := evt_free (v := zeroE) HX7.out
        by_cases hck : checkE x = 0
        · have HE := Lib.hid (show parseP L = (x, 0) by rw [HOUT.out, if_pos hck])
          rw [hck]
          clear hck HOUT
          go_wp2_with fail
          all_goals exact bodyPost_ret (results_cv rfl rfl rfl (evt_set (u := zeroE) (v := x) HX7.out) Tryd.underlying25 rfl (by kernel_rfl)) rfl ⟨by rw [HE.out]; rfl, HB7.out.trans ((evt_only w6 _ x).below (Nat.le_refl _) HB7.out.size)⟩
        · have HE := Lib.hid (show parseP L = (zeroE, 2) by rw [HOUT.out, if_neg hck])
          have dn : (checkE x != 0) = true := by simpa using hck
          generalize checkE x = r at *
          clear hck HOUT
          go_wp2_with fail
          all_goals exact bodyPost_ret (results_cv rfl rfl rfl (evt_set (u := zeroE) (v := zeroE) HX7.out) Tryd.underlying25 rfl (by kernel_rfl)) rfl ⟨by rw [HE.out]; rfl, HB7.out.trans ((evt_only w6 _ zeroE).below (Nat.le_refl _) HB7.out.size)⟩
  · have dn : ((r : Int) != 0) = true := by
      have : ¬ ((r : Nat) : Int) = 0 := by omega
      simpa using this
    have HE := Lib.hid (HOW.out.1 hr)
    have FIN := Lib.hid (show (evtW w5 w.heap.size zeroE).heap[w.heap.size]? = some (.cells zeroE.cells 25 (0, 0)) ∧ Below w.heap.size w (evtW w5 w.heap.size zeroE) from ⟨evt_set (u := zeroE) (v := zeroE) HX5.out, HB5.out.trans ((evt_only w5 _ zeroE).below (Nat.le_refl _) HB5.out.size)⟩)
    go_wp2_with fail
    all_goals exact bodyPost_ret (results_cv rfl rfl rfl FIN.out.1 Tryd.underlying25 rfl (by kernel_rfl)) rfl ⟨by rw [HE.out]; rfl, FIN.out.2⟩
end Go.Proofs.YthpijibcfkcenaaDoor
/- What package phrase's functions come to. Conditions: the events' numbers fit, texts of up to 100,000 bytes; the package's table of words and strconv's table hold what they were laid with. -/
namespace Go.Proofs.YthpijibcfkcenaaDoor
open Go.ChangeShapes Go.WideShapes Go.ChangeAt Go.RowKit
set_option linter.unusedVariables false
set_option maxRecDepth 100000
set_option linter.unusedSimpArgs false
set_option maxHeartbeats 4000000

/-- The tables that lines are read and written by. -/
def phT (w : World) : Prop := Tb w ∧ Kd w
theorem phT_below {w w' : World} (h : phT w) (hb : Below w.heap.size w w') : phT w' := ⟨tb_below h.1 hb, kd_below h.2 hb⟩
theorem phword_any (k : Int) (w : World) (hk : inI k) (ht : phT w) : Calls Tryd.prog 11 #[.int .i64 k] w fun e w' => e = .returned (.tuple #[.string (bs (wordP k)), .bool (isK k)]) ∧ Below w.heap.size w w' := phword_all k w hk ht.2
theorem phline_any (v : Evt) (w : World) (hok : v.ok) (ht : phT w) : Calls Tryd.prog 7 #[v.val] w fun e w' => e = .returned (.tuple #[.string (bs (lineP v).1), .int .i64 (lineP v).2]) ∧ Below w.heap.size w w' := phline_all v w hok ht.1 ht.2
theorem phparse_any (s : ByteArray) (w : World) (hs : s.size ≤ 100000) (ht : phT w) : Calls Tryd.prog 9 #[.string s] w fun e w' => e = .returned (.tuple #[(parseP s.data.toList).1.val, .int .i64 (parseP s.data.toList).2]) ∧ Below w.heap.size w w' := phparse_all s w hs ht.1 ht.2
theorem lines_all : ∀ (l : List Evt), (∀ v ∈ l, checkE v = 0) → allLen (l.map lineL) ≤ 150 * l.length
  | [], _ => Nat.zero_le _
  | v :: l, h => by
    have ih := lines_all l (fun u hu => h u (by simp [hu]))
    have := line_len (h v (by simp))
    unfold allLen at ih ⊢
    simp only [List.map_cons, List.sum_cons, List.length_cons] at ih ⊢
    omega
theorem phtext_any (v : Value) (l : List Evt) (K : Nat → Prop) (w : World) (hn : l.length ≤ 600) (hok : ∀ x ∈ l, x.ok) (h : RdV w K v l) (ht : phT w) :
    Calls Tryd.prog 13 #[v] w fun e w' => e = .returned (.tuple #[.string (bs (textP l).1), .int .i64 (textP l).2]) ∧ Below w.heap.size w w' := by
  obtain ⟨A, c, rfl, _, _⟩ := rdV_form h
  have H := Lib.hid fun k (hk : k < l.length) => rdV_at h hk
  clear h
  obtain ⟨i0, hi, hz0, hz1, hz2⟩ := info_parts infoS
  obtain ⟨it, hit, hy0, hy1, hy2⟩ := info_parts infoEv
  have CL := Lib.hid fun v w' (hv : v.ok) (hb : Below w.heap.size w w') => phline_any v w' hv (phT_below ht hb)
  have CT := Lib.hid fun u w' (hg : ∀ v ∈ l, checkE v = 0) (hr : Rd w' w'.heap.size u (strs (l.map lineL))) => wtext_any u (l.map lineL) w' (by rw [List.length_map]; omega) (by have := lines_all l hg; omega) hr
  clear ht
  go_enter Tryd.func13, Tryd.ntmps13
  go_wp2_with fail
  go_loopw [4, 11] (fun s i wr => ∃ k : Nat, k ≤ l.length ∧ i = .int .i64 k ∧ (∀ v ∈ l.take k, checkE v = 0) ∧ wr.ownsRow w.heap.size 9 1 s k (strs ((l.take k).map lineL)) ∧ Below w.heap.size w wr) (fun _ i _ => l.length - (intOf i).toNat)
  case atStart => exact ⟨0, by omega, rfl, fun v hv => by simp at hv, World.ownsRow_nil _ _ _ _, Below.refl _ _⟩
  case round =>
    obtain ⟨k, hk, rfl, hgd, hown, hb⟩ := hrel
    have HB := Lib.hid hb
    have HGD := Lib.hid hgd
    have HO := Lib.hid hown
    clear hown
    by_cases hlt : k < l.length
    · have dk : decide (k < l.length) = true := decide_eq_true hlt
      obtain ⟨b, o, rfl, hbl, x0⟩ := H.out k hlt
      obtain ⟨c0, c1, c2, c3, c4, c5, c6, c7⟩ := x0.below hb hbl
      have hbl2 : b < wr.heap.size := Nat.lt_of_lt_of_le hbl hb.size
      have CC := Lib.hid (fun w' => CL.out l[k] w' (hok _ (List.getElem_mem hlt)))
      have hba := (Below.refl wr.heap.size wr).alloc (Nat.le_refl _) (.cells l[k].cells 25)
      have HBa := Lib.hid (hb.trans (hba.mono hb.size))
      have HOa := Lib.hid (owns_below HO.out hba)
      have HXa := Lib.hid (blk_new wr (.cells l[k].cells 25))
      have hza : (wr.alloc (.cells l[k].cells 25)).heap.size = wr.heap.size + 1 := by simp
      by_cases hc : checkE l[k] = 0
      · have hl : lineP l[k] = (lineL l[k], 0) := if_pos hc
        have HGD2 := Lib.hid (show ∀ v ∈ l.take (k + 1), checkE v = 0 from fun v hv => by
          rw [List.take_succ_eq_append_getElem hlt] at hv
          rcases List.mem_append.1 hv with hv | hv
          · exact hgd v hv
          · rw [List.mem_singleton.1 hv]; exact hc)
        have HST := Lib.hid (show strs ((l.take (k + 1)).map lineL) = strs ((l.take k).map lineL) ++ [.string (bs (lineL l[k]))] by
          rw [List.take_succ_eq_append_getElem hlt, List.map_append]
          simp [strs])
        rw [hl] at CC
        unfold Evt.val at CC
        unfold Evt.cells at HBa HOa HXa hza
        clear x0 hb hgd hc hl HGD CL hba hok
        generalize bs (lineL l[k]) = L2 at *
        generalize l[k] = x at *
        obtain ⟨y0, y1, y2, y3, y4, y5, y6, y7⟩ := evt_cells (v := x) HXa.out
        go_wp2_with fail
        refine (CC.out _ HBa.out).mono ?_; rintro e w2 ⟨rfl, hB⟩
        have HB2 := Lib.hid (HBa.out.trans (hB.mono HBa.out.size))
        have HO2 := Lib.hid (owns_below HOa.out hB)
        have hs2 : w.heap.size ≤ w2.heap.size := HB2.out.size
        clear hB CC HBa HOa HXa
        go_wp2_with (at_builtin; refine wpList_append_own _ rfl _ _ 45 rfl w.heap.size 9 i0 (.string ⟨#[]⟩) 1 16 Tryd.underlying45 hi hz0 hz1 hz2 rfl (by decide) _ _ _ rfl (HO2.out.alloc _) ⟨w2.heap.size, 0, none⟩ 1 1 [.string L2] rfl rfl (cell_one_new _ _ _) ?c2 ?c3 ?c4 ?c5 ?_)
        case c2 => intro u hu; simp at hu; subst hu; rfl
        case c3 => unfold maxLen; omega
        case c4 => omega
        case c5 => simp; omega
        intro v' w4 hown4 hgrow _
        have HB4 := Lib.hid (grown_below (HB2.out.alloc (HB2.out.size) _) hgrow (fun g hg => owns_row HO2.out hg) (by simp; omega))
        have HO4 := Lib.hid hown4
        clear hown4 hgrow
        go_wp2_with fail
        go_roundw
        case rel => exact ⟨k + 1, by omega, by go_num, HGD2.out, by rw [HST.out, List.map_take]; exact HO4.out, HB4.out⟩
        case measure => simp [intOf]; omega
      · have hl : lineP l[k] = ([], checkE l[k]) := if_neg hc
        have HT := Lib.hid (text_bad hlt hgd hc)
        have dn : (checkE l[k] != 0) = true := by simpa using hc
        rw [hl] at CC
        unfold Evt.val at CC
        unfold Evt.cells at HBa HOa HXa hza
        clear x0 hb hgd hc hl HGD CL hba hok
        generalize checkE l[k] = r at *
        generalize l[k] = x at *
        obtain ⟨y0, y1, y2, y3, y4, y5, y6, y7⟩ := evt_cells (v := x) HXa.out
        go_wp2_with fail
        refine (CC.out _ HBa.out).mono ?_; rintro e w2 ⟨rfl, hB⟩
        have HB2 := Lib.hid (HBa.out.trans (hB.mono HBa.out.size))
        clear hB CC
        go_wp2_with fail
        go_ret2
        exact ⟨by rw [HT.out]; rfl, HB2.out⟩
    · obtain rfl : k = l.length := by omega
      have dk : decide (l.length < l.length) = false := decide_eq_false hlt
      rw [List.take_length] at hgd HO
      have HT := Lib.hid (text_end hgd)
      have HR := Lib.hid (Rd.own HO.out)
      have CTx := Lib.hid (fun u w' hr => CT.out u w' hgd hr)
      obtain ⟨A2, c2, rfl, _, _⟩ := HR.out.form
      rw [strs_len, List.length_map] at *
      generalize textW (l.map lineL) = L0 at *
      clear hb hgd HGD CL CT HO
      go_wp2_with fail
      refine (CTx.out _ _ HR.out).mono ?_; rintro e w2 ⟨rfl, hB⟩
      have HB2 := Lib.hid (HB.out.trans (hB.mono HB.out.size))
      clear hB
      go_wp2_with fail
      go_ret2
      exact ⟨by rw [HT.out]; rfl, HB2.out⟩
theorem wordsA_full (l : List UInt8) : ∀ w, ∀ p ∈ wordsA w l, p ≠ [] := by
  have hl : ∀ w : List UInt8, ∀ p ∈ lastW w, p ≠ [] := fun w p hp => by
    unfold lastW at hp; split at hp
    · cases hp
    · rename_i hw; obtain rfl : p = w := by simpa using hp
      exact hw
  induction l with
  | nil => intro w p hp; exact hl w p hp
  | cons c l ih =>
    intro w p hp
    simp only [wordsA] at hp
    split at hp
    · exact hl w p hp
    · split at hp
      · rcases List.mem_append.1 hp with hp | hp
        · exact hl w p hp
        · exact ih [] p hp
      · exact ih _ p hp
theorem rowW_none (x : List UInt8) : rowW x = [] ↔ wordsL x = [] := by
  unfold rowW
  cases h : wordsL x with
  | nil => simp
  | cons p ps =>
    have := wordsA_full x [] p (by rw [show wordsA [] x = wordsL x from rfl, h]; simp)
    simp [this]
theorem phall_any (s : ByteArray) (w : World) (hs : s.size ≤ 100000) (ht : phT w) : Calls Tryd.prog 15 #[.string s] w (PhAR s.data.toList w) := by
  unfold PhAR
  have CLN := wlines_any s w hs
  have hsl : s.data.toList.length = s.size := rfl
  have hll := linesA_len s.data.toList []
  have hle := linesA_each s.data.toList []
  unfold StrsR linesL at *
  generalize s.data.toList = S at *
  generalize linesA [] S = ls at *
  have HLE := Lib.hid hle
  have HLN := Lib.hid CLN
  have CW := Lib.hid (fun x w' (hx : x.size ≤ 100000) => kword_any x w' hx)
  have CP := Lib.hid (fun x w' (hx : x.size ≤ 100000) (hb : Below w.heap.size w w') => phparse_any x w' hx (phT_below ht hb))
  obtain ⟨it, hit, hz0, hz1, hz2⟩ := info_parts infoS
  obtain ⟨ie, hie, hy0, hy1, hy2⟩ := info_parts infoEv
  clear hle CLN ht
  go_enter Tryd.func15, Tryd.ntmps15
  go_wp2_with fail
  refine HLN.out.mono ?_; rintro e w1 ⟨v, rfl, hr, hB⟩
  obtain ⟨A, c, rfl, hc, _⟩ := hr.form
  have H := Lib.hid fun k (hk : k < ls.length) => hr.at_ (k := k) (by rw [strs_len]; exact hk)
  have HB1 := Lib.hid hB
  rw [strs_len]
  clear hr hc hB HLN
  go_wp2_with fail
  go_loopw [5, 13] (fun r i wr => ∃ (k : Nat) (out : List Evt), k ≤ ls.length ∧ i = .int .i64 k ∧ PhAI ls k out ∧ out.length ≤ k ∧ wr.ownsRow w1.heap.size 25 8 r out.length (rowsV out).flatten ∧ Below w1.heap.size w1 wr) (fun _ i _ => ls.length - (intOf i).toNat)
  case atStart => exact ⟨0, [], by omega, rfl, phAI_zero _, Nat.le_refl _, World.ownsRow_nil _ _ _ _, Below.refl _ _⟩
  case round =>
    obtain ⟨k, out, hk, rfl, hai, hol, hown, hb⟩ := hrel
    have HO := Lib.hid hown
    have HB := Lib.hid hb
    have HAI := Lib.hid hai
    clear hown hai
    by_cases hlt : k < ls.length
    · have dk : decide (k < ls.length) = true := decide_eq_true hlt
      obtain ⟨b, o, rfl, hbl, hx⟩ := H.out k hlt
      have g := (hb.cell (p := ⟨b, o + k, none⟩) hbl).trans (hx k (by rw [strs_len]; exact hlt))
      rw [strs_get] at g
      have hxs : (bs ls[k]).size ≤ 100000 := by
        rw [bs_size]
        have := HLE.out ls[k] (List.getElem_mem _)
        simp at this
        omega
      have HSK := Lib.hid (fun hw => phAI_skip HAI.out hlt hw)
      have HNX := Lib.hid (fun hw (v : Evt) hp => phAI_next (v := v) HAI.out hlt hw hp)
      have HBD := Lib.hid (fun hw hp => phAI_bad HAI.out hlt hw hp)
      have CWx := Lib.hid (fun w' => CW.out (bs ls[k]) w' hxs)
      have CPx := Lib.hid (fun w' hb => CP.out (bs ls[k]) w' hxs hb)
      simp only [bs_list] at CWx CPx
      clear hx hb
      generalize ls[k] = x at *
      generalize bs x = X at *
      by_cases hw : wordsL x = []
      · have deq : (bs (rowW x)).toList.isEmpty = true := by rw [(rowW_none x).2 hw, bs_toList]; rfl
        have HN := Lib.hid (HSK.out hw)
        clear HSK HNX HBD hw CPx
        generalize bs (rowW x) = R at *
        go_wp2_with fail
        refine (CWx.out _).mono ?_; rintro e w2 ⟨rfl, hB⟩
        have HB2 := Lib.hid (HB.out.trans (hB.mono HB.out.size))
        have HO2 := Lib.hid (owns_below HO.out hB)
        clear hB CWx
        go_wp2_with fail
        go_roundw
        case rel => exact ⟨k + 1, out, by omega, by go_num, HN.out, by omega, HO2.out, HB2.out⟩
        case measure => simp [intOf]; omega
      · have deq : (bs (rowW x)).toList.isEmpty = false := by
          have : rowW x ≠ [] := fun e => hw ((rowW_none x).1 e)
          rw [bs_toList]
          cases hq : rowW x with
          | nil => exact absurd hq this
          | cons _ _ => rfl
        have HN1 := Lib.hid (fun (v : Evt) hp => HNX.out hw v hp)
        have HB1' := Lib.hid (fun hp => HBD.out hw hp)
        clear HSK HNX HBD hw
        generalize bs (rowW x) = R at *
        have HPS := Lib.hid (fun h => parseO_some (l := x) h)
        have HPN := Lib.hid (fun h => parseO_none (l := x) h)
        generalize parseP x = pr at *
        obtain ⟨V, r⟩ := pr
        simp only at CPx HPS HPN
        unfold Evt.val at CPx
        go_wp2_with fail
        refine (CWx.out _).mono ?_; rintro e w2 ⟨rfl, hB⟩
        have HB2 := Lib.hid (HB.out.trans (hB.mono HB.out.size))
        have HO2 := Lib.hid (owns_below HO.out hB)
        clear hB CWx
        go_wp2_with fail
        refine (CPx.out _ (HB1.out.trans (HB2.out.mono HB1.out.size))).mono ?_; rintro e w3 ⟨rfl, hB⟩
        have hba := (Below.refl w3.heap.size w3).alloc (Nat.le_refl _) (.cells V.cells 25)
        have HB3 := Lib.hid ((HB2.out.trans (hB.mono HB2.out.size)).trans (hba.mono (HB2.out.trans (hB.mono HB2.out.size)).size))
        have HO3 := Lib.hid (owns_below (owns_below HO2.out hB) hba)
        have HX3 := Lib.hid (blk_new w3 (.cells V.cells 25))
        have hz3 : (w3.alloc (.cells V.cells 25)).heap.size = w3.heap.size + 1 := by simp
        clear hB CPx hba
        by_cases hr : r = 0
        · subst hr
          have HN := Lib.hid (HN1.out _ (HPS.out rfl))
          clear HPS HPN HN1 HB1'
          have HC3 := Lib.hid (evt_cells HX3.out)
          have HLI := Lib.hid (show RdK 8 ((w3.alloc (.cells V.cells 25)).alloc (.cells V.cells 25)) (fun _ => True) (.slice (some ⟨w3.heap.size + 1, 0, none⟩) 1 1) (rowsV [V]) by
            have := rdK_lit1 (w3.alloc (.cells V.cells 25)) V.row V.cells 25 rfl
            rw [World.size_alloc] at this
            exact this.imp fun _ _ _ => trivial)
          unfold Evt.cells at HB3 HO3 HX3 hz3 HC3 HLI
          obtain ⟨y0, y1, y2, y3, y4, y5, y6, y7⟩ := HC3.out
          clear HC3
          go_wp2_with (at_builtin; refine wpList_append_rdK rfl _ _ 35 rfl w1.heap.size 25 zeroEv 8 64 infoEv rfl (by decide) (by decide) Tryd.underlying35 _ _ _ rfl (HO3.out.alloc _) (fun _ => True) _ (rowsV [V]) rfl ?c2 (rowsV_eight _) (rowsV_one _) ?c3 ?c4 ?_)
          case c2 => exact HLI.out
          case c3 => rw [rowsV_len]; simp; omega
          case c4 => have := HB3.out.size; simp at this ⊢; omega
          intro v' w4 hown4 hgrow
          have HB4 := Lib.hid (grown_below (HB3.out.alloc HB3.out.size _) hgrow (fun g hg => owns_row HO3.out hg) (by have := HB3.out.size; simp at this ⊢; omega))
          have hown4' : w4.ownsRow w1.heap.size 25 8 v' (out ++ [V]).length (rowsV (out ++ [V])).flatten := by
            rw [List.length_append, rowsV_append]
            exact hown4
          have HO4 := Lib.hid hown4'
          clear hown4 hown4' hgrow
          go_wp2_with fail
          go_roundw
          case rel => exact ⟨k + 1, out ++ [V], by omega, by go_num, HN.out, by simp; omega, HO4.out, HB4.out⟩
          case measure => simp [intOf]; omega
        · have dn : (r != 0) = true := by simpa using hr
          obtain ⟨hp, h2⟩ := HPN.out hr
          subst h2
          have HE := Lib.hid (HB1'.out hp)
          unfold Evt.cells at HB3
          clear HPS HPN HN1 HB1' hp
          go_wp2_with fail
          go_ret3
          exact ⟨_, by rw [HE.out]; rfl, by rw [HE.out]; exact RdK.nil _ _ _, HB1.out.trans (HB3.out.mono HB1.out.size)⟩
    · obtain rfl : k = ls.length := by omega
      have dk : decide (ls.length < ls.length) = false := decide_eq_false hlt
      have HE := Lib.hid (phAI_end HAI.out (Nat.le_refl _))
      have HR := Lib.hid (rdV_own HO.out rfl)
      obtain ⟨A2, c2, rfl, _, _⟩ := rdV_form HR.out
      clear hb
      go_wp2_with fail
      go_ret3
      exact ⟨_, by rw [HE.out]; rfl, by rw [HE.out]; exact HR.out.imp fun b h1 _ => Nat.le_trans HB1.out.size h1, HB1.out.trans (HB.out.mono HB1.out.size)⟩
end Go.Proofs.YthpijibcfkcenaaDoor
