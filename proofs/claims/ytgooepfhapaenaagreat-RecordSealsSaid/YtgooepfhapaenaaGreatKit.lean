/- Small laws over any program that the walks of several packages want. Conditions: as stated. -/
import Derived.WalkKit
import Derived.ProofKit
import Derived.Outline
import Derived.Handy
import Derived.Lib.Hide
import Derived.IntWalk
import Derived.Lib.Strings
import Derived.BigRegion
import Derived.BigQuiet
import Derived.Deep.QuietTactic
import Derived.Deep.RegionWith
import Derived.Deep.RegionHeld3
import Derived.StillTailTactics
namespace Go.Proofs.YtgooepfhapaenaaGreat
open Go.ChangeShapes Go.WideShapes Go.ChangeAt Go.RowKit
set_option linter.unusedVariables false
set_option maxRecDepth 100000

theorem addr_add_zero (a : Addr) : a.add 0 = a := by unfold Addr.add; split <;> simp_all
/-- 'x[:h]' where x is an array's variable. -/
theorem run_sliceAt_arr_h {P : Program} (w : World) (t e : TypeId) (n s : Nat) (ht : P.underlying t = some (.array n e)) (hs : ∀ w, (sizeOf e).run P w = .ok s w)
    (a : Addr) (k : IntKind) (h : Int) (h0 : 0 ≤ h) (h1 : h ≤ n) :
    (Instr.sliceAt t (.pointer (some a)) none (some (.int k h)) none).run P w = .ok (.slice (some a) h.toNat n) w := by
  simp [Instr.sliceAt, run_underlying ht, Instr.sliceBounds, run_sliceBound, Instr.sureAddr, hs, h0, h1, addr_add_zero]
/-- What lay there before a call reads as it did behind it. -/
theorem bcell {W w1 : World} {B : Nat} (hb : Below B W w1) : (∀ b o, b < B → w1.cell? ⟨b, o, none⟩ = W.cell? ⟨b, o, none⟩) ∧ (∀ b o, b < B → w1.frozen? ⟨b, o, none⟩ = W.frozen? ⟨b, o, none⟩) :=
  ⟨fun b o h => hb.cell (p := ⟨b, o, none⟩) h, fun b o h => hb.frozen (p := ⟨b, o, none⟩) h⟩
/-- Of all that lay there just one block may have turned. -/
structure Only (b : Nat) (w w' : World) : Prop where
  os : w'.os = w.os
  tape : w'.tape = w.tape
  output : w'.output = w.output
  size : w.heap.size ≤ w'.heap.size
  block : ∀ k, k < w.heap.size → k ≠ b → w'.heap[k]? = w.heap[k]?
theorem Only.refl (b : Nat) (w : World) : Only b w w := ⟨rfl, rfl, rfl, Nat.le_refl _, fun _ _ _ => rfl⟩
theorem Only.trans {b : Nat} {x y z : World} (h : Only b x y) (k : Only b y z) : Only b x z :=
  ⟨k.os.trans h.os, k.tape.trans h.tape, k.output.trans h.output, Nat.le_trans h.size k.size, fun i hi hb => (k.block i (Nat.lt_of_lt_of_le hi h.size) hb).trans (h.block i hi hb)⟩
theorem Only.of (b : Nat) {w w' : World} (h : Below w.heap.size w w') : Only b w w' := ⟨h.os, h.tape, h.output, h.size, fun k hk _ => h.block k hk⟩
theorem Only.drew {b : Nat} {a w : World} (h : Only b a w) : Only b a w.drew := ⟨h.os, h.tape, h.output, h.size, h.block⟩
theorem Only.alloc {b : Nat} {a w : World} (h : Only b a w) (o : Obj) : Only b a (w.alloc o) := h.trans (Only.of b ((Below.refl _ _).alloc (Nat.le_refl _) o))
theorem Only.setCell {b : Nat} {a w : World} (h : Only b a w) (i : Nat) (v : Value) : Only b a (w.setCell ⟨b, i, none⟩ v) :=
  h.trans ⟨rfl, rfl, rfl, by simp [World.setCell], fun k _ hk => Below.heap_setCell _ _ _ _ hk⟩
theorem Only.below {b B : Nat} {w w' : World} (h : Only b w w') (hb : B ≤ b) (hB : B ≤ w.heap.size) : Below B w w' := ⟨h.os, h.tape, h.output, h.size, fun k hk => h.block k (by omega) (by omega)⟩
/-- A block that the one is not. -/
theorem Only.old {b c : Nat} {w w' : World} {o : Obj} (h : Only b w w') (hc : w.heap[c]? = some o) (hne : c ≠ b) : w'.heap[c]? = some o := (h.block c (lt_of_block hc) hne).trans hc
theorem str_ret {a b : ByteArray} (h : a = b) : Ending.returned (.string a) = .returned (.string b) := by rw [h]
/-- A text of given bytes. -/
def bs (l : List UInt8) : ByteArray := ⟨l.toArray⟩
theorem bs_list (l : List UInt8) : (bs l).data.toList = l := by simp [bs]
theorem bs_size (l : List UInt8) : (bs l).size = l.length := by simp [bs, ByteArray.size]
theorem bs_of (s : ByteArray) : bs s.data.toList = s := by cases s; simp [bs]
theorem data_len (s : ByteArray) : s.data.toList.length = s.size := by rw [Array.length_toList]; rfl
theorem bs_toList (l : List UInt8) : (bs l).toList = l := by rw [Lib.toList_data, bs_list]
theorem extract_list (s : ByteArray) (a b : Nat) : (s.extract a b).data.toList = (s.data.toList.take b).drop a := by
  rw [ByteArray.data_extract, Array.toList_extract]; simp [List.extract_eq_take_drop, List.drop_take]
theorem bs_append (a b : List UInt8) : bs a ++ bs b = bs (a ++ b) := by
  apply ByteArray.ext; simp [bs, ByteArray.data_append]
/-- A new block, and what lay there ahead of it. -/
theorem blk_new (w : World) (o : Obj) : (w.alloc o).heap[w.heap.size]? = some o := heap_alloc_new w o
theorem blk_old {w : World} {b : Nat} {o' : Obj} (o : Obj) (h : w.heap[b]? = some o') : (w.alloc o).heap[b]? = some o' := (Below.heap_alloc w o b (lt_of_block h)).trans h
theorem blk_below {w w1 : World} {B b : Nat} {o : Obj} (hb : Below B w w1) (h : w.heap[b]? = some o) (hB : b < B) : w1.heap[b]? = some o := (hb.block b hB).trans h
theorem blk_far {w : World} {b : Nat} {o : Obj} {p : Addr} (v : Value) (h : w.heap[b]? = some o) (hp : b ≠ p.block) : (w.setCell p v).heap[b]? = some o := (Below.heap_setCell w p v b hp).trans h
theorem blk_set {w : World} {b : Nat} {cs : Array Value} {t : TypeId} (h : w.heap[b]? = some (.cells cs t (0, 0))) (i : Nat) (v : Value) : (w.setCell ⟨b, i, none⟩ v).heap[b]? = some (.cells (cs.setIfInBounds i v) t (0, 0)) := by
  simp [World.setCell, Array.getElem?_modify, h]
theorem blk_free {w : World} {b : Nat} {cs : Array Value} {t : TypeId} (h : w.heap[b]? = some (.cells cs t (0, 0))) (i : Nat) : w.frozen? ⟨b, i, none⟩ = false := by
  simp [World.frozen?, h]
theorem blk_cell {w : World} {b : Nat} {cs : Array Value} {t : TypeId} (h : w.heap[b]? = some (.cells cs t (0, 0))) (i : Nat) : w.cell? ⟨b, i, none⟩ = cs[i]? := cell_of_row w b i cs t (0, 0) h
/-- 'string([]byte{x})'. -/
theorem conv_cell {P : Program} (w : World) (b : Nat) (src dst e : TypeId) (v : Int) (c : UInt8) (hv : UInt8.ofNat v.toNat = c) (hs : P.underlying src = some (.slice e)) (he : P.underlying e = some (.int .u8)) (hd : P.underlying dst = some .string)
    (hc : w.cell? ⟨b, 0, none⟩ = some (.int .u8 v)) :
    (convert src dst (.slice (some ⟨b, 0, none⟩) 1 1)).run P w = .ok (.string (bs [c])) w := by
  subst hv
  exact run_convert_bytes_arg (P := P) _ src e hs he b 0 1 1 [v] rfl (fun i hi => by
    have h0 : i = 0 := by omega
    subst h0
    exact hc) dst hd
theorem conv_new {P : Program} (w : World) (src dst e : TypeId) (v : Int) (c : UInt8) (hv : UInt8.ofNat v.toNat = c) (hs : P.underlying src = some (.slice e)) (he : P.underlying e = some (.int .u8)) (hd : P.underlying dst = some .string) :
    (convert src dst (.slice (some ⟨w.heap.size, 0, none⟩) 1 1)).run P (w.alloc (.cells #[.int .u8 v] e)) = .ok (.string (bs [c])) (w.alloc (.cells #[.int .u8 v] e)) :=
  conv_cell _ _ src dst e v c hv hs he hd (by rw [World.cell?_alloc_at _ _ _ _ rfl]; rfl)
theorem conv_new_drew {P : Program} (w : World) (src dst e : TypeId) (v : Int) (c : UInt8) (hv : UInt8.ofNat v.toNat = c) (hs : P.underlying src = some (.slice e)) (he : P.underlying e = some (.int .u8)) (hd : P.underlying dst = some .string) :
    (convert src dst (.slice (some ⟨w.heap.size, 0, none⟩) 1 1)).run P (w.alloc (.cells #[.int .u8 v] e)).drew = .ok (.string (bs [c])) (w.alloc (.cells #[.int .u8 v] e)).drew :=
  conv_cell _ _ src dst e v c hv hs he hd (by show (w.alloc _).cell? _ = _; rw [World.cell?_alloc_at _ _ _ _ rfl]; rfl)
theorem conv_new_below {P : Program} (w w1 : World) (src dst e : TypeId) (v : Int) (c : UInt8) (hv : UInt8.ofNat v.toNat = c) (hs : P.underlying src = some (.slice e)) (he : P.underlying e = some (.int .u8)) (hd : P.underlying dst = some .string)
    (hb : Below (w.alloc (.cells #[.int .u8 v] e)).drew.heap.size (w.alloc (.cells #[.int .u8 v] e)).drew w1) :
    (convert src dst (.slice (some ⟨w.heap.size, 0, none⟩) 1 1)).run P w1 = .ok (.string (bs [c])) w1 :=
  conv_cell _ _ src dst e v c hv hs he hd (by rw [hb.cell (by simp)]; show (w.alloc _).cell? _ = _; rw [World.cell?_alloc_at _ _ _ _ rfl]; rfl)
theorem ix_at {P : Program} (w : World) (t : TypeId) (s : ByteArray) (i : Nat) (h : i < s.size) (ht : P.underlying t = some .string) :
    (Instr.index t (.string s) (.int .i64 (i : Int))).run P w = .ok (.int .u8 (s[i]'h).toNat) w := by
  rw [run_index_string _ _ _ _ _ ht]
  simp [h]
end Go.Proofs.YtgooepfhapaenaaGreat
