/- Byte slices behind calls. -/
import Derived.Test.YtnigfnikajejaabRfB
namespace Go.Proofs.Ytnigfnikajejaab
open Go Go.RowKit

theorem BSl.fresh {w w' : World} {v : Value} {xs : List UInt8} (h : BSl w v xs) (hb : Below w.heap.size w w') : BSl w' v xs :=
  h.keep (S := fun _ => False) (Keeps.ofFresh hb) fun _ _ h => h
theorem size_list (l : List UInt8) : (⟨l.toArray⟩ : ByteArray).size = l.length := by simp [ByteArray.size]
theorem ba_append (a b : List UInt8) : ((⟨a.toArray⟩ : ByteArray) ++ ⟨b.toArray⟩) = ⟨(a ++ b).toArray⟩ := by
  apply ByteArray.ext
  simp
theorem ba_nil (s : ByteArray) : ((⟨#[]⟩ : ByteArray) ++ s) = s := by
  apply ByteArray.ext
  simp
theorem ba_self (s : ByteArray) : s = ⟨s.data.toList.toArray⟩ := by
  apply ByteArray.ext
  simp
/-- A slice that the call lays for its literal elements. -/
theorem bsl_lit (w : World) (xs : List UInt8) (hl : xs.length ≤ 1000) : BSl (w.alloc (.cells (bcells xs).toArray 5)) (.slice (some ⟨w.heap.size, 0, none⟩) xs.length xs.length) xs := by
  refine ⟨_, _, rfl, Nat.le_refl _, by unfold maxLen; omega, (fun e => by cases e), fun ad e _ => ⟨w.heap.size, 0, by cases e; rfl, fun j u hu => ?_⟩⟩
  rw [Nat.zero_add, cell_of_row _ _ _ _ _ _ (heap_alloc_new w _)]
  simpa using hu
theorem WS.alloc {w : World} {base a : Nat} {g : Option Nat} {bs : List UInt8} (h : WS w base a g bs) (o : Obj) : WS (w.alloc o) base a g bs := h.keep (S := fun _ => False) ((Keeps.refl _ _).alloc o) (fun h => h) (fun _ _ h => h)
theorem wrote_alloc {a : Nat} {g g' : Option Nat} {w w' : World} {o : Obj} (h : Wrote a g g' (w.alloc o) w') : Wrote a g g' w w' :=
  ⟨(((Keeps.refl _ w).alloc o).trans h.keeps), h.row.elim .inl fun ⟨k, e, hk⟩ => .inr ⟨k, e, by simp at hk; omega⟩⟩
/-- What a Writer writes, the rest below base stays. -/
theorem Wrote.below {a base : Nat} {g g' : Option Nat} {w w' : World} {bs : List UInt8} (h : Wrote a g g' w w') (hs : WS w base a g bs) : Below base w w' :=
  h.keeps.below (Nat.le_trans hs.base (Nat.le_of_lt hs.lt)) fun k hk => hk.elim (fun e => e ▸ hs.base) fun e => (hs.rowLt k e).1

end Go.Proofs.Ytnigfnikajejaab
