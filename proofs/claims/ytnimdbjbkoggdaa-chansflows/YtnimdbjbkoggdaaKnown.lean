/- The law's helper known answers true, and leaves what was there as it was. -/
import Derived.Test.YtnimdbjbkoggdaaWrE
namespace Go.Proofs.Ytnimdbjbkoggdaa
open Go Go.RowKit

/-- A slice that the call lays for its literal elements. -/
theorem bsl_lit (w : World) (xs : List UInt8) (hl : xs.length ≤ 1000) : BSl (w.alloc (.cells (bcells xs).toArray 5)) (.slice (some ⟨w.heap.size, 0, none⟩) xs.length xs.length) xs := by
  refine ⟨_, _, rfl, Nat.le_refl _, by unfold maxLen; omega, (fun e => by cases e), fun ad e _ => ⟨w.heap.size, 0, by cases e; rfl, fun j u hu => ?_⟩⟩
  rw [Nat.zero_add, cell_of_row _ _ _ _ _ _ (heap_alloc_new w _)]
  simpa using hu
theorem ssl_lit (w : World) (ss : List ByteArray) (hl : ss.length ≤ 1000) : SSl (w.alloc (.cells (ss.map Value.string).toArray 9)) (.slice (some ⟨w.heap.size, 0, none⟩) ss.length ss.length) ss := by
  refine ⟨_, _, rfl, Nat.le_refl _, by unfold maxLen; omega, (fun e => by cases e), fun ad e _ => ⟨w.heap.size, 0, by cases e; rfl, fun j u hu => ?_⟩⟩
  rw [Nat.zero_add, cell_of_row _ _ _ _ _ _ (heap_alloc_new w _)]
  simp [hu]

theorem WS.alloc {w : World} {base a : Nat} {g : Option Nat} {bs : List UInt8} (h : WS w base a g bs) (o : Obj) : WS (w.alloc o) base a g bs := h.keep (S := fun _ => False) ((Keeps.refl _ _).alloc o) (fun h => h) (fun _ _ h => h)

theorem wrote_alloc {a : Nat} {g g' : Option Nat} {w w' : World} {o : Obj} (h : Wrote a g g' (w.alloc o) w') : Wrote a g g' w w' :=
  ⟨(((Keeps.refl _ w).alloc o).trans h.keeps), h.row.elim .inl fun ⟨k, e, hk⟩ => .inr ⟨k, e, by simp at hk; omega⟩⟩

/-- What a Writer writes, the rest below base stays. -/
theorem Wrote.below {a base : Nat} {g g' : Option Nat} {w w' : World} {bs : List UInt8} (h : Wrote a g g' w w') (hs : WS w base a g bs) : Below base w w' :=
  h.keeps.below (Nat.le_trans hs.base (Nat.le_of_lt hs.lt)) fun k hk => hk.elim (fun e => e ▸ hs.base) fun e => (hs.rowLt k e).1

theorem known_bytes : mpBytes [128] ++ (mpBytes [0, 0] ++ textBytes (joined [⟨#[122, 108, 105, 98]⟩, ⟨#[110, 111, 110, 101]⟩])) = [0, 0, 0, 2, 0, 128, 0, 0, 0, 0, 0, 0, 0, 9, 122, 108, 105, 98, 44, 110, 111, 110, 101] := by decide +kernel


end Go.Proofs.Ytnimdbjbkoggdaa
