/- What Get answers: attr's. -/
import Derived.Test.YtnigfnikajejaabAtD
import Derived.Test.YtnigfnikajejaabAtF
namespace Go.Proofs.Ytnigfnikajejaab
open Go Go.RowKit


theorem BSl.empty {w w' : World} {v : Value} (h : BSl w v []) : BSl w' v [] := by
  obtain ⟨ao, cap, e, h1, h2, h3, _⟩ := h
  exact ⟨ao, cap, e, h1, h2, h3, fun _ _ h => absurd rfl h⟩
theorem BSl.keepE {S : Nat → Prop} {w w' : World} {v : Value} {bs : List UInt8} (h : BSl w v bs) (hk : Keeps S w w') (hg : bs ≠ [] → ∀ k, v.ownBlock = some k → ¬ S k) : BSl w' v bs := by
  cases bs with
  | nil => exact h.empty
  | cons x xs => exact h.keep hk (hg (by simp))
theorem BSl.apartB {w : World} {v : Value} {bs : List UInt8} {B : Nat} (h : BSl w v bs) (hB : w.heap.size ≤ B) : bs ≠ [] → ∀ k, v.ownBlock = some k → k ≠ B := by
  cases bs with
  | nil => exact fun h => absurd rfl h
  | cons x xs => intro _ k e hk; have := h.blockLt k e; omega


/-- A box of nothing. -/
def zc : Array Value := #[.int .u32 0, .int .u64 0, .int .u32 0, .int .u32 0, .int .u32 0, .int .u32 0, .int .u32 0]
theorem zero_cells : zeroA.cells = zc := rfl
theorem tk_val {bs : List UInt8} {p : Nat} {y : Int} {n : Nat} (h : 15 < val (tk bs p y n).1) : (tk bs p y n).2.2 = 0 := by
  refine (tk_ok1 (fun e => ?_)).2
  rw [e] at h
  exact absurd h (by decide)
theorem keeps_out {w w' : World} {a : Nat} (h : Keeps (fun k => k = a ∨ w.heap.size ≤ k) w w') : Keeps (fun k => k = a) w w' :=
  ⟨h.os, h.tape, h.output, h.size, fun i hi hn => h.block i hi (by rintro (e | e); exact hn e; omega)⟩
theorem keeps_set (w : World) (B i : Nat) (u : Value) : Keeps (fun j => j = B) w (w.setCell ⟨B, i, none⟩ u) := Keeps.setCell (S := fun j => j = B) (Keeps.refl _ w) (p := ⟨B, i, none⟩) (Or.inl rfl) u
theorem keeps_row (w : World) (B : Nat) (cs : Array Value) : Keeps (fun j => j = B) w (w.setRow B cs) :=
  ⟨rfl, rfl, rfl, by simp, fun k _ hn => setRow_other w B k cs hn⟩
theorem f_lt (bs : List UInt8) (p : Nat) (y : Int) : val (tk bs p y 4).1 ≤ 4294967295 := by have := val_lt _ 4 (tk_len bs p y 4); omega
/-- A whole box, field by field. -/
def sets7 (w : World) (R : Nat) (u0 u1 u2 u3 u4 u5 u6 : Value) : World := ((((((w.setCell ⟨R, 0, none⟩ u0).setCell ⟨R, 1, none⟩ u1).setCell ⟨R, 2, none⟩ u2).setCell ⟨R, 3, none⟩ u3).setCell ⟨R, 4, none⟩ u4).setCell ⟨R, 5, none⟩ u5).setCell ⟨R, 6, none⟩ u6
theorem sets7_heap {w : World} {R : Nat} {t : TypeId} {v0 v1 v2 v3 v4 v5 v6 : Value} (h : w.heap[R]? = some (.cells #[v0, v1, v2, v3, v4, v5, v6] t (0, 0))) (u0 u1 u2 u3 u4 u5 u6 : Value) :
    (sets7 w R u0 u1 u2 u3 u4 u5 u6).heap[R]? = some (.cells #[u0, u1, u2, u3, u4, u5, u6] t (0, 0)) := by
  have h1 : (w.setCell ⟨R, 0, none⟩ u0).heap[R]? = some (.cells #[u0, v1, v2, v3, v4, v5, v6] t (0, 0)) := by rw [heap_setCell_same _ _ _ _ _ _ h]; rfl
  have h2 : ((w.setCell ⟨R, 0, none⟩ u0).setCell ⟨R, 1, none⟩ u1).heap[R]? = some (.cells #[u0, u1, v2, v3, v4, v5, v6] t (0, 0)) := by rw [heap_setCell_same _ _ _ _ _ _ h1]; rfl
  have h3 : (((w.setCell ⟨R, 0, none⟩ u0).setCell ⟨R, 1, none⟩ u1).setCell ⟨R, 2, none⟩ u2).heap[R]? = some (.cells #[u0, u1, u2, v3, v4, v5, v6] t (0, 0)) := by rw [heap_setCell_same _ _ _ _ _ _ h2]; rfl
  have h4 : ((((w.setCell ⟨R, 0, none⟩ u0).setCell ⟨R, 1, none⟩ u1).setCell ⟨R, 2, none⟩ u2).setCell ⟨R, 3, none⟩ u3).heap[R]? = some (.cells #[u0, u1, u2, u3, v4, v5, v6] t (0, 0)) := by rw [heap_setCell_same _ _ _ _ _ _ h3]; rfl
  have h5 : (((((w.setCell ⟨R, 0, none⟩ u0).setCell ⟨R, 1, none⟩ u1).setCell ⟨R, 2, none⟩ u2).setCell ⟨R, 3, none⟩ u3).setCell ⟨R, 4, none⟩ u4).heap[R]? = some (.cells #[u0, u1, u2, u3, u4, v5, v6] t (0, 0)) := by rw [heap_setCell_same _ _ _ _ _ _ h4]; rfl
  have h6 : ((((((w.setCell ⟨R, 0, none⟩ u0).setCell ⟨R, 1, none⟩ u1).setCell ⟨R, 2, none⟩ u2).setCell ⟨R, 3, none⟩ u3).setCell ⟨R, 4, none⟩ u4).setCell ⟨R, 5, none⟩ u5).heap[R]? = some (.cells #[u0, u1, u2, u3, u4, u5, v6] t (0, 0)) := by rw [heap_setCell_same _ _ _ _ _ _ h5]; rfl
  show (((((((w.setCell ⟨R, 0, none⟩ u0).setCell ⟨R, 1, none⟩ u1).setCell ⟨R, 2, none⟩ u2).setCell ⟨R, 3, none⟩ u3).setCell ⟨R, 4, none⟩ u4).setCell ⟨R, 5, none⟩ u5).setCell ⟨R, 6, none⟩ u6).heap[R]? = some (.cells #[u0, u1, u2, u3, u4, u5, u6] t (0, 0))
  rw [heap_setCell_same _ _ _ _ _ _ h6]; rfl
theorem sets7_keeps (w : World) (R : Nat) (u0 u1 u2 u3 u4 u5 u6 : Value) : Keeps (fun k => k = R) w (sets7 w R u0 u1 u2 u3 u4 u5 u6) :=
  ((((((keeps_set w R 0 u0).trans (keeps_set _ R 1 u1)).trans (keeps_set _ R 2 u2)).trans (keeps_set _ R 3 u3)).trans (keeps_set _ R 4 u4)).trans (keeps_set _ R 5 u5)).trans (keeps_set _ R 6 u6)

end Go.Proofs.Ytnigfnikajejaab
