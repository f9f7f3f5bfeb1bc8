/- Two Sides in their places. -/
import Derived.Test.YtookapglookphaaDoorKxM
import Derived.Test.YtookapglookphaaDoorKxV
namespace Go.Proofs.YtookapglookphaaDoor
open Go Go.RowKit

theorem BSl.setCellA {w : World} {R : Nat} {v : Value} {cs : Array Value} {t : TypeId} {xs : List UInt8} (h : BSl w v xs) (hr : w.heap[R]? = some (.cells cs t (0, 0))) (h0 : ∀ (i : Nat) (n : Int), cs[i]? ≠ some (.int .u8 n)) (i : Nat) (u : Value) : BSl (w.setCell ⟨R, i, none⟩ u) v xs := by
  by_cases hne : xs = []
  · subst hne
    exact h.nothing
  · refine h.keep ((Keeps.refl (fun k => k = R) w).setCell (p := ⟨R, i, none⟩) (.inl rfl) u) (fun k e e2 => ?_)
    obtain ⟨x, r, rfl⟩ := List.exists_cons_of_ne_nil hne
    obtain ⟨b, off, cap, rfl, _, _, hb⟩ := h.cons
    have hc := h.head
    rw [hb] at e
    cases e
    subst e2
    unfold World.cell? at hc
    simp only [hr] at hc
    exact h0 off _ (by simpa using hc)
theorem side_no (a0 a1 a4 a5 : Option Addr) (n0 n1 n4 n5 c0 c1 c4 c5 : Nat) (s0 s1 : ByteArray) (i : Nat) (m : Int) : (#[.slice a0 n0 c0, .slice a1 n1 c1, .string s0, .string s1, .slice a4 n4 c4, .slice a5 n5 c5] : Array Value)[i]? ≠ some (.int .u8 m) := by
  match i with
  | 0 => simp
  | 1 => simp
  | 2 => simp
  | 3 => simp
  | 4 => simp
  | 5 => simp
  | k + 6 => simp
/-- A Side in its place: its cells, and what they read as. -/
structure SB (wx : World) (B : Nat) (a0 a1 a4 a5 : Option Addr) (n0 n1 n4 n5 c0 c1 c4 c5 : Nat) (s0 s1 : ByteArray) (k p i1 i2 : List UInt8) : Prop where
  row : wx.heap[B]? = some (.cells #[.slice a0 n0 c0, .slice a1 n1 c1, .string s0, .string s1, .slice a4 n4 c4, .slice a5 n5 c5] 25 (0, 0))
  s : SideS wx (.slice a0 n0 c0) (.slice a1 n1 c1) (.slice a4 n4 c4) (.slice a5 n5 c5) k p i1 i2
theorem SB.next {wx wy : World} {B : Nat} {a0 a1 a4 a5 : Option Addr} {n0 n1 n4 n5 c0 c1 c4 c5 : Nat} {s0 s1 : ByteArray} {k p i1 i2 : List UInt8} (h : SB wx B a0 a1 a4 a5 n0 n1 n4 n5 c0 c1 c4 c5 s0 s1 k p i1 i2) (hb : Below wx.heap.size wx wy) : SB wy B a0 a1 a4 a5 n0 n1 n4 n5 c0 c1 c4 c5 s0 s1 k p i1 i2 :=
  ⟨(hb.block B (lt_of_block h.row)).trans h.row, h.s.fresh hb⟩
theorem SideS.shape {w : World} {pr pin ic is : Value} {k p i1 i2 : List UInt8} (h : SideS w pr pin ic is k p i1 i2) : ∃ a0 a1 a4 a5 c0 c1 c4 c5, pr = .slice a0 k.length c0 ∧ pin = .slice a1 p.length c1 ∧ ic = .slice a4 i1.length c4 ∧ is = .slice a5 i2.length c5 := by
  obtain ⟨a0, c0, h0⟩ := h.pr.len
  obtain ⟨a1, c1, h1⟩ := h.pin.len
  obtain ⟨a4, c4, h4⟩ := h.ic.len
  obtain ⟨a5, c5, h5⟩ := h.is.len
  exact ⟨a0, a1, a4, a5, c0, c1, c4, c5, h0, h1, h4, h5⟩
theorem own_none (w : World) : Own w (w.alloc (.cells #[] 5)) (.slice (some ⟨w.heap.size, 0, none⟩) 0 0) [] := ⟨own_empty w, (Below.refl _ w).alloc (Nat.le_refl _) _⟩
theorem rep_ne (p q h : List UInt8) : repL p q h ≠ [] := by unfold repL payL; simp
section
variable {wx : World} {B : Nat} {a0 a1 a4 a5 : Option Addr} {n0 n1 n4 n5 c0 c1 c4 c5 : Nat} {s0 s1 : ByteArray} {k p i1 i2 : List UInt8}
/-- A place of a Side is filled anew. -/
theorem SB.keepS (h : SB wx B a0 a1 a4 a5 n0 n1 n4 n5 c0 c1 c4 c5 s0 s1 k p i1 i2) (i : Nat) (u v : Value) (xs : List UInt8) (hv : BSl wx v xs) : BSl (wx.setCell ⟨B, i, none⟩ u) v xs := hv.setCellA h.row (side_no a0 a1 a4 a5 n0 n1 n4 n5 c0 c1 c4 c5 s0 s1) i u
theorem SB.set2 (h : SB wx B a0 a1 a4 a5 n0 n1 n4 n5 c0 c1 c4 c5 s0 s1 k p i1 i2) (s : ByteArray) : SB (wx.setCell ⟨B, 2, none⟩ (.string s)) B a0 a1 a4 a5 n0 n1 n4 n5 c0 c1 c4 c5 s s1 k p i1 i2 :=
  ⟨by rw [heap_setCell_same _ _ _ _ _ _ h.row]; rfl, ⟨h.keepS _ _ _ _ h.s.pr, h.keepS _ _ _ _ h.s.pin, h.keepS _ _ _ _ h.s.ic, h.keepS _ _ _ _ h.s.is⟩⟩
theorem SB.set3 (h : SB wx B a0 a1 a4 a5 n0 n1 n4 n5 c0 c1 c4 c5 s0 s1 k p i1 i2) (s : ByteArray) : SB (wx.setCell ⟨B, 3, none⟩ (.string s)) B a0 a1 a4 a5 n0 n1 n4 n5 c0 c1 c4 c5 s0 s k p i1 i2 :=
  ⟨by rw [heap_setCell_same _ _ _ _ _ _ h.row]; rfl, ⟨h.keepS _ _ _ _ h.s.pr, h.keepS _ _ _ _ h.s.pin, h.keepS _ _ _ _ h.s.ic, h.keepS _ _ _ _ h.s.is⟩⟩
theorem SB.set4 (h : SB wx B a0 a1 a4 a5 n0 n1 n4 n5 c0 c1 c4 c5 s0 s1 k p i1 i2) {a : Option Addr} {n c : Nat} {xs : List UInt8} (hv : BSl wx (.slice a n c) xs) : SB (wx.setCell ⟨B, 4, none⟩ (.slice a n c)) B a0 a1 a a5 n0 n1 n n5 c0 c1 c c5 s0 s1 k p xs i2 :=
  ⟨by rw [heap_setCell_same _ _ _ _ _ _ h.row]; rfl, ⟨h.keepS _ _ _ _ h.s.pr, h.keepS _ _ _ _ h.s.pin, h.keepS _ _ _ _ hv, h.keepS _ _ _ _ h.s.is⟩⟩
theorem SB.set5 (h : SB wx B a0 a1 a4 a5 n0 n1 n4 n5 c0 c1 c4 c5 s0 s1 k p i1 i2) {a : Option Addr} {n c : Nat} {xs : List UInt8} (hv : BSl wx (.slice a n c) xs) : SB (wx.setCell ⟨B, 5, none⟩ (.slice a n c)) B a0 a1 a4 a n0 n1 n4 n c0 c1 c4 c s0 s1 k p i1 xs :=
  ⟨by rw [heap_setCell_same _ _ _ _ _ _ h.row]; rfl, ⟨h.keepS _ _ _ _ h.s.pr, h.keepS _ _ _ _ h.s.pin, h.keepS _ _ _ _ h.s.ic, h.keepS _ _ _ _ hv⟩⟩
end
end Go.Proofs.YtookapglookphaaDoor
