/- What fills the five parts of both laws; two Writers. -/
import Derived.Test.YtllkafhooapcbaaDoorKdR
import Derived.Test.YtllkafhooapcbaaDoorKdS
import Derived.Deep.CutBlock
namespace Go.Proofs.YtllkafhooapcbaaDoor
open Go Go.RowKit

/-- A slice of byte slices. -/
def LSl (w : World) (v : Value) (n : Nat) : Prop :=
  ∃ ao cap, v = .slice ao n cap ∧ n ≤ cap ∧ cap ≤ maxLen ∧ ∀ j, j < n → ∃ b off, ao = some ⟨b, off, none⟩ ∧ ∃ u us, w.cell? ⟨b, off + j, none⟩ = some u ∧ BSl w u us
theorem LSl.at {w : World} {ao : Option Addr} {n cap : Nat} (h : LSl w (.slice ao n cap) n) (j : Nat) (hj : j < n) : ∃ b off, ao = some ⟨b, off, none⟩ ∧ ∃ u us, w.cell? ⟨b, off + j, none⟩ = some u ∧ BSl w u us := by
  obtain ⟨ao', cap', e, _, _, h4⟩ := h
  cases e
  exact h4 j hj
/-- The array of five byte slices, the first block that the law makes. -/
def XI (w wr : World) : Prop :=
  ∃ (pv : Nat → Value) (px : Nat → List UInt8), wr.heap[w.heap.size]? = some (.cells (five pv) 31 (0, 0)) ∧ (∀ i, i < 5 → BSl w (pv i) (px i)) ∧ (∀ i, (px i).length ≤ 150) ∧ Below w.heap.size w wr
theorem XI.below {w wr : World} (h : XI w wr) : Below w.heap.size w wr := by
  obtain ⟨_, _, _, _, _, h⟩ := h
  exact h
theorem XI.start (w : World) : XI w (w.alloc (.cells #[.slice none 0 0, .slice none 0 0, .slice none 0 0, .slice none 0 0, .slice none 0 0] 31)) :=
  ⟨fun _ => .slice none 0 0, fun _ => [], heap_alloc_new w _, fun _ _ => BSl.ofRow (World.ownsRow_nil w 0 5 1), fun _ => by simp, (Below.refl _ w).alloc (by omega) _⟩
theorem XI.cell {w wr : World} (h : XI w wr) (j : Nat) (hj : j < 5) : ∃ old, wr.cell? ⟨w.heap.size, j, none⟩ = some old ∧ wr.frozen? ⟨w.heap.size, j, none⟩ = false := by
  obtain ⟨pv, px, h1, _⟩ := h
  refine ⟨pv j, ?_, frozen_row h1 j⟩
  rw [cell_row (cs := (five pv).toList) (by simpa using h1), Array.getElem?_toList, five_at pv j hj]
theorem five_upd (pv : Nat → Value) (j : Nat) (hj : j < 5) (v : Value) : (five pv).setIfInBounds j v = five (upd pv j v) := by
  match j, hj with
  | 0, _ | 1, _ | 2, _ | 3, _ | 4, _ => rfl
theorem XI.set {w wr : World} (h : XI w wr) (j : Nat) (hj : j < 5) {v : Value} {xs : List UInt8} (hv : BSl w v xs) (hl : xs.length ≤ 150) : XI w (wr.setCell ⟨w.heap.size, j, none⟩ v) := by
  obtain ⟨pv, px, h1, h2, h3, h4⟩ := h
  refine ⟨upd pv j v, upd px j xs, ?_, fun i hi => ?_, fun i => ?_, h4.setCell (Nat.le_refl _) _⟩
  · rw [heap_setCell_same _ _ _ _ _ _ h1, five_upd pv j hj]
  · unfold upd
    by_cases e : i = j
    · rw [if_pos e, if_pos e]; exact hv
    · rw [if_neg e, if_neg e]; exact h2 i hi
  · unfold upd
    split
    · exact hl
    · exact h3 i
/-- What Cut hands back of a slice of the beginning stands there already. -/
theorem cut_at {w wr : World} {a1 a2 : Option Addr} {n1 c1 n2 c2 m : Nat} {us : List UInt8} (h1 : BSl w (.slice a1 n1 c1) us) (h2 : BSl wr (.slice a2 n2 c2) (us.take m)) (hb : Below w.heap.size w wr) (hob : (Value.slice a2 n2 c2).ownBlock = (Value.slice a1 n1 c1).ownBlock) : BSl w (.slice a2 n2 c2) (us.take m) := by
  by_cases hne : us.take m = []
  · rw [hne] at h2 ⊢
    exact h2.nothing
  · have hne1 : us ≠ [] := by rintro rfl; simp at hne
    obtain ⟨b, o, cp, e, hl⟩ := h1.nonnil hne1
    cases e
    obtain ⟨b2, o2, cp2, e2, _⟩ := h2.nonnil hne
    injection e2 with e2 e3 e4
    subst e2 e3 e4
    cases hob
    obtain ⟨ao, cap, e, q1, q2, q3, q4⟩ := h2
    cases e
    refine ⟨_, _, rfl, q1, q2, q3, fun ad had hne2 => ?_⟩
    obtain ⟨b', o', e', hc⟩ := q4 ad had hne2
    cases had
    cases e'
    refine ⟨_, _, rfl, fun j u hu => ?_⟩
    have := hc j u hu
    rw [← World.cell?_of_block (hb.block b hl)]
    exact this
/-- Two Writers side by side. -/
structure TW (base : Nat) (wr : World) (a1 a2 : Nat) (b1 b2 : List UInt8) : Prop where
  ws : ∃ g1 g2, WS wr base a1 g1 b1 ∧ WS wr base a2 g2 b2 ∧ a1 ≠ a2 ∧ g1 ≠ some a2 ∧ g2 ≠ some a1 ∧ (∀ k, g1 = some k → g2 ≠ some k)
theorem TW.ext {base : Nat} {wr wr' : World} {a1 a2 : Nat} {b1 b2 : List UInt8} (h : TW base wr a1 a2 b1 b2) (he : Below wr.heap.size wr wr') : TW base wr' a1 a2 b1 b2 := by
  obtain ⟨g1, g2, h1, h2, h3⟩ := h.ws
  exact ⟨g1, g2, h1.keep (S := fun _ => False) (Keeps.ofFresh he) (fun h => h) (fun _ _ h => h), h2.keep (S := fun _ => False) (Keeps.ofFresh he) (fun h => h) (fun _ _ h => h), h3⟩
/-- What is written to the first. -/
theorem TW.one {base : Nat} {wr : World} {a1 a2 : Nat} {b1 b2 : List UInt8} (h : TW base wr a1 a2 b1 b2) : ∃ g1, WS wr base a1 g1 b1 ∧ ∀ wr' g1' b1', WS wr' base a1 g1' b1' → Wrote a1 g1 g1' wr wr' → TW base wr' a1 a2 b1' b2 ∧ Below base wr wr' := by
  obtain ⟨g1, g2, h1, h2, h3, h4, h5, h6⟩ := h.ws
  refine ⟨g1, h1, fun wr' g1' b1' h7 h8 => ⟨⟨g1', g2, h7, ?_, h3, ?_, h5, ?_⟩, h8.below h1⟩⟩
  · exact h2.keep h8.keeps (fun e => e.elim (fun e => h3 e.symm) h4) (fun k hk e => e.elim (fun e => h5 (by rw [hk, e])) (fun e => h6 k e hk))
  · rcases h8.row with rfl | ⟨k, rfl, hk⟩
    · exact h4
    · intro e; cases e; have := h2.lt; omega
  · rcases h8.row with rfl | ⟨k, rfl, hk⟩
    · exact h6
    · intro k2 e e2; cases e; have := (h2.rowLt _ e2).2; omega
theorem TW.flip {base : Nat} {wr : World} {a1 a2 : Nat} {b1 b2 : List UInt8} (h : TW base wr a1 a2 b1 b2) : TW base wr a2 a1 b2 b1 := by
  obtain ⟨g1, g2, h1, h2, h3, h4, h5, h6⟩ := h.ws
  exact ⟨g2, g1, h2, h1, Ne.symm h3, h5, h4, fun k hk e => h6 k e hk⟩
theorem TW.start (w : World) : TW w.heap.size ((w.alloc (.cells #[.slice none 0 0] 66)).alloc (.cells #[.slice none 0 0] 66)) w.heap.size (w.heap.size + 1) [] [] := by
  have h1 := WS.new w (Nat.le_refl w.heap.size)
  have h2 := WS.new (w.alloc (.cells #[.slice none 0 0] 66)) (base := w.heap.size) (by simp)
  rw [show (w.alloc (.cells #[.slice none 0 0] 66)).heap.size = w.heap.size + 1 by simp] at h2
  exact ⟨none, none, h1.keep (S := fun _ => False) ((Keeps.refl _ _).alloc _) (fun h => h) (fun _ _ h => h), h2, by omega, by simp, by simp, by simp⟩
theorem WS.fresh {w w' : World} {base a : Nat} {g : Option Nat} {bs : List UInt8} (h : WS w base a g bs) (he : Below w.heap.size w w') : WS w' base a g bs := h.keep (S := fun _ => False) (Keeps.ofFresh he) (fun h => h) (fun _ _ h => h)
end Go.Proofs.YtllkafhooapcbaaDoor
