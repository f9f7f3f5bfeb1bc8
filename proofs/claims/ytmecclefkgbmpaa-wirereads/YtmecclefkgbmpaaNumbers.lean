/- The walk of the law WireNumbers. -/
import Derived.Test.YtmecclefkgbmpaaStops
namespace Go.Proofs.Ytmecclefkgbmpaa
open Go Go.RowKit

/-- Slices of bytes, laid one after the other. -/
def Laid (w0 w : World) (vs : List Value) : Prop := Below w0.heap.size w0 w ∧ ∀ v ∈ vs, (∃ xs, BSl w v xs ∧ xs.length ≤ 10) ∧ ∀ k, v.ownBlock = some k → k < w.heap.size

theorem Laid.step {w0 w : World} {vs : List Value} (h : Laid w0 w vs) (xs : List UInt8) (n m : Nat) (c : Array Value) (hn : n = w.heap.size) (hx : xs.length ≤ 10) (hm : xs.length = m) (hc : (bcells xs).toArray = c) : Laid w0 (w.alloc (.cells c 5)) (vs ++ [.slice (some ⟨n, 0, none⟩) m m]) := by
  subst hc hm
  refine ⟨h.1.alloc h.1.size _, fun v hv => ?_⟩
  rcases List.mem_append.1 hv with hv | hv
  · obtain ⟨⟨ys, hy, hl⟩, ho⟩ := h.2 v hv
    exact ⟨⟨ys, hy.alloc _, hl⟩, fun k hk => by have := ho k hk; simp; omega⟩
  · obtain rfl := List.mem_singleton.1 hv
    subst hn
    exact ⟨⟨xs, bsl_lit w xs (by omega), hx⟩, fun k hk => by simp [Value.ownBlock] at hk; simp; omega⟩

/-- A row of slices of bytes at B. -/
def Lit (w : World) (B : Nat) : Prop := ∀ i, i < 16 → ∃ v, w.cell? ⟨B, i, none⟩ = some v ∧ (∃ xs, BSl w v xs ∧ xs.length ≤ 10) ∧ ∀ k, v.ownBlock = some k → k < w.heap.size

theorem Lit.fresh {w w' : World} {B : Nat} (h : Lit w B) (hb : Below w.heap.size w w') : Lit w' B := by
  intro i hi
  obtain ⟨v, hc, ⟨xs, hx, hl⟩, ho⟩ := h i hi
  exact ⟨v, (Keeps.ofFresh (S := fun _ => False) hb).cell hc (fun h => h), ⟨xs, hx.fresh hb, hl⟩, fun k hk => Nat.lt_of_lt_of_le (ho k hk) hb.size⟩

theorem Laid.lit {w0 w : World} {vs : List Value} (h : Laid w0 w vs) (hl : vs.length = 16) (n : Nat) (hn : n = w.heap.size) : Lit (w.alloc (.cells vs.toArray 22)) n ∧ Below w0.heap.size w0 (w.alloc (.cells vs.toArray 22)) := by
  subst hn
  refine ⟨fun i hi => ?_, h.1.alloc h.1.size _⟩
  obtain ⟨⟨xs, hx, hxl⟩, ho⟩ := h.2 vs[i] (List.getElem_mem (by omega))
  refine ⟨vs[i], ?_, ⟨xs, hx.alloc _, hxl⟩, fun k hk => by have := ho k hk; simp; omega⟩
  rw [cell_of_row _ _ _ _ _ _ (heap_alloc_new w _)]
  simp [List.getElem?_eq_getElem (show i < vs.length by omega)]

theorem size_alloc' (w : World) (o : Obj) : (w.alloc o).heap.size = w.heap.size + 1 := by simp
theorem lc1 : (bcells [0, 0, 0]).toArray = #[.int .u8 0, .int .u8 0, .int .u8 0] := by simp [bcells]
theorem lc2 : (bcells [0, 0, 0, 0]).toArray = #[.int .u8 0, .int .u8 0, .int .u8 0, .int .u8 0] := by simp [bcells]
theorem lc3 : (bcells [0, 0, 0, 1]).toArray = #[.int .u8 0, .int .u8 0, .int .u8 0, .int .u8 1] := by simp [bcells]
theorem lc4 : (bcells [0, 0, 0, 1, 0]).toArray = #[.int .u8 0, .int .u8 0, .int .u8 0, .int .u8 1, .int .u8 0] := by simp [bcells]
theorem lc5 : (bcells [0, 0, 0, 1, 128]).toArray = #[.int .u8 0, .int .u8 0, .int .u8 0, .int .u8 1, .int .u8 128] := by simp [bcells]
theorem lc6 : (bcells [0, 0, 0, 2, 0, 1]).toArray = #[.int .u8 0, .int .u8 0, .int .u8 0, .int .u8 2, .int .u8 0, .int .u8 1] := by simp [bcells]
theorem lc7 : (bcells [0, 0, 0, 2, 0, 128]).toArray = #[.int .u8 0, .int .u8 0, .int .u8 0, .int .u8 2, .int .u8 0, .int .u8 128] := by simp [bcells]
theorem lc8 : (bcells [0, 0, 0, 4, 97, 44, 44, 98]).toArray = #[.int .u8 0, .int .u8 0, .int .u8 0, .int .u8 4, .int .u8 97, .int .u8 44, .int .u8 44, .int .u8 98] := by simp [bcells]
theorem lc9 : (bcells [0, 0, 0, 2, 97, 44]).toArray = #[.int .u8 0, .int .u8 0, .int .u8 0, .int .u8 2, .int .u8 97, .int .u8 44] := by simp [bcells]
theorem lc10 : (bcells [0, 0, 0, 3, 97, 44, 98]).toArray = #[.int .u8 0, .int .u8 0, .int .u8 0, .int .u8 3, .int .u8 97, .int .u8 44, .int .u8 98] := by simp [bcells]
theorem lc11 : (bcells [0, 0, 0, 1, 32]).toArray = #[.int .u8 0, .int .u8 0, .int .u8 0, .int .u8 1, .int .u8 32] := by simp [bcells]
theorem lc12 : (bcells [0, 0, 0, 1, 127]).toArray = #[.int .u8 0, .int .u8 0, .int .u8 0, .int .u8 1, .int .u8 127] := by simp [bcells]
theorem lc13 : (bcells [0, 0, 3, 233]).toArray = #[.int .u8 0, .int .u8 0, .int .u8 3, .int .u8 233] := by simp [bcells]
theorem lc14 : (bcells [255, 255, 255, 255, 1]).toArray = #[.int .u8 255, .int .u8 255, .int .u8 255, .int .u8 255, .int .u8 1] := by simp [bcells]
theorem lc15 : (bcells [7, 1, 2, 3, 4, 5, 6, 7, 8, 9]).toArray = #[.int .u8 7, .int .u8 1, .int .u8 2, .int .u8 3, .int .u8 4, .int .u8 5, .int .u8 6, .int .u8 7, .int .u8 8, .int .u8 9] := by simp [bcells]

set_option maxHeartbeats 1600000 in
theorem lit_world (w : World) : Lit ((((((((((((((((w.alloc (.cells #[.int .u8 0, .int .u8 0, .int .u8 0] 5)).alloc (.cells #[.int .u8 0, .int .u8 0, .int .u8 0, .int .u8 0] 5)).alloc (.cells #[.int .u8 0, .int .u8 0, .int .u8 0, .int .u8 1] 5)).alloc (.cells #[.int .u8 0, .int .u8 0, .int .u8 0, .int .u8 1, .int .u8 0] 5)).alloc (.cells #[.int .u8 0, .int .u8 0, .int .u8 0, .int .u8 1, .int .u8 128] 5)).alloc (.cells #[.int .u8 0, .int .u8 0, .int .u8 0, .int .u8 2, .int .u8 0, .int .u8 1] 5)).alloc (.cells #[.int .u8 0, .int .u8 0, .int .u8 0, .int .u8 2, .int .u8 0, .int .u8 128] 5)).alloc (.cells #[.int .u8 0, .int .u8 0, .int .u8 0, .int .u8 4, .int .u8 97, .int .u8 44, .int .u8 44, .int .u8 98] 5)).alloc (.cells #[.int .u8 0, .int .u8 0, .int .u8 0, .int .u8 2, .int .u8 97, .int .u8 44] 5)).alloc (.cells #[.int .u8 0, .int .u8 0, .int .u8 0, .int .u8 3, .int .u8 97, .int .u8 44, .int .u8 98] 5)).alloc (.cells #[.int .u8 0, .int .u8 0, .int .u8 0, .int .u8 1, .int .u8 32] 5)).alloc (.cells #[.int .u8 0, .int .u8 0, .int .u8 0, .int .u8 1, .int .u8 127] 5)).alloc (.cells #[.int .u8 0, .int .u8 0, .int .u8 3, .int .u8 233] 5)).alloc (.cells #[.int .u8 255, .int .u8 255, .int .u8 255, .int .u8 255, .int .u8 1] 5)).alloc (.cells #[.int .u8 7, .int .u8 1, .int .u8 2, .int .u8 3, .int .u8 4, .int .u8 5, .int .u8 6, .int .u8 7, .int .u8 8, .int .u8 9] 5)).alloc (.cells #[.slice none 0 0, .slice (some ⟨w.heap.size, 0, none⟩) 3 3, .slice (some ⟨w.heap.size + 1, 0, none⟩) 4 4, .slice (some ⟨w.heap.size + 1 + 1, 0, none⟩) 4 4, .slice (some ⟨w.heap.size + 1 + 1 + 1, 0, none⟩) 5 5, .slice (some ⟨w.heap.size + 1 + 1 + 1 + 1, 0, none⟩) 5 5, .slice (some ⟨w.heap.size + 1 + 1 + 1 + 1 + 1, 0, none⟩) 6 6, .slice (some ⟨w.heap.size + 1 + 1 + 1 + 1 + 1 + 1, 0, none⟩) 6 6, .slice (some ⟨w.heap.size + 1 + 1 + 1 + 1 + 1 + 1 + 1, 0, none⟩) 8 8, .slice (some ⟨w.heap.size + 1 + 1 + 1 + 1 + 1 + 1 + 1 + 1, 0, none⟩) 6 6, .slice (some ⟨w.heap.size + 1 + 1 + 1 + 1 + 1 + 1 + 1 + 1 + 1, 0, none⟩) 7 7, .slice (some ⟨w.heap.size + 1 + 1 + 1 + 1 + 1 + 1 + 1 + 1 + 1 + 1, 0, none⟩) 5 5, .slice (some ⟨w.heap.size + 1 + 1 + 1 + 1 + 1 + 1 + 1 + 1 + 1 + 1 + 1, 0, none⟩) 5 5, .slice (some ⟨w.heap.size + 1 + 1 + 1 + 1 + 1 + 1 + 1 + 1 + 1 + 1 + 1 + 1, 0, none⟩) 4 4, .slice (some ⟨w.heap.size + 1 + 1 + 1 + 1 + 1 + 1 + 1 + 1 + 1 + 1 + 1 + 1 + 1, 0, none⟩) 5 5, .slice (some ⟨w.heap.size + 1 + 1 + 1 + 1 + 1 + 1 + 1 + 1 + 1 + 1 + 1 + 1 + 1 + 1, 0, none⟩) 10 10] 22)) (w.heap.size + 1 + 1 + 1 + 1 + 1 + 1 + 1 + 1 + 1 + 1 + 1 + 1 + 1 + 1 + 1) ∧ Below w.heap.size w ((((((((((((((((w.alloc (.cells #[.int .u8 0, .int .u8 0, .int .u8 0] 5)).alloc (.cells #[.int .u8 0, .int .u8 0, .int .u8 0, .int .u8 0] 5)).alloc (.cells #[.int .u8 0, .int .u8 0, .int .u8 0, .int .u8 1] 5)).alloc (.cells #[.int .u8 0, .int .u8 0, .int .u8 0, .int .u8 1, .int .u8 0] 5)).alloc (.cells #[.int .u8 0, .int .u8 0, .int .u8 0, .int .u8 1, .int .u8 128] 5)).alloc (.cells #[.int .u8 0, .int .u8 0, .int .u8 0, .int .u8 2, .int .u8 0, .int .u8 1] 5)).alloc (.cells #[.int .u8 0, .int .u8 0, .int .u8 0, .int .u8 2, .int .u8 0, .int .u8 128] 5)).alloc (.cells #[.int .u8 0, .int .u8 0, .int .u8 0, .int .u8 4, .int .u8 97, .int .u8 44, .int .u8 44, .int .u8 98] 5)).alloc (.cells #[.int .u8 0, .int .u8 0, .int .u8 0, .int .u8 2, .int .u8 97, .int .u8 44] 5)).alloc (.cells #[.int .u8 0, .int .u8 0, .int .u8 0, .int .u8 3, .int .u8 97, .int .u8 44, .int .u8 98] 5)).alloc (.cells #[.int .u8 0, .int .u8 0, .int .u8 0, .int .u8 1, .int .u8 32] 5)).alloc (.cells #[.int .u8 0, .int .u8 0, .int .u8 0, .int .u8 1, .int .u8 127] 5)).alloc (.cells #[.int .u8 0, .int .u8 0, .int .u8 3, .int .u8 233] 5)).alloc (.cells #[.int .u8 255, .int .u8 255, .int .u8 255, .int .u8 255, .int .u8 1] 5)).alloc (.cells #[.int .u8 7, .int .u8 1, .int .u8 2, .int .u8 3, .int .u8 4, .int .u8 5, .int .u8 6, .int .u8 7, .int .u8 8, .int .u8 9] 5)).alloc (.cells #[.slice none 0 0, .slice (some ⟨w.heap.size, 0, none⟩) 3 3, .slice (some ⟨w.heap.size + 1, 0, none⟩) 4 4, .slice (some ⟨w.heap.size + 1 + 1, 0, none⟩) 4 4, .slice (some ⟨w.heap.size + 1 + 1 + 1, 0, none⟩) 5 5, .slice (some ⟨w.heap.size + 1 + 1 + 1 + 1, 0, none⟩) 5 5, .slice (some ⟨w.heap.size + 1 + 1 + 1 + 1 + 1, 0, none⟩) 6 6, .slice (some ⟨w.heap.size + 1 + 1 + 1 + 1 + 1 + 1, 0, none⟩) 6 6, .slice (some ⟨w.heap.size + 1 + 1 + 1 + 1 + 1 + 1 + 1, 0, none⟩) 8 8, .slice (some ⟨w.heap.size + 1 + 1 + 1 + 1 + 1 + 1 + 1 + 1, 0, none⟩) 6 6, .slice (some ⟨w.heap.size + 1 + 1 + 1 + 1 + 1 + 1 + 1 + 1 + 1, 0, none⟩) 7 7, .slice (some ⟨w.heap.size + 1 + 1 + 1 + 1 + 1 + 1 + 1 + 1 + 1 + 1, 0, none⟩) 5 5, .slice (some ⟨w.heap.size + 1 + 1 + 1 + 1 + 1 + 1 + 1 + 1 + 1 + 1 + 1, 0, none⟩) 5 5, .slice (some ⟨w.heap.size + 1 + 1 + 1 + 1 + 1 + 1 + 1 + 1 + 1 + 1 + 1 + 1, 0, none⟩) 4 4, .slice (some ⟨w.heap.size + 1 + 1 + 1 + 1 + 1 + 1 + 1 + 1 + 1 + 1 + 1 + 1 + 1, 0, none⟩) 5 5, .slice (some ⟨w.heap.size + 1 + 1 + 1 + 1 + 1 + 1 + 1 + 1 + 1 + 1 + 1 + 1 + 1 + 1, 0, none⟩) 10 10] 22)) := by
  have h0 : Laid w w [.slice none 0 0] := ⟨Below.refl _ _, fun v hv => by
    obtain rfl := List.mem_singleton.1 hv
    exact ⟨⟨[], bsl_none _, by simp⟩, fun k hk => by cases hk⟩⟩
  obtain ⟨w1, e1⟩ : ∃ x, x = w.alloc (.cells #[.int .u8 0, .int .u8 0, .int .u8 0] 5) := ⟨_, rfl⟩
  rw [← e1]
  have s1 : w1.heap.size = w.heap.size + 1 := by rw [e1, size_alloc']
  have h1 : Laid w w1 [.slice none 0 0, .slice (some ⟨w.heap.size, 0, none⟩) 3 3] := by rw [e1]; exact h0.step [0, 0, 0] _ _ _ rfl (by decide) rfl lc1
  clear e1 h0
  obtain ⟨w2, e2⟩ : ∃ x, x = w1.alloc (.cells #[.int .u8 0, .int .u8 0, .int .u8 0, .int .u8 0] 5) := ⟨_, rfl⟩
  rw [← e2]
  have s2 : w2.heap.size = w.heap.size + 1 + 1 := by rw [e2, size_alloc']; rw [s1]
  have h2 : Laid w w2 [.slice none 0 0, .slice (some ⟨w.heap.size, 0, none⟩) 3 3, .slice (some ⟨w.heap.size + 1, 0, none⟩) 4 4] := by rw [e2]; exact h1.step [0, 0, 0, 0] _ _ _ s1.symm (by decide) rfl lc2
  clear e2 h1 s1
  obtain ⟨w3, e3⟩ : ∃ x, x = w2.alloc (.cells #[.int .u8 0, .int .u8 0, .int .u8 0, .int .u8 1] 5) := ⟨_, rfl⟩
  rw [← e3]
  have s3 : w3.heap.size = w.heap.size + 1 + 1 + 1 := by rw [e3, size_alloc']; rw [s2]
  have h3 : Laid w w3 [.slice none 0 0, .slice (some ⟨w.heap.size, 0, none⟩) 3 3, .slice (some ⟨w.heap.size + 1, 0, none⟩) 4 4, .slice (some ⟨w.heap.size + 1 + 1, 0, none⟩) 4 4] := by rw [e3]; exact h2.step [0, 0, 0, 1] _ _ _ s2.symm (by decide) rfl lc3
  clear e3 h2 s2
  obtain ⟨w4, e4⟩ : ∃ x, x = w3.alloc (.cells #[.int .u8 0, .int .u8 0, .int .u8 0, .int .u8 1, .int .u8 0] 5) := ⟨_, rfl⟩
  rw [← e4]
  have s4 : w4.heap.size = w.heap.size + 1 + 1 + 1 + 1 := by rw [e4, size_alloc']; rw [s3]
  have h4 : Laid w w4 [.slice none 0 0, .slice (some ⟨w.heap.size, 0, none⟩) 3 3, .slice (some ⟨w.heap.size + 1, 0, none⟩) 4 4, .slice (some ⟨w.heap.size + 1 + 1, 0, none⟩) 4 4, .slice (some ⟨w.heap.size + 1 + 1 + 1, 0, none⟩) 5 5] := by rw [e4]; exact h3.step [0, 0, 0, 1, 0] _ _ _ s3.symm (by decide) rfl lc4
  clear e4 h3 s3
  obtain ⟨w5, e5⟩ : ∃ x, x = w4.alloc (.cells #[.int .u8 0, .int .u8 0, .int .u8 0, .int .u8 1, .int .u8 128] 5) := ⟨_, rfl⟩
  rw [← e5]
  have s5 : w5.heap.size = w.heap.size + 1 + 1 + 1 + 1 + 1 := by rw [e5, size_alloc']; rw [s4]
  have h5 : Laid w w5 [.slice none 0 0, .slice (some ⟨w.heap.size, 0, none⟩) 3 3, .slice (some ⟨w.heap.size + 1, 0, none⟩) 4 4, .slice (some ⟨w.heap.size + 1 + 1, 0, none⟩) 4 4, .slice (some ⟨w.heap.size + 1 + 1 + 1, 0, none⟩) 5 5, .slice (some ⟨w.heap.size + 1 + 1 + 1 + 1, 0, none⟩) 5 5] := by rw [e5]; exact h4.step [0, 0, 0, 1, 128] _ _ _ s4.symm (by decide) rfl lc5
  clear e5 h4 s4
  obtain ⟨w6, e6⟩ : ∃ x, x = w5.alloc (.cells #[.int .u8 0, .int .u8 0, .int .u8 0, .int .u8 2, .int .u8 0, .int .u8 1] 5) := ⟨_, rfl⟩
  rw [← e6]
  have s6 : w6.heap.size = w.heap.size + 1 + 1 + 1 + 1 + 1 + 1 := by rw [e6, size_alloc']; rw [s5]
  have h6 : Laid w w6 [.slice none 0 0, .slice (some ⟨w.heap.size, 0, none⟩) 3 3, .slice (some ⟨w.heap.size + 1, 0, none⟩) 4 4, .slice (some ⟨w.heap.size + 1 + 1, 0, none⟩) 4 4, .slice (some ⟨w.heap.size + 1 + 1 + 1, 0, none⟩) 5 5, .slice (some ⟨w.heap.size + 1 + 1 + 1 + 1, 0, none⟩) 5 5, .slice (some ⟨w.heap.size + 1 + 1 + 1 + 1 + 1, 0, none⟩) 6 6] := by rw [e6]; exact h5.step [0, 0, 0, 2, 0, 1] _ _ _ s5.symm (by decide) rfl lc6
  clear e6 h5 s5
  obtain ⟨w7, e7⟩ : ∃ x, x = w6.alloc (.cells #[.int .u8 0, .int .u8 0, .int .u8 0, .int .u8 2, .int .u8 0, .int .u8 128] 5) := ⟨_, rfl⟩
  rw [← e7]
  have s7 : w7.heap.size = w.heap.size + 1 + 1 + 1 + 1 + 1 + 1 + 1 := by rw [e7, size_alloc']; rw [s6]
  have h7 : Laid w w7 [.slice none 0 0, .slice (some ⟨w.heap.size, 0, none⟩) 3 3, .slice (some ⟨w.heap.size + 1, 0, none⟩) 4 4, .slice (some ⟨w.heap.size + 1 + 1, 0, none⟩) 4 4, .slice (some ⟨w.heap.size + 1 + 1 + 1, 0, none⟩) 5 5, .slice (some ⟨w.heap.size + 1 + 1 + 1 + 1, 0, none⟩) 5 5, .slice (some ⟨w.heap.size + 1 + 1 + 1 + 1 + 1, 0, none⟩) 6 6, .slice (some ⟨w.heap.size + 1 + 1 + 1 + 1 + 1 + 1, 0, none⟩) 6 6] := by rw [e7]; exact h6.step [0, 0, 0, 2, 0, 128] _ _ _ s6.symm (by decide) rfl lc7
  clear e7 h6 s6
  obtain ⟨w8, e8⟩ : ∃ x, x = w7.alloc (.cells #[.int .u8 0, .int .u8 0, .int .u8 0, .int .u8 4, .int .u8 97, .int .u8 44, .int .u8 44, .int .u8 98] 5) := ⟨_, rfl⟩
  rw [← e8]
  have s8 : w8.heap.size = w.heap.size + 1 + 1 + 1 + 1 + 1 + 1 + 1 + 1 := by rw [e8, size_alloc']; rw [s7]
  have h8 : Laid w w8 [.slice none 0 0, .slice (some ⟨w.heap.size, 0, none⟩) 3 3, .slice (some ⟨w.heap.size + 1, 0, none⟩) 4 4, .slice (some ⟨w.heap.size + 1 + 1, 0, none⟩) 4 4, .slice (some ⟨w.heap.size + 1 + 1 + 1, 0, none⟩) 5 5, .slice (some ⟨w.heap.size + 1 + 1 + 1 + 1, 0, none⟩) 5 5, .slice (some ⟨w.heap.size + 1 + 1 + 1 + 1 + 1, 0, none⟩) 6 6, .slice (some ⟨w.heap.size + 1 + 1 + 1 + 1 + 1 + 1, 0, none⟩) 6 6, .slice (some ⟨w.heap.size + 1 + 1 + 1 + 1 + 1 + 1 + 1, 0, none⟩) 8 8] := by rw [e8]; exact h7.step [0, 0, 0, 4, 97, 44, 44, 98] _ _ _ s7.symm (by decide) rfl lc8
  clear e8 h7 s7
  obtain ⟨w9, e9⟩ : ∃ x, x = w8.alloc (.cells #[.int .u8 0, .int .u8 0, .int .u8 0, .int .u8 2, .int .u8 97, .int .u8 44] 5) := ⟨_, rfl⟩
  rw [← e9]
  have s9 : w9.heap.size = w.heap.size + 1 + 1 + 1 + 1 + 1 + 1 + 1 + 1 + 1 := by rw [e9, size_alloc']; rw [s8]
  have h9 : Laid w w9 [.slice none 0 0, .slice (some ⟨w.heap.size, 0, none⟩) 3 3, .slice (some ⟨w.heap.size + 1, 0, none⟩) 4 4, .slice (some ⟨w.heap.size + 1 + 1, 0, none⟩) 4 4, .slice (some ⟨w.heap.size + 1 + 1 + 1, 0, none⟩) 5 5, .slice (some ⟨w.heap.size + 1 + 1 + 1 + 1, 0, none⟩) 5 5, .slice (some ⟨w.heap.size + 1 + 1 + 1 + 1 + 1, 0, none⟩) 6 6, .slice (some ⟨w.heap.size + 1 + 1 + 1 + 1 + 1 + 1, 0, none⟩) 6 6, .slice (some ⟨w.heap.size + 1 + 1 + 1 + 1 + 1 + 1 + 1, 0, none⟩) 8 8, .slice (some ⟨w.heap.size + 1 + 1 + 1 + 1 + 1 + 1 + 1 + 1, 0, none⟩) 6 6] := by rw [e9]; exact h8.step [0, 0, 0, 2, 97, 44] _ _ _ s8.symm (by decide) rfl lc9
  clear e9 h8 s8
  obtain ⟨w10, e10⟩ : ∃ x, x = w9.alloc (.cells #[.int .u8 0, .int .u8 0, .int .u8 0, .int .u8 3, .int .u8 97, .int .u8 44, .int .u8 98] 5) := ⟨_, rfl⟩
  rw [← e10]
  have s10 : w10.heap.size = w.heap.size + 1 + 1 + 1 + 1 + 1 + 1 + 1 + 1 + 1 + 1 := by rw [e10, size_alloc']; rw [s9]
  have h10 : Laid w w10 [.slice none 0 0, .slice (some ⟨w.heap.size, 0, none⟩) 3 3, .slice (some ⟨w.heap.size + 1, 0, none⟩) 4 4, .slice (some ⟨w.heap.size + 1 + 1, 0, none⟩) 4 4, .slice (some ⟨w.heap.size + 1 + 1 + 1, 0, none⟩) 5 5, .slice (some ⟨w.heap.size + 1 + 1 + 1 + 1, 0, none⟩) 5 5, .slice (some ⟨w.heap.size + 1 + 1 + 1 + 1 + 1, 0, none⟩) 6 6, .slice (some ⟨w.heap.size + 1 + 1 + 1 + 1 + 1 + 1, 0, none⟩) 6 6, .slice (some ⟨w.heap.size + 1 + 1 + 1 + 1 + 1 + 1 + 1, 0, none⟩) 8 8, .slice (some ⟨w.heap.size + 1 + 1 + 1 + 1 + 1 + 1 + 1 + 1, 0, none⟩) 6 6, .slice (some ⟨w.heap.size + 1 + 1 + 1 + 1 + 1 + 1 + 1 + 1 + 1, 0, none⟩) 7 7] := by rw [e10]; exact h9.step [0, 0, 0, 3, 97, 44, 98] _ _ _ s9.symm (by decide) rfl lc10
  clear e10 h9 s9
  obtain ⟨w11, e11⟩ : ∃ x, x = w10.alloc (.cells #[.int .u8 0, .int .u8 0, .int .u8 0, .int .u8 1, .int .u8 32] 5) := ⟨_, rfl⟩
  rw [← e11]
  have s11 : w11.heap.size = w.heap.size + 1 + 1 + 1 + 1 + 1 + 1 + 1 + 1 + 1 + 1 + 1 := by rw [e11, size_alloc']; rw [s10]
  have h11 : Laid w w11 [.slice none 0 0, .slice (some ⟨w.heap.size, 0, none⟩) 3 3, .slice (some ⟨w.heap.size + 1, 0, none⟩) 4 4, .slice (some ⟨w.heap.size + 1 + 1, 0, none⟩) 4 4, .slice (some ⟨w.heap.size + 1 + 1 + 1, 0, none⟩) 5 5, .slice (some ⟨w.heap.size + 1 + 1 + 1 + 1, 0, none⟩) 5 5, .slice (some ⟨w.heap.size + 1 + 1 + 1 + 1 + 1, 0, none⟩) 6 6, .slice (some ⟨w.heap.size + 1 + 1 + 1 + 1 + 1 + 1, 0, none⟩) 6 6, .slice (some ⟨w.heap.size + 1 + 1 + 1 + 1 + 1 + 1 + 1, 0, none⟩) 8 8, .slice (some ⟨w.heap.size + 1 + 1 + 1 + 1 + 1 + 1 + 1 + 1, 0, none⟩) 6 6, .slice (some ⟨w.heap.size + 1 + 1 + 1 + 1 + 1 + 1 + 1 + 1 + 1, 0, none⟩) 7 7, .slice (some ⟨w.heap.size + 1 + 1 + 1 + 1 + 1 + 1 + 1 + 1 + 1 + 1, 0, none⟩) 5 5] := by rw [e11]; exact h10.step [0, 0, 0, 1, 32] _ _ _ s10.symm (by decide) rfl lc11
  clear e11 h10 s10
  obtain ⟨w12, e12⟩ : ∃ x, x = w11.alloc (.cells #[.int .u8 0, .int .u8 0, .int .u8 0, .int .u8 1, .int .u8 127] 5) := ⟨_, rfl⟩
  rw [← e12]
  have s12 : w12.heap.size = w.heap.size + 1 + 1 + 1 + 1 + 1 + 1 + 1 + 1 + 1 + 1 + 1 + 1 := by rw [e12, size_alloc']; rw [s11]
  have h12 : Laid w w12 [.slice none 0 0, .slice (some ⟨w.heap.size, 0, none⟩) 3 3, .slice (some ⟨w.heap.size + 1, 0, none⟩) 4 4, .slice (some ⟨w.heap.size + 1 + 1, 0, none⟩) 4 4, .slice (some ⟨w.heap.size + 1 + 1 + 1, 0, none⟩) 5 5, .slice (some ⟨w.heap.size + 1 + 1 + 1 + 1, 0, none⟩) 5 5, .slice (some ⟨w.heap.size + 1 + 1 + 1 + 1 + 1, 0, none⟩) 6 6, .slice (some ⟨w.heap.size + 1 + 1 + 1 + 1 + 1 + 1, 0, none⟩) 6 6, .slice (some ⟨w.heap.size + 1 + 1 + 1 + 1 + 1 + 1 + 1, 0, none⟩) 8 8, .slice (some ⟨w.heap.size + 1 + 1 + 1 + 1 + 1 + 1 + 1 + 1, 0, none⟩) 6 6, .slice (some ⟨w.heap.size + 1 + 1 + 1 + 1 + 1 + 1 + 1 + 1 + 1, 0, none⟩) 7 7, .slice (some ⟨w.heap.size + 1 + 1 + 1 + 1 + 1 + 1 + 1 + 1 + 1 + 1, 0, none⟩) 5 5, .slice (some ⟨w.heap.size + 1 + 1 + 1 + 1 + 1 + 1 + 1 + 1 + 1 + 1 + 1, 0, none⟩) 5 5] := by rw [e12]; exact h11.step [0, 0, 0, 1, 127] _ _ _ s11.symm (by decide) rfl lc12
  clear e12 h11 s11
  obtain ⟨w13, e13⟩ : ∃ x, x = w12.alloc (.cells #[.int .u8 0, .int .u8 0, .int .u8 3, .int .u8 233] 5) := ⟨_, rfl⟩
  rw [← e13]
  have s13 : w13.heap.size = w.heap.size + 1 + 1 + 1 + 1 + 1 + 1 + 1 + 1 + 1 + 1 + 1 + 1 + 1 := by rw [e13, size_alloc']; rw [s12]
  have h13 : Laid w w13 [.slice none 0 0, .slice (some ⟨w.heap.size, 0, none⟩) 3 3, .slice (some ⟨w.heap.size + 1, 0, none⟩) 4 4, .slice (some ⟨w.heap.size + 1 + 1, 0, none⟩) 4 4, .slice (some ⟨w.heap.size + 1 + 1 + 1, 0, none⟩) 5 5, .slice (some ⟨w.heap.size + 1 + 1 + 1 + 1, 0, none⟩) 5 5, .slice (some ⟨w.heap.size + 1 + 1 + 1 + 1 + 1, 0, none⟩) 6 6, .slice (some ⟨w.heap.size + 1 + 1 + 1 + 1 + 1 + 1, 0, none⟩) 6 6, .slice (some ⟨w.heap.size + 1 + 1 + 1 + 1 + 1 + 1 + 1, 0, none⟩) 8 8, .slice (some ⟨w.heap.size + 1 + 1 + 1 + 1 + 1 + 1 + 1 + 1, 0, none⟩) 6 6, .slice (some ⟨w.heap.size + 1 + 1 + 1 + 1 + 1 + 1 + 1 + 1 + 1, 0, none⟩) 7 7, .slice (some ⟨w.heap.size + 1 + 1 + 1 + 1 + 1 + 1 + 1 + 1 + 1 + 1, 0, none⟩) 5 5, .slice (some ⟨w.heap.size + 1 + 1 + 1 + 1 + 1 + 1 + 1 + 1 + 1 + 1 + 1, 0, none⟩) 5 5, .slice (some ⟨w.heap.size + 1 + 1 + 1 + 1 + 1 + 1 + 1 + 1 + 1 + 1 + 1 + 1, 0, none⟩) 4 4] := by rw [e13]; exact h12.step [0, 0, 3, 233] _ _ _ s12.symm (by decide) rfl lc13
  clear e13 h12 s12
  obtain ⟨w14, e14⟩ : ∃ x, x = w13.alloc (.cells #[.int .u8 255, .int .u8 255, .int .u8 255, .int .u8 255, .int .u8 1] 5) := ⟨_, rfl⟩
  rw [← e14]
  have s14 : w14.heap.size = w.heap.size + 1 + 1 + 1 + 1 + 1 + 1 + 1 + 1 + 1 + 1 + 1 + 1 + 1 + 1 := by rw [e14, size_alloc']; rw [s13]
  have h14 : Laid w w14 [.slice none 0 0, .slice (some ⟨w.heap.size, 0, none⟩) 3 3, .slice (some ⟨w.heap.size + 1, 0, none⟩) 4 4, .slice (some ⟨w.heap.size + 1 + 1, 0, none⟩) 4 4, .slice (some ⟨w.heap.size + 1 + 1 + 1, 0, none⟩) 5 5, .slice (some ⟨w.heap.size + 1 + 1 + 1 + 1, 0, none⟩) 5 5, .slice (some ⟨w.heap.size + 1 + 1 + 1 + 1 + 1, 0, none⟩) 6 6, .slice (some ⟨w.heap.size + 1 + 1 + 1 + 1 + 1 + 1, 0, none⟩) 6 6, .slice (some ⟨w.heap.size + 1 + 1 + 1 + 1 + 1 + 1 + 1, 0, none⟩) 8 8, .slice (some ⟨w.heap.size + 1 + 1 + 1 + 1 + 1 + 1 + 1 + 1, 0, none⟩) 6 6, .slice (some ⟨w.heap.size + 1 + 1 + 1 + 1 + 1 + 1 + 1 + 1 + 1, 0, none⟩) 7 7, .slice (some ⟨w.heap.size + 1 + 1 + 1 + 1 + 1 + 1 + 1 + 1 + 1 + 1, 0, none⟩) 5 5, .slice (some ⟨w.heap.size + 1 + 1 + 1 + 1 + 1 + 1 + 1 + 1 + 1 + 1 + 1, 0, none⟩) 5 5, .slice (some ⟨w.heap.size + 1 + 1 + 1 + 1 + 1 + 1 + 1 + 1 + 1 + 1 + 1 + 1, 0, none⟩) 4 4, .slice (some ⟨w.heap.size + 1 + 1 + 1 + 1 + 1 + 1 + 1 + 1 + 1 + 1 + 1 + 1 + 1, 0, none⟩) 5 5] := by rw [e14]; exact h13.step [255, 255, 255, 255, 1] _ _ _ s13.symm (by decide) rfl lc14
  clear e14 h13 s13
  obtain ⟨w15, e15⟩ : ∃ x, x = w14.alloc (.cells #[.int .u8 7, .int .u8 1, .int .u8 2, .int .u8 3, .int .u8 4, .int .u8 5, .int .u8 6, .int .u8 7, .int .u8 8, .int .u8 9] 5) := ⟨_, rfl⟩
  rw [← e15]
  have s15 : w15.heap.size = w.heap.size + 1 + 1 + 1 + 1 + 1 + 1 + 1 + 1 + 1 + 1 + 1 + 1 + 1 + 1 + 1 := by rw [e15, size_alloc']; rw [s14]
  have h15 : Laid w w15 [.slice none 0 0, .slice (some ⟨w.heap.size, 0, none⟩) 3 3, .slice (some ⟨w.heap.size + 1, 0, none⟩) 4 4, .slice (some ⟨w.heap.size + 1 + 1, 0, none⟩) 4 4, .slice (some ⟨w.heap.size + 1 + 1 + 1, 0, none⟩) 5 5, .slice (some ⟨w.heap.size + 1 + 1 + 1 + 1, 0, none⟩) 5 5, .slice (some ⟨w.heap.size + 1 + 1 + 1 + 1 + 1, 0, none⟩) 6 6, .slice (some ⟨w.heap.size + 1 + 1 + 1 + 1 + 1 + 1, 0, none⟩) 6 6, .slice (some ⟨w.heap.size + 1 + 1 + 1 + 1 + 1 + 1 + 1, 0, none⟩) 8 8, .slice (some ⟨w.heap.size + 1 + 1 + 1 + 1 + 1 + 1 + 1 + 1, 0, none⟩) 6 6, .slice (some ⟨w.heap.size + 1 + 1 + 1 + 1 + 1 + 1 + 1 + 1 + 1, 0, none⟩) 7 7, .slice (some ⟨w.heap.size + 1 + 1 + 1 + 1 + 1 + 1 + 1 + 1 + 1 + 1, 0, none⟩) 5 5, .slice (some ⟨w.heap.size + 1 + 1 + 1 + 1 + 1 + 1 + 1 + 1 + 1 + 1 + 1, 0, none⟩) 5 5, .slice (some ⟨w.heap.size + 1 + 1 + 1 + 1 + 1 + 1 + 1 + 1 + 1 + 1 + 1 + 1, 0, none⟩) 4 4, .slice (some ⟨w.heap.size + 1 + 1 + 1 + 1 + 1 + 1 + 1 + 1 + 1 + 1 + 1 + 1 + 1, 0, none⟩) 5 5, .slice (some ⟨w.heap.size + 1 + 1 + 1 + 1 + 1 + 1 + 1 + 1 + 1 + 1 + 1 + 1 + 1 + 1, 0, none⟩) 10 10] := by rw [e15]; exact h14.step [7, 1, 2, 3, 4, 5, 6, 7, 8, 9] _ _ _ s14.symm (by decide) rfl lc15
  clear e15 h14 s14
  exact h15.lit rfl (w.heap.size + 1 + 1 + 1 + 1 + 1 + 1 + 1 + 1 + 1 + 1 + 1 + 1 + 1 + 1 + 1) s15.symm

/-- A row of numbers at B. -/
def Nums (w : World) (B : Nat) : Prop := ∀ i, i < 6 → ∃ n, w.cell? ⟨B, i, none⟩ = some (.int .u64 n)
theorem Nums.fresh {w w' : World} {B : Nat} (h : Nums w B) (hb : Below w.heap.size w w') : Nums w' B := fun i hi => by
  obtain ⟨n, hc⟩ := h i hi
  exact ⟨n, (Keeps.ofFresh (S := fun _ => False) hb).cell hc (fun h => h)⟩
theorem nums_new (w : World) (n0 n1 n2 n3 n4 n5 : Int) : Nums (w.alloc (.cells #[.int .u64 n0, .int .u64 n1, .int .u64 n2, .int .u64 n3, .int .u64 n4, .int .u64 n5] 24)) w.heap.size := by
  intro i hi
  rw [cell_of_row _ _ _ _ _ _ (heap_alloc_new w _)]
  match i, hi with
  | 0, _ => exact ⟨_, rfl⟩
  | 1, _ => exact ⟨_, rfl⟩
  | 2, _ => exact ⟨_, rfl⟩
  | 3, _ => exact ⟨_, rfl⟩
  | 4, _ => exact ⟨_, rfl⟩
  | 5, _ => exact ⟨_, rfl⟩

/-- Two new Readers over the same bytes. -/
theorem both_new {w w1 : World} {v : Value} {xs : List UInt8} {a : Nat} {g : Option Nat} (hv : BSl w1 v xs) (hvb : ∀ k, v.ownBlock = some k → k < w.heap.size) (hl : xs.length ≤ 1000000000000) (hr : WR w1 a g xs 0 0) (ha : w.heap.size ≤ a) (hg : ∀ k, g = some k → w.heap.size ≤ k ∧ k < w1.heap.size) (hs : w.heap.size ≤ w1.heap.size) :
    Both (w1.alloc (.cells #[v, .int .i64 0, .bool false, .int .i64 0, .int .i64 0] 30)) a g w1.heap.size v.ownBlock xs xs 0 0 := by
  refine ⟨hr.same ((Keeps.refl _ _).alloc _), ⟨v, 0, false, 0, 0, heap_alloc_new w1 _, hv.alloc _, rfl, fun e => ?_, by simp, hl, .inl ⟨rfl, rfl, rfl⟩⟩, Nat.ne_of_lt hr.lt, fun e => ?_, fun e => ?_, fun _ => rfl⟩
  · have := hvb _ e; omega
  · have := (hg _ e).2; omega
  · have := hvb _ e; omega

set_option maxHeartbeats 3200000 in
set_option maxRecDepth 100000 in
theorem wireNumbers_c (w : World) :
    Calls Try.prog 3 #[] w fun e w' => e = .returned (.bool true) ∧ Below w.heap.size w w' := by
  have HL : Hid (_ ∧ _) := lit_world w
  go_enter Try.func3, Try.ntmps3
  go_wp2_with fail
  generalize hB : w.heap.size + 1 + 1 + 1 + 1 + 1 + 1 + 1 + 1 + 1 + 1 + 1 + 1 + 1 + 1 + 1 = B at *
  go_loopw [28] (fun i wr => ∃ k : Nat, k ≤ 16 ∧ i = .int .i64 k ∧ Below w.heap.size w wr ∧ Lit wr B) (fun i _ => 16 - (intOf i).toNat)
  case atStart => exact ⟨0, by omega, rfl, HL.out.2, HL.out.1⟩
  case round =>
    clear HL
    obtain ⟨wo, ew⟩ : ∃ x, x = wr := ⟨wr, rfl⟩
    subst ew
    obtain ⟨k, hk, rfl, hb, hlit⟩ := hrel
    have HB : Hid (Below w.heap.size w wo) := hb
    have HLit : Hid (Lit wo B) := hlit
    clear hb hlit
    by_cases hlt : k < 16
    · obtain ⟨v, hc, ⟨xs, hx, hxl⟩, ho⟩ := HLit.out k hlt
      have HX : Hid (BSl wo v xs) := hx
      have HO : Hid (∀ k, v.ownBlock = some k → k < wo.heap.size) := ho
      obtain ⟨ao, cap, rfl, h9⟩ := hx
      clear ho h9 hB
      have hlt' : (k : Int) < 16 := by omega
      go_wp2_with fail
      clear hc
      go_loopw [3] (fun i wx => ∃ k : Nat, 1 ≤ k ∧ k ≤ 11 ∧ i = .int .i64 k ∧ Below wo.heap.size wo wx) (fun i _ => 11 - (intOf i).toNat)
      case atStart => exact ⟨1, by omega, by omega, rfl, Below.refl _ _⟩
      case round =>
        obtain ⟨wx, ew⟩ : ∃ x, x = wr := ⟨wr, rfl⟩
        subst ew
        obtain ⟨kd, hkd1, hkd2, rfl, hb2⟩ := hrel
        have HB2 : Hid (Below wo.heap.size wo wx) := hb2
        clear hb2
        by_cases hkd : kd ≤ 10
        · have hkd' : (kd : Int) ≤ 10 := by omega
          go_wp2_with fail
          have HN : Hid (Nums _ _) := nums_new wx 0 1 2 5 9 4294967293
          have HB3 : Hid (Below wo.heap.size wo (wx.alloc (.cells #[.int .u64 0, .int .u64 1, .int .u64 2, .int .u64 5, .int .u64 9, .int .u64 4294967293] 24))) := HB2.out.alloc HB2.out.size _
          generalize wx.heap.size = B2 at *
          generalize wx.alloc (.cells #[.int .u64 0, .int .u64 1, .int .u64 2, .int .u64 5, .int .u64 9, .int .u64 4294967293] 24) = wn at *
          clear HB2
          go_loopw [38] (fun i wy => ∃ k : Nat, k ≤ 6 ∧ i = .int .i64 k ∧ Below wo.heap.size wo wy ∧ Nums wy B2) (fun i _ => 6 - (intOf i).toNat)
          case atStart => exact ⟨0, by omega, rfl, HB3.out, HN.out⟩
          case round =>
            obtain ⟨wy, ew⟩ : ∃ x, x = wr := ⟨wr, rfl⟩
            subst ew
            clear HN HB3
            obtain ⟨kn, hkn, rfl, hb4, hn4⟩ := hrel
            have HB4 : Hid (Below wo.heap.size wo wy) := hb4
            have HN4 : Hid (Nums wy B2) := hn4
            clear hb4 hn4
            by_cases hkn6 : kn < 6
            · have hkn6' : (kn : Int) < 6 := by omega
              obtain ⟨n, hcn⟩ := HN4.out kn hkn6
              go_wp2_with fail
              refine (newReader_d _ xs _ (HX.out.fresh HB4.out) (by omega)).mono ?_
              rintro e w1 ⟨a, g, rfl, hr1, ha, hg, hb5⟩
              have HBO : Hid (Both _ _ _ _ _ _ _ _ _) := both_new (w := wy) (((HX.out.fresh HB4.out)).fresh hb5) (fun k hk => Nat.lt_of_lt_of_le (HO.out k hk) HB4.out.size) (by omega) hr1 ha hg hb5.size
              have HB5 : Hid (Below wy.heap.size wy (w1.alloc (.cells #[.slice ao xs.length cap, .int .i64 0, .bool false, .int .i64 0, .int .i64 0] 30))) := hb5.alloc hb5.size _
              have HA : Hid (wy.heap.size ≤ a) := ha
              have HC : Hid (wy.heap.size ≤ w1.heap.size) := hb5.size
              clear hr1 ha hg hb5 hcn
              go_wp2_with fail
              generalize w1.heap.size = c at *
              generalize w1.alloc (.cells #[.slice ao xs.length cap, .int .i64 0, .bool false, .int .i64 0, .int .i64 0] 30) = w2 at *
              refine (get_c kd HBO.out).mono ?_
              rintro e w3 ⟨rfl, p3, y3, hbo3, hkp3, _⟩
              have HB3 : Hid (Below wy.heap.size wy w3) := HB5.out.trans (keeps_below hkp3 HBO.out.one.lt HA.out HC.out)
              have HBO3 : Hid (Both w3 _ _ _ _ _ _ _ _) := hbo3
              clear hbo3 hkp3 HBO HB5
              go_wp2_with fail
              refine (same_c _ HBO3.out).mono ?_
              rintro e w4 ⟨rfl, hk4⟩
              have HBO4 : Hid (Both w4 _ _ _ _ _ _ _ _) := HBO3.out.same hk4
              have HB4' : Hid (Below wy.heap.size wy w4) := HB3.out.trans (hk4.below HB3.out.size fun _ h => h.elim)
              clear hk4 HBO3 HB3
              go_wp2_with fail
              refine (get_c 1 HBO4.out).mono ?_
              rintro e w5 ⟨rfl, p5, y5, hbo5, hkp5, _⟩
              have HB6 : Hid (Below wy.heap.size wy w5) := HB4'.out.trans (keeps_below hkp5 HBO4.out.one.lt HA.out HC.out)
              have HBO5 : Hid (Both w5 _ _ _ _ _ _ _ _) := hbo5
              clear hbo5 hkp5 HBO4 HB4'
              go_wp2_with fail
              refine (same_c _ HBO5.out).mono ?_
              rintro e w6 ⟨rfl, hk6⟩
              have HB7 : Hid (Below wy.heap.size wy w6) := HB6.out.trans (hk6.below HB6.out.size fun _ h => h.elim)
              clear hk6 HBO5 HB6
              go_wp2
              go_roundw
              case rel => exact ⟨kn + 1, by omega, by go_num, HB4.out.trans (HB7.out.mono HB4.out.size), HN4.out.fresh HB7.out⟩
              case measure => simp [intOf]; omega
            · have hkn6' : ¬ (kn : Int) < 6 := by omega
              go_wp2
              go_roundw
              case rel => exact ⟨kd + 1, by omega, by omega, by go_num, HB4.out⟩
              case measure => simp [intOf]; omega
        · have hkd' : ¬ (kd : Int) ≤ 10 := by omega
          go_wp2
          go_roundw
          case rel => exact ⟨k + 1, by omega, by go_num, HB.out.trans (HB2.out.mono HB.out.size), HLit.out.fresh HB2.out⟩
          case measure => simp [intOf]; omega
    · have hlt' : ¬ (k : Int) < 16 := by omega
      go_wp2_with fail
      have hv1 : BSl (wo.alloc (.cells #[.int .u8 1, .int .u8 2] 5)) (.slice (some ⟨wo.heap.size, 0, none⟩) 2 2) [1, 2] := by simpa [bcells] using bsl_lit wo [1, 2] (by simp)
      have HB2 : Hid (Below w.heap.size w (wo.alloc (.cells #[.int .u8 1, .int .u8 2] 5))) := HB.out.alloc HB.out.size _
      clear HB HLit
      refine (newReader_d _ [1, 2] _ hv1 (by simp)).mono ?_
      rintro e w1 ⟨a, g, rfl, hr1, ha, hg, hb5⟩
      have HB3 : Hid (Below w.heap.size w w1) := HB2.out.trans (hb5.mono HB2.out.size)
      have HA : Hid (w.heap.size ≤ a) := Nat.le_trans HB2.out.size ha
      clear ha hg hb5 hv1 HB2
      go_wp2_with fail
      refine (byte_r _ hr1).mono ?_
      rintro e w2 ⟨rfl, ht2⟩
      rw [show tk [1, 2] 0 0 1 = ([1], 1, 0) from rfl] at ht2 ⊢
      go_wp2_with fail
      refine (fail_r 0 _ ht2.state).mono ?_
      rintro e w3 ⟨rfl, ht3⟩
      have ht3' : Took a g [1, 2] 1 0 w2 w3 := ht3
      go_wp2_with fail
      refine (fail_r 27 _ ht3'.state).mono ?_
      rintro e w4 ⟨rfl, ht4⟩
      have ht4' : Took a g [1, 2] 1 27 w3 w4 := ht4
      go_wp2_with fail
      refine (fail_r 23 _ ht4'.state).mono ?_
      rintro e w5 ⟨rfl, ht5⟩
      have ht5' : Took a g [1, 2] 1 27 w4 w5 := ht5
      have HT : Hid (Took a g [1, 2] 1 27 w1 w5) := ((ht2.trans ht3').trans ht4').trans ht5'
      clear ht2 ht3 ht3' ht4 ht4' ht5 ht5' hr1
      go_wp2_with fail
      refine (end_r _ HT.out.state).mono ?_
      rintro e w6 ⟨rfl, hk6⟩
      rw [show ends [1, 2] 1 27 = (27, 1) from rfl]
      go_wp2_with fail
      refine (left_c _ (HT.out.state.same hk6)).mono ?_
      rintro e w7 ⟨rfl, hk7⟩
      rw [show lft [1, 2] 1 27 = 0 from rfl]
      go_wp2_with fail
      refine (known_c _).mono ?_
      rintro e w8 ⟨rfl, hb8⟩
      have HB5 : Hid (Below w.heap.size w w5) := HB3.out.trans (HT.out.keeps.below HB3.out.size fun _ e => e ▸ HA.out)
      have HB8 : Hid (Below w.heap.size w w8) := ((HB5.out.trans (hk6.below HB5.out.size fun _ h => h.elim)).trans (hk7.below (Nat.le_trans HB5.out.size hk6.size) fun _ h => h.elim)).trans (hb8.mono (Nat.le_trans HB5.out.size (Nat.le_trans hk6.size hk7.size)))
      go_wp2
      go_ret
      exact ⟨rfl, HB8.out⟩
end Go.Proofs.Ytmecclefkgbmpaa
