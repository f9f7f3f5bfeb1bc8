/- Bytes that are held: a row that may begin anywhere in its block; what append makes of it. -/
import Derived.Test.YthkaibkmpenclaaDoorPkH
namespace Go.Proofs.YthkaibkmpenclaaDoor
open Go Go.RowKit

/-- The slice hv holds xs, in block h of its own (h = g: in none). -/
def Row (w : World) (g h : Nat) (hv : Value) (xs : List UInt8) : Prop :=
  (hv = .slice none 0 0 ∧ xs = [] ∧ h = g) ∨
  (h ≠ g ∧ ∃ off cap cur, hv = .slice (some ⟨h, off, none⟩) xs.length cap ∧ w.heap[h]? = some (.cells cur 5 (0, 0)) ∧ off + cap ≤ cur.size ∧ xs.length ≤ cap ∧ cap ≤ maxLen ∧ (cur.toList.drop off).take xs.length = bcells xs)
theorem Row.keep {S : Nat → Prop} {w w' : World} {g h : Nat} {hv : Value} {xs : List UInt8} (r : Row w g h hv xs) (hk : Keeps S w w') (hn : h ≠ g → ¬ S h) : Row w' g h hv xs := by
  rcases r with r | ⟨hne, off, cap, cur, h1, h2, h3⟩
  · exact .inl r
  · exact .inr ⟨hne, off, cap, cur, h1, (hk.block h (lt_of_block h2) (hn hne)).trans h2, h3⟩
theorem Row.len {w : World} {g h : Nat} {hv : Value} {xs : List UInt8} (r : Row w g h hv xs) : ∃ ao cap, hv = .slice ao xs.length cap := by
  rcases r with ⟨rfl, rfl, _⟩ | ⟨_, off, cap, cur, rfl, _⟩
  · exact ⟨none, 0, rfl⟩
  · exact ⟨_, _, rfl⟩
theorem Row.bsl {w : World} {g h : Nat} {hv : Value} {xs : List UInt8} (r : Row w g h hv xs) : BSl w hv xs := by
  rcases r with ⟨rfl, rfl, _⟩ | ⟨_, off, cap, cur, rfl, h2, h3, h4, h5, h6⟩
  · exact bsl_none w
  · refine ⟨_, cap, rfl, h4, h5, (fun e => by cases e), fun ad e _ => ⟨h, off, by cases e; rfl, fun j u hu => ?_⟩⟩
    rw [cell_row (cs := cur.toList) (by simpa using h2)]
    rw [← h6, List.getElem?_take, List.getElem?_drop] at hu
    split at hu
    · exact hu
    · cases hu
theorem Row.blk {w : World} {g h : Nat} {hv : Value} {xs : List UInt8} (r : Row w g h hv xs) : ∀ k, hv.ownBlock = some k → k = h ∧ h ≠ g := by
  rcases r with ⟨rfl, _⟩ | ⟨hne, off, cap, cur, rfl, _⟩
  · intro k e; simp [Value.ownBlock] at e
  · intro k e; simp [Value.ownBlock] at e; exact ⟨e.symm, hne⟩
theorem Row.ltS {w : World} {g h : Nat} {hv : Value} {xs : List UInt8} (r : Row w g h hv xs) (hg : g < w.heap.size) : h < w.heap.size := by
  rcases r with ⟨_, _, rfl⟩ | ⟨hne, off, cap, cur, rfl, h2, _⟩
  · exact hg
  · exact lt_of_block h2
theorem Row.ofOwns {w : World} {base g : Nat} {v : Value} {n : Nat} {xs : List UInt8} (h : w.ownsRow base 5 1 v n (bcells xs)) (hn : n = xs.length) (hg : g < base) : ∃ h', Row w g h' v xs ∧ (h' = g ∨ base ≤ h') := by
  subst hn
  rcases h.2 with ⟨rfl, h1⟩ | ⟨k, cap, cur, rfl, h1, h2, h3, h4, h5, h6⟩
  · have : xs = [] := List.eq_nil_of_length_eq_zero h1
    subst this
    exact ⟨g, .inl ⟨rfl, rfl, rfl⟩, .inl rfl⟩
  · exact ⟨k, .inr ⟨by omega, 0, cap, cur, rfl, h2, by omega, h3, h4, by simpa using h6⟩, .inr h1⟩
theorem run_append_row (w : World) {g h : Nat} {hv : Value} {xs : List UInt8} (r : Row w g h hv xs) (hgl : g < w.heap.size) (ty tx : TypeId) (x : Value) (ys : List UInt8) (hs : Src Tryd.prog 1 tx x ys.length (bcells ys) w) (hl : xs.length + ys.length ≤ 1000000) :
    ∃ v' w' h', (Builtin.append_ #[22, tx] ty #[hv, x]).run Tryd.prog w = .ok v' w' ∧ Row w' g h' v' (xs ++ ys) ∧ Keeps (fun k => k = h ∧ h ≠ g) w w' ∧ (h' = h ∨ w.heap.size ≤ h') := by
  obtain ⟨i0, hi, hz0, hz1, hz2⟩ := info_parts Tryd.infoU8
  have ht := Tryd.underlying22
  rcases r with ⟨rfl, rfl, rfl⟩ | ⟨hne, off, cap, cur, rfl, h2, h3, h4, h5, h6⟩
  · obtain ⟨v', w', hr, ho, hgr, _⟩ := run_append_src (P := Tryd.prog) w w.heap.size 22 tx ty 5 i0 _ 1 ht hi hz0 hz1 hz2 rfl (.slice none 0 0) 0 [] (World.ownsRow_nil _ _ _ _) x ys.length (bcells ys) hs (by unfold maxLen; simp at hl; omega) (by simp at hl; omega) (Nat.le_refl _)
    rw [List.nil_append] at ho
    obtain ⟨h', hR, hh⟩ := Row.ofOwns (g := h) ho (by omega) hgl
    refine ⟨v', w', h', hr, by simpa using hR, ⟨hgr.os, hgr.tape, hgr.output, hgr.size, fun k hk _ => hgr.block k hk (by simp [Value.ownBlock])⟩, hh⟩
  · have hone : i0.size = 1 := hz1
    have hnl : (bcells ys).length = ys.length := bcells_length ys
    have hsi : Src Tryd.prog i0.size tx x ys.length (bcells ys) w := by rw [hone]; exact hs
    by_cases hroom : xs.length + ys.length ≤ cap
    · have hfit : (off + xs.length) + (bcells ys).length ≤ cur.size := by rw [hnl]; omega
      have hst := run_storeCells_at Tryd.prog h (off + xs.length) 5 (bcells ys) 0 cur w h2 (by simpa using hfit) hs.one
      simp only [Nat.add_zero] at hst
      have hr : (Builtin.append_ #[22, tx] ty #[.slice (some ⟨h, off, none⟩) xs.length cap, x]).run Tryd.prog w = .ok (.slice (some ⟨h, off, none⟩) (xs.length + ys.length) cap) (w.setRow h (cur.toList.take (off + xs.length) ++ bcells ys ++ cur.toList.drop (off + xs.length + (bcells ys).length)).toArray) := by
        rcases hs.kind with ⟨e', hk⟩ | hk <;> simp [Builtin.append_, run_underlying ht, run_underlying hk, sizeOf, typeInfo, hi, hs.len, hroom, hs.cells, add_lit', hone, hst]
      refine ⟨_, _, h, hr, .inr ⟨hne, off, cap, _, by rw [List.length_append], setRow_heap w h cur _ 5 _ h2, ?_, by rw [List.length_append]; exact hroom, h5, ?_⟩, ?_, .inl rfl⟩
      · simp only [List.size_toArray, List.length_append, List.length_take, List.length_drop, Array.length_toList]
        omega
      · have hA : (cur.toList.take (off + xs.length)).drop off = bcells xs := by rw [← h6, List.drop_take, Nat.add_sub_cancel_left]
        have hAl : (cur.toList.take (off + xs.length)).length = off + xs.length := by simp; omega
        rw [List.append_assoc, List.drop_append, hA, hAl, show off - (off + xs.length) = 0 by omega, List.drop_zero, ← List.append_assoc, ← bcells_append]
        rw [← bcells_length (xs ++ ys)]
        exact List.take_left
      · exact ⟨rfl, rfl, rfl, by simp, fun k _ hn => setRow_other w h k _ (fun e => hn ⟨e, hne⟩)⟩
    · have hcell : ∀ (j : Nat) (u : Value), (bcells xs)[j]? = some u → w.cell? ((⟨h, off, none⟩ : Addr).add j) = some u := by
        intro j u hu
        rw [add_lit', cell_row (cs := cur.toList) (by simpa using h2)]
        rw [← h6, List.getElem?_take, List.getElem?_drop] at hu
        split at hu
        · exact hu
        · cases hu
      have hold := run_firstCells_some (P := Tryd.prog) w.drew i0.size xs.length ⟨h, off, none⟩ xs.length cap (bcells xs) (by rw [hone, bcells_length]; omega) (by simpa using hcell)
      have hr := run_append_grow_src (P := Tryd.prog) w 22 tx ty 5 i0 (.int .u8 0) ht hi hz0 (some ⟨h, off, none⟩) xs.length cap (bcells xs) hold x ys.length (bcells ys) hsi (by omega) (by omega) (growslice_fits (by omega) (by rw [hz2]; omega))
      have hge := grownCap_ge w (xs.length + ys.length) cap 5
      have hcm : grownCap w (xs.length + ys.length) cap 5 ≤ maxLen := grownCap_le_maxLen w (xs.length + ys.length) cap _ (by unfold maxLen; omega)
      refine ⟨_, _, w.heap.size, hr, .inr ⟨by omega, 0, _, _, by rw [List.length_append], heap_alloc_new w.drew _, ?_, ?_, hcm, ?_⟩, ?_, .inr (Nat.le_refl _)⟩
      · simp only [Array.size_append, List.size_toArray, size_zeroCells, List.length_append, bcells_length]
        simp [Value.cells]
        omega
      · rw [List.length_append]; exact hge
      · rw [← bcells_append]
        simp only [Array.toList_append, List.drop_zero]
        rw [← bcells_length (xs ++ ys)]
        exact List.take_left
      · exact ⟨rfl, rfl, rfl, by simp, fun k hk _ => Below.heap_alloc w.drew _ k hk⟩
end Go.Proofs.YthkaibkmpenclaaDoor
