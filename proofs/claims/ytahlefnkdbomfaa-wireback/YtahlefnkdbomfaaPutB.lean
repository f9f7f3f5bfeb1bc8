/- What short does. -/
import Derived.Test.YtahlefnkdbomfaaPut
namespace Go.Proofs.Ytahlefnkdbomfaa
open Go Go.RowKit

/-- A part, as a value. -/
def part (k n : Int) (s : ByteArray) (l : Value) : Value := .agg #[.int .i64 k, .int .u64 n, .string s, l]

set_option maxHeartbeats 800000 in
set_option maxRecDepth 100000 in
theorem short_c (k n : Int) (s : ByteArray) (l : Value) (ss : List ByteArray) (w : World) (hl : SSl w l ss) :
    Calls Try.prog 5 #[part k n s l] w fun e w' => ∃ l', e = .returned (part k n (s.extract 0 200) l') ∧ SSl w' l' (few ss) ∧ (∀ j, l'.ownBlock = some j → w.heap.size ≤ j) ∧ Below w.heap.size w w' := by
  obtain ⟨ao, cap, rfl, _⟩ := id hl
  unfold part
  go_enter Try.func5, Try.ntmps5
  go_wp2_with fail
  refine (head_c s 200 (by omega) _).mono ?_
  rintro e w' ⟨rfl, rfl⟩
  have hl2 : SSl ((w.alloc (.cells #[.int .i64 k, .int .u64 n, .string (s.extract 0 200), .slice ao ss.length cap] 28)).alloc (.cells #[.int .i64 0, .int .u64 0, .string ⟨#[]⟩, .slice none 0 0] 28)) (.slice ao ss.length cap) ss :=
    hl.keep (S := fun _ => False) (((Keeps.refl _ _).alloc _).alloc _) fun _ _ h => h
  go_wp2_with fail
  refine (few_c _ ss _ hl2).mono ?_
  rintro e w1 ⟨v1, rfl, ho1, hb1⟩
  have hA : w1.heap[w.heap.size]? = some (.cells #[.int .i64 k, .int .u64 n, .string (s.extract 0 200), .slice ao ss.length cap] 28 (0, 0)) := by
    rw [hb1.block _ (by simp; omega), Below.heap_alloc _ _ _ (by simp)]
    exact heap_alloc_new w _
  have hB : w1.heap[w.heap.size + 1]? = some (.cells #[.int .i64 0, .int .u64 0, .string ⟨#[]⟩, .slice none 0 0] 28 (0, 0)) := by
    rw [hb1.block _ (by simp)]
    have := heap_alloc_new (w.alloc (.cells #[.int .i64 k, .int .u64 n, .string (s.extract 0 200), .slice ao ss.length cap] 28)) (.cells #[.int .i64 0, .int .u64 0, .string ⟨#[]⟩, .slice none 0 0] 28)
    simpa using this
  have hA0 := cell_of_row w1 _ 0 _ _ _ hA
  have hA1 := cell_of_row w1 _ 1 _ _ _ hA
  have hA2 := cell_of_row w1 _ 2 _ _ _ hA
  have hA3 := cell_of_row w1 _ 3 _ _ _ hA
  have hB0 := cell_of_row w1 _ 0 _ _ _ hB
  have hB1 := cell_of_row w1 _ 1 _ _ _ hB
  have hB2 := cell_of_row w1 _ 2 _ _ _ hB
  have hB3 := cell_of_row w1 _ 3 _ _ _ hB
  have fA : ∀ j, w1.frozen? ⟨w.heap.size, j, none⟩ = false := fun j => by simp [World.frozen?, hA]
  have fB : ∀ j, w1.frozen? ⟨w.heap.size + 1, j, none⟩ = false := fun j => by simp [World.frozen?, hB]
  have hsz := hb1.size
  have hb2 : Below w.heap.size w w1 := (((Below.refl _ w).alloc (Nat.le_refl _) _).alloc (by simp) _).trans (hb1.mono (by simp; omega))
  obtain ⟨ao1, cp1, rfl⟩ := ownsRow_shape ho1
  simp at hA0 hA1 hA2 hA3 hB0 hB1 hB2 hB3 hsz
  have HO : Hid (w1.ownsRow _ 9 1 _ _ _) := ho1
  have HB1 : Hid (Below _ _ w1) := hb1
  have HB2 : Hid (Below w.heap.size w w1) := hb2
  clear ho1 hb1 hb2 hA hB hl hl2
  go_wp2
  have hlt : ∀ j, (Value.slice ao1 (few ss).length cp1).ownBlock = some j → w.heap.size + 2 ≤ j := fun j hj => by have := (HO.out.lt j hj).1; simp at this; omega
  refine bodyPost_ret (v := .agg #[.int .i64 k, .int .u64 n, .string (s.extract 0 200), .slice ao1 (few ss).length cp1]) (by simp [results, Try.results5, go_sem, hB0, hB1, hB2, hB3]) rfl ⟨_, rfl, ?_, fun j hj => by have := hlt j hj; omega, ?_⟩
  · refine (SSl.ofRow HO.out).keep (S := fun k => k = w.heap.size ∨ k = w.heap.size + 1) ?_ (fun j hj => by have := hlt j hj; omega)
    exact (((((Keeps.refl _ _).setCell (.inl (.inl rfl)) _).setCell (.inl (.inr rfl)) _).setCell (.inl (.inr rfl)) _).setCell (.inl (.inr rfl)) _).setCell (.inl (.inr rfl)) _
  · exact ((((HB2.out.setCell (Nat.le_refl _) _).setCell (Nat.le_succ _) _).setCell (Nat.le_succ _) _).setCell (Nat.le_succ _) _).setCell (Nat.le_succ _) _

end Go.Proofs.Ytahlefnkdbomfaa
