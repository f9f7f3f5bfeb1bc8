/- What the document's own writers answer: Byte, Bool, U32, U64, Text. -/
import Derived.Test.YtkbfgfpdchgjpaaWrE
namespace Go.Proofs.Ytkbfgfpdchgjpaa
open Go Go.RowKit

theorem srcBlock {W : World} {B : Nat} {xs : List UInt8} {cs : Array Value} (hcs : cs = (bcells xs).toArray) (hb : W.heap[B]? = some (.cells cs 5 (0, 0))) : Src Try.prog 1 27 (.slice (some ⟨B, 0, none⟩) xs.length xs.length) xs.length (bcells xs) W := by
  subst hcs
  exact Src.ofSlice _ Try.underlying27 ⟨B, 0, none⟩ _ _ _ (by simp [bcells_length]) (World.news_of_block (t := 5) (fr := (0, 0)) hb) bcells_one

theorem be4_cells (n : Nat) (h : n < 4294967296) : (#[.int .u8 ((n : Int) / 16777216), .int .u8 ((n : Int) / 65536 % 256), .int .u8 ((n : Int) / 256 % 256), .int .u8 ((n : Int) % 256)] : Array Value) = (bcells (be 4 n)).toArray := by
  simp [be, bcells]
  omega

/-- What a call answers that makes a byte slice: fresh, it reads as xs; what was there stays. -/
def Fresh (w : World) (xs : List UInt8) (e : Ending) (w' : World) : Prop :=
  ∃ v', e = .returned v' ∧ w'.ownsRow w.heap.size 5 1 v' xs.length (bcells xs) ∧ Below w.heap.size w w'



set_option maxHeartbeats 400000 in
set_option maxRecDepth 100000 in
theorem ru32_c (n : Int) (h0 : 0 ≤ n) (h1 : n < 4294967296) (v : Value) (xs : List UInt8) (w : World) (hv : BSl w v xs) (hl : xs.length + 4 ≤ 140737488355328) :
    Calls Try.prog 23 #[v, .int .u32 n] w fun e w' => Fresh w (xs ++ be 4 n.toNat) e w' := by
  obtain ⟨n, rfl⟩ := Int.eq_ofNat_of_zero_le h0
  rw [Int.toNat_natCast]
  obtain ⟨i0, hi, hz0, hz1, hz2⟩ := info_parts Try.infoU8
  have hsrc := (hv.alloc (.cells #[] 5)).src
  go_enter Try.func23, Try.ntmps23
  go_wp2_with (at_builtin; refine wpList_append_src _ rfl (.tmp 5) (.tmp 6) 27 27 rfl w.heap.size 5 i0 _ 1 Try.underlying27 hi hz0 hz1 hz2 rfl _ _ _ rfl (World.ownsRow_made w #[] 0 (Nat.le_refl _) (Nat.zero_le _) rfl) _ xs.length (bcells xs) rfl hsrc (by unfold maxLen; omega) (by omega) (by simp) (w.heap.size + 1) (by simp) ?_)
  intro v1 w1 hown1 hgrow1 hnil1 hat1
  have hb1 : Below w.heap.size w w1 := ((Below.refl _ w).alloc (Nat.le_refl _) _).grown hgrow1 (by simp) (by intro k hk; simp [Value.ownBlock] at hk; omega)
  have hown2 : w1.ownsRow w.heap.size 5 1 v1 xs.length (bcells xs) := by simpa using hown1
  clear hown1 hgrow1 hnil1 hat1 hsrc
  have hs1 := hb1.size
  go_wp2_with (at_builtin; refine wpList_append_src _ rfl (.tmp 7) (.tmp 19) 27 27 rfl w.heap.size 5 i0 _ 1 Try.underlying27 hi hz0 hz1 hz2 rfl _ _ _ rfl (hown2.alloc _) _ 4 (bcells (be 4 n)) rfl ?qs (by unfold maxLen; omega) (by omega) (by simp; omega) (w1.heap.size + 1) (by simp) ?_)
  case qs => exact srcBlock (xs := be 4 n) (be4_cells n (by omega)) (heap_alloc_new w1 _)
  intro v2 w2 hown3 hgrow3 hnil3 hat3
  have hb2 : Below w.heap.size w w2 := (hb1.alloc hs1 _).grown hgrow3 (by simp; omega) (fun k hk => (hown2.lt k hk).1)
  clear hgrow3 hnil3 hat3
  go_wp2
  go_ret
  exact ⟨v2, rfl, by rw [List.length_append, be_length, bcells_append]; exact hown3, hb2⟩

theorem be8_split (n : Nat) : be 8 n = be 4 (n / 4294967296) ++ be 4 (n % 4294967296) := by
  simp only [be, List.cons_append, List.nil_append, List.cons.injEq, and_true, Nat.reducePow]
  refine ⟨congrArg _ ?_, congrArg _ ?_, congrArg _ ?_, congrArg _ ?_, congrArg _ ?_, congrArg _ ?_, congrArg _ ?_, congrArg _ ?_⟩ <;> omega

theorem Fresh.next {w w1 : World} (hb : Below w.heap.size w w1) {ys : List UInt8} {e : Ending} {w2 : World} (h2 : Fresh w1 ys e w2) : Fresh w ys e w2 := by
  obtain ⟨v', rfl, h3, h4⟩ := h2
  refine ⟨v', rfl, ⟨h3.1, ?_⟩, hb.trans (h4.mono hb.size)⟩
  rcases h3.2 with h5 | ⟨g, cap, cur, h6, h7, rest⟩
  · exact .inl h5
  · exact .inr ⟨g, cap, cur, h6, Nat.le_trans hb.size h7, rest⟩

set_option maxHeartbeats 400000 in
theorem ru64_c (n : Int) (h0 : 0 ≤ n) (h1 : n < 18446744073709551616) (v : Value) (xs : List UInt8) (w : World) (hv : BSl w v xs) (hl : xs.length + 8 ≤ 140737488355328) :
    Calls Try.prog 24 #[v, .int .u64 n] w fun e w' => Fresh w (xs ++ be 8 n.toNat) e w' := by
  obtain ⟨n, rfl⟩ := Int.eq_ofNat_of_zero_le h0
  rw [Int.toNat_natCast]
  go_enter Try.func24, Try.ntmps24
  go_wp2_with fail
  refine (ru32_c _ (by omega) (by omega) v xs _ hv (by omega)).mono ?_
  rintro e w1 ⟨v1, rfl, ho1, hb1⟩
  go_wp2_with fail
  refine (ru32_c _ (by omega) (by omega) _ _ _ (BSl.ofRow ho1) (by simp [be_length]; omega)).mono ?_
  rintro e w2 hf2
  obtain ⟨v2, rfl, ho2, hb2⟩ := Fresh.next hb1 hf2
  go_wp2
  go_ret
  refine ⟨v2, rfl, ?_, hb2⟩
  rw [be8_split, ← List.append_assoc]
  exact ho2


end Go.Proofs.Ytkbfgfpdchgjpaa
