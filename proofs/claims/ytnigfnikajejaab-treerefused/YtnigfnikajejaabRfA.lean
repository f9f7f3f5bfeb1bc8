/- What the document's own writers answer: Byte, Bool, U32, U64, Text. -/
import Derived.Test.YtnigfnikajejaabWrE
namespace Go.Proofs.Ytnigfnikajejaab
open Go Go.RowKit

theorem srcBlock {W : World} {B : Nat} {xs : List UInt8} {cs : Array Value} (hcs : cs = (bcells xs).toArray) (hb : W.heap[B]? = some (.cells cs 5 (0, 0))) : Src Try.prog 1 28 (.slice (some ⟨B, 0, none⟩) xs.length xs.length) xs.length (bcells xs) W := by
  subst hcs
  exact Src.ofSlice _ Try.underlying28 ⟨B, 0, none⟩ _ _ _ (by simp [bcells_length]) (World.news_of_block (t := 5) (fr := (0, 0)) hb) bcells_one

theorem be4_cells (n : Nat) (h : n < 4294967296) : (#[.int .u8 ((n : Int) / 16777216), .int .u8 ((n : Int) / 65536 % 256), .int .u8 ((n : Int) / 256 % 256), .int .u8 ((n : Int) % 256)] : Array Value) = (bcells (be 4 n)).toArray := by
  simp [be, bcells]
  omega

/-- What a call answers that makes a byte slice: fresh, it reads as xs; what was there stays. -/
def Fresh (w : World) (xs : List UInt8) (e : Ending) (w' : World) : Prop :=
  ∃ v', e = .returned v' ∧ w'.ownsRow w.heap.size 5 1 v' xs.length (bcells xs) ∧ Below w.heap.size w w'




theorem be8_split (n : Nat) : be 8 n = be 4 (n / 4294967296) ++ be 4 (n % 4294967296) := by
  simp only [be, List.cons_append, List.nil_append, List.cons.injEq, and_true, Nat.reducePow]
  refine ⟨congrArg _ ?_, congrArg _ ?_, congrArg _ ?_, congrArg _ ?_, congrArg _ ?_, congrArg _ ?_, congrArg _ ?_, congrArg _ ?_⟩ <;> omega

theorem Fresh.next {w w1 : World} (hb : Below w.heap.size w w1) {ys : List UInt8} {e : Ending} {w2 : World} (h2 : Fresh w1 ys e w2) : Fresh w ys e w2 := by
  obtain ⟨v', rfl, h3, h4⟩ := h2
  refine ⟨v', rfl, ⟨h3.1, ?_⟩, hb.trans (h4.mono hb.size)⟩
  rcases h3.2 with h5 | ⟨g, cap, cur, h6, h7, rest⟩
  · exact .inl h5
  · exact .inr ⟨g, cap, cur, h6, Nat.le_trans hb.size h7, rest⟩



end Go.Proofs.Ytnigfnikajejaab
