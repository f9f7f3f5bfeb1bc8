/- Attributes in memory; Right, both sides. -/
import Derived.Test.YtnigfnikajejaabAtP
import Derived.Test.YtnigfnikajejaabKpW
namespace Go.Proofs.Ytnigfnikajejaab
open Go Go.RowKit


def At.cells (x : At) : Array Value := #[.int .u32 x.f, .int .u64 x.s, .int .u32 x.u, .int .u32 x.g, .int .u32 x.m, .int .u32 x.a, .int .u32 x.t]
def At.v (x : At) : Value := .agg x.cells
theorem and_bit (n k : Nat) (hn : n ≤ 4294967295) (hk : k = 1 ∨ k = 2 ∨ k = 4 ∨ k = 8) : bits BinOp.and IntKind.u32 (n : Int) (k : Int) = if bt k n then (k : Int) else 0 := by
  rw [u32_and_nat n k (by omega) (by omega)]
  rcases hk with rfl | rfl | rfl | rfl
  · rw [nat_bit 0 n]; unfold bt; split <;> simp_all
  · rw [nat_bit 1 n]; unfold bt; split <;> simp_all
  · rw [nat_bit 2 n]; unfold bt; split <;> simp_all
  · rw [nat_bit 3 n]; unfold bt; split <;> simp_all
/-- The tests of a bit, as they are written. -/
structure Bits (n : Nat) (b1 b2 b4 b8 : Bool) : Prop where
  e1 : (bits BinOp.and IntKind.u32 (n : Int) 1 == 0) = !b1
  e2 : (bits BinOp.and IntKind.u32 (n : Int) 2 == 0) = !b2
  e4 : (bits BinOp.and IntKind.u32 (n : Int) 4 == 0) = !b4
  e8 : (bits BinOp.and IntKind.u32 (n : Int) 8 == 0) = !b8
  n1 : (bits BinOp.and IntKind.u32 (n : Int) 1 != 0) = b1
  n2 : (bits BinOp.and IntKind.u32 (n : Int) 2 != 0) = b2
  n4 : (bits BinOp.and IntKind.u32 (n : Int) 4 != 0) = b4
  n8 : (bits BinOp.and IntKind.u32 (n : Int) 8 != 0) = b8
theorem bits_of (n : Nat) (hn : n ≤ 4294967295) : Bits n (bt 1 n) (bt 2 n) (bt 4 n) (bt 8 n) := by
  have h1 := and_bit n 1 hn (.inl rfl)
  have h2 := and_bit n 2 hn (.inr (.inl rfl))
  have h4 := and_bit n 4 hn (.inr (.inr (.inl rfl)))
  have h8 := and_bit n 8 hn (.inr (.inr (.inr rfl)))
  simp only [Int.cast_ofNat_Int] at h1 h2 h4 h8
  refine ⟨?_, ?_, ?_, ?_, ?_, ?_, ?_, ?_⟩
  · rw [h1]; cases bt 1 n <;> rfl
  · rw [h2]; cases bt 2 n <;> rfl
  · rw [h4]; cases bt 4 n <;> rfl
  · rw [h8]; cases bt 8 n <;> rfl
  · rw [h1]; cases bt 1 n <;> rfl
  · rw [h2]; cases bt 2 n <;> rfl
  · rw [h4]; cases bt 4 n <;> rfl
  · rw [h8]; cases bt 8 n <;> rfl

end Go.Proofs.Ytnigfnikajejaab
