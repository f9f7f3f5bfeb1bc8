/- What take and number answer, whatever the Reader's state. -/
import Derived.Test.YtnigfnikajejaabRdA
namespace Go.Proofs.Ytnigfnikajejaab
open Go Go.RowKit

/-- The number whose bytes, the highest first, are xs, behind m. -/
def valFrom (m : Nat) : List UInt8 → Nat
  | [] => m
  | x :: xs => valFrom (m * 256 + x.toNat) xs
def val (xs : List UInt8) : Nat := valFrom 0 xs

theorem or_byte (m : Nat) (x : UInt8) (h : m * 256 < 18446744073709551616) : bits BinOp.or IntKind.u64 ((m : Int) * 256) (IntKind.u64.wrap (x.toNat : Int)) = ((m * 256 + x.toNat : Nat) : Int) := by
  have hx := x.toNat_lt
  have e1 : IntKind.u64.wrap (x.toNat : Int) = (x.toNat : Int) := by simp [IntKind.wrap, IntKind.bits, IntKind.signed]; omega
  rw [e1, show ((m : Int) * 256) = ((m * 256 : Nat) : Int) from by omega, u64_or_nat _ _ h (by omega)]
  congr 1
  have := Nat.shiftLeft_add_eq_or_of_lt (i := 8) (b := x.toNat) (by omega) m
  rw [Nat.shiftLeft_eq] at this
  exact this.symm

theorem or_byte0 (x : UInt8) : bits BinOp.or IntKind.u64 0 (IntKind.u64.wrap (x.toNat : Int)) = ((x.toNat : Nat) : Int) := by simpa using or_byte 0 x (by omega)
theorem pow_first (x : UInt8) (xs : List UInt8) (h : xs.length + 1 ≤ 8) : x.toNat < 256 ^ (8 - xs.length) := by
  have hx := x.toNat_lt
  calc x.toNat < 256 ^ 1 := by omega
    _ ≤ 256 ^ (8 - xs.length) := Nat.pow_le_pow_right (by omega) (by omega)
theorem pow_next (m : Nat) (xs : List UInt8) (h : xs.length + 1 ≤ 8) (hm : m < 256 ^ (8 - (xs.length + 1))) : m * 256 + 255 < 18446744073709551616 := by
  have h1 : 256 ^ (8 - (xs.length + 1)) ≤ 256 ^ 7 := Nat.pow_le_pow_right (by omega) (by omega)
  have : m < 256 ^ 7 := Nat.lt_of_lt_of_le hm h1
  omega
theorem pow_step (m : Nat) (x : UInt8) (xs : List UInt8) (h : xs.length + 1 ≤ 8) (hm : m < 256 ^ (8 - (xs.length + 1))) : m * 256 + x.toNat < 256 ^ (8 - xs.length) := by
  have hx := x.toNat_lt
  have e : 8 - xs.length = (8 - (xs.length + 1)) + 1 := by omega
  rw [e, Nat.pow_succ]
  omega

theorem BSl.tailA {w : World} {b off cap : Nat} {x : UInt8} {xs : List UInt8} (h : BSl w (.slice (some ⟨b, off, none⟩) (x :: xs).length cap) (x :: xs)) (hc : cap = 1) : BSl w (.slice (some ⟨b, off, none⟩) xs.length 0) xs := by
  have := h.tail.1
  simpa [hc] using this
theorem BSl.tailB {w : World} {b off cap : Nat} {x : UInt8} {xs : List UInt8} (h : BSl w (.slice (some ⟨b, off, none⟩) (x :: xs).length cap) (x :: xs)) (hc : ¬ cap = 1) : BSl w (.slice (some ⟨b, off + 1, none⟩) xs.length (cap - 1)) xs := by
  have := h.tail.1
  simpa [hc] using this


end Go.Proofs.Ytnigfnikajejaab
