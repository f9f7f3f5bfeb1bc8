/- What Sum answers. -/
import Derived.Test.YthkaibkmpenclaaDoorPoF
namespace Go.Proofs.YthkaibkmpenclaaDoor
open Go Go.RowKit

theorem add_val {X M : List Nat} (hX : X.length = 5) (hM : M.length = 5) : V5 (addTo X M 5) = V5 X + V5 M ∧ ∀ i, i < 5 → (addTo X M 5).getD i 0 = X.getD i 0 + M.getD i 0 := by
  obtain ⟨a, b, c, d, e, rfl⟩ := list5 hX
  obtain ⟨a', b', c', d', e', rfl⟩ := list5 hM
  have h : addTo [a, b, c, d, e] [a', b', c', d', e'] 5 = [a + a', b + b', c + c', d + d', e + e'] := rfl
  rw [h, V5_list, V5_list, V5_list]
  refine ⟨by omega, fun i hi => ?_⟩
  match i, hi with
  | 0, _ | 1, _ | 2, _ | 3, _ | 4, _ => rfl
theorem cy_mod {L : List Nat} (hL : L.length = 5) : Carried (cyTo L 5).1 ∧ V5 (cyTo L 5).1 = V5 L % 1361129467683753853853498429727072845824 := by
  obtain ⟨a, b, c, d, e, rfl⟩ := list5 hL
  obtain ⟨a2, b2, c2, d2, e2, o2, h2, k1, k2, k3, k4, k5, k6⟩ := cy_list a b c d e
  rw [h2]
  refine ⟨⟨rfl, fun i hi => ?_⟩, ?_⟩
  · match i, hi with
    | 0, _ => exact k1
    | 1, _ => exact k2
    | 2, _ => exact k3
    | 3, _ => exact k4
    | 4, _ => exact k5
  · show V5 [a2, b2, c2, d2, e2] = _
    have hlt : V5 [a2, b2, c2, d2, e2] < 1361129467683753853853498429727072845824 := by rw [V5_list]; omega
    generalize V5 [a2, b2, c2, d2, e2] = Y at k6 hlt
    omega
theorem times_val {n m : List Nat} (hn5 : n.length = 5) (hm5 : m.length = 5) (hn : Small n 134217736) (hm : Small m 67108863) : Made (timesL n m) ∧ V5 (timesL n m) % pP = V5 n * V5 m % pP := by
  obtain ⟨_, _, _, _, _, a, b, c, d, e, q, h, h0, h1, h2, h3, h4, hv, hl⟩ := fold_twice (mulTo_length n m 5) (mulTo_le hn hm 5 (by omega))
  obtain ⟨Q, hQ⟩ := mul_val hn5 hm5
  have ht : timesL n m = [a, b, c, d, e] := h
  rw [ht]
  refine ⟨⟨rfl, h0, fun i hi => ?_, hl⟩, ?_⟩
  · match i, hi with
    | 0, _ => exact h0
    | 1, _ => exact Nat.le_trans h1 (by omega)
    | 2, _ => exact Nat.le_trans h2 (by omega)
    | 3, _ => exact Nat.le_trans h3 (by omega)
    | 4, _ => exact Nat.le_trans h4 (by omega)
  · rw [← hQ, ← hv, Nat.add_mul_mod_self_left, Nat.add_mul_mod_self_left]
theorem L26_le (V : Nat) : Small (L26 V) 67108863 := by
  intro i hi
  match i, hi with
  | 0, _ => show V % 67108864 ≤ _; omega
  | 1, _ => show V / 67108864 % 67108864 ≤ _; omega
  | 2, _ => show V / 4503599627370496 % 67108864 ≤ _; omega
  | 3, _ => show V / 302231454903657293676544 % 67108864 ≤ _; omega
  | 4, _ => show V / 20282409603651670423947251286016 % 67108864 ≤ _; omega
/-- A piece's number, with a one behind it. -/
def blk (xs : List UInt8) : Nat := leTo xs xs.length + 256 ^ xs.length
def pieceAt (b : List UInt8) (k : Nat) : List UInt8 := (b.drop (16 * k)).take 16
/-- The pile behind k pieces. -/
def accTo (r : Nat) (b : List UInt8) : Nat → Nat
  | 0 => 0
  | k + 1 => (accTo r b k + blk (pieceAt b k)) * r % pP
def factor (key : List UInt8) : Nat := leTo (clL (key.take 16)) 16
def second (key : List UInt8) : Nat := leTo (key.drop 16) 16
def polyV (key b : List UInt8) : Nat := accTo (factor key) b ((b.length + 15) / 16) + second key
def polyL (key b : List UInt8) : List UInt8 := lowB (polyV key b) 16
theorem polyL_length (key b : List UInt8) : (polyL key b).length = 16 := lowB_length _ _
theorem pow16 : (256 : Nat) ^ 16 = 340282366920938463463374607431768211456 := rfl
theorem blk_lt (xs : List UInt8) (h : xs.length ≤ 16) : blk xs < 1361129467683753853853498429727072845824 := by
  have h1 := leTo_lt xs xs.length
  have h2 : 256 ^ xs.length ≤ 256 ^ 16 := Nat.pow_le_pow_right (by omega) h
  rw [pow16] at h2
  unfold blk
  omega
theorem low_mod (T : Nat) : lowB (T % 1361129467683753853853498429727072845824) 16 = lowB T 16 := by
  unfold lowB
  apply List.map_congr_left
  intro i hi
  have hi' := List.mem_range.1 hi
  congr 1
  rcases (show i = 0 ∨ i = 1 ∨ i = 2 ∨ i = 3 ∨ i = 4 ∨ i = 5 ∨ i = 6 ∨ i = 7 ∨ i = 8 ∨ i = 9 ∨ i = 10 ∨ i = 11 ∨ i = 12 ∨ i = 13 ∨ i = 14 ∨ i = 15 by omega) with rfl | rfl | rfl | rfl | rfl | rfl | rfl | rfl | rfl | rfl | rfl | rfl | rfl | rfl | rfl | rfl <;> omega
theorem acc_step (r Y : Nat) (b : List UInt8) (k : Nat) (hY : Y % pP = accTo r b k) : (Y + blk (pieceAt b k)) * r % pP = accTo r b (k + 1) := by
  rw [accTo, ← hY]
  rw [Nat.mul_mod, Nat.add_mod, ← Nat.mul_mod_mod, ← Nat.mul_mod, Nat.mul_mod (Y % pP + blk (pieceAt b k)), Nat.add_mod (Y % pP), Nat.mod_mod]
  simp [Nat.mul_mod, Nat.add_mod]
/-- What Sum answers: sixteen bytes, new, and OK; or nothing and ErrArg. -/
def SumTold (w : World) (key b : List UInt8) (e : Ending) (w' : World) : Prop :=
  Below w.heap.size w w' ∧ ((key.length = 32 ∧ ∃ g, e = .returned (.tuple #[.slice (some ⟨g, 0, none⟩) 16 16, .int .i64 0]) ∧ w.heap.size ≤ g ∧ w'.heap[g]? = some (.cells (bcells (polyL key b)).toArray 5 (0, 0))) ∨
    (key.length ≠ 32 ∧ e = .returned (.tuple #[.slice none 0 0, .int .i64 1])))
end Go.Proofs.YthkaibkmpenclaaDoor
