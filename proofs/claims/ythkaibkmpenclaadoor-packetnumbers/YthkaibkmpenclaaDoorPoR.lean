/- Plain facts for the document's own Sum: its factor, its step, its end. -/
import Derived.Test.YthkaibkmpenclaaDoorPoQ
namespace Go.Proofs.YthkaibkmpenclaaDoor
open Go Go.RowKit

theorem val_congr {D E : List Nat} (n : Nat) (h : ∀ i, i < n → D.getD i 0 = E.getD i 0) : valTo D n = valTo E n := by
  induction n with
  | zero => rfl
  | succ n ih => rw [valTo, valTo, ih (fun i hi => h i (by omega)), h n (by omega)]
theorem val_bytes (D : List Nat) (xs : List UInt8) (n : Nat) (h : ∀ i, i < n → D.getD i 0 = (xs.getD i 0).toNat) : valTo D n = leTo xs n := by
  induction n with
  | zero => rfl
  | succ n ih => rw [valTo, leTo, ih (fun i hi => h i (by omega)), h n (by omega)]
/-- Limbs between two pieces: bytes, the topmost at most 4. -/
def Tame (h : List Nat) : Prop := h.length = 17 ∧ (∀ i, i < 16 → h.getD i 0 ≤ 255) ∧ h.getD 16 0 ≤ 4
theorem e16 : (256 : Nat) ^ 16 = 340282366920938463463374607431768211456 := rfl
theorem e17 : (256 : Nat) ^ 17 = 87112285931760246646623899502532662132736 := rfl
theorem Tame.lt {h : List Nat} (t : Tame h) : valTo h 17 < 5 * 340282366920938463463374607431768211456 := by
  have h1 := val_lt h 16 t.2.1
  have h2 := t.2.2
  rw [e16] at h1
  rw [valTo, e16]
  omega
/-- The sum of limbs and a piece. -/
theorem tame_add {h : List Nat} (t : Tame h) (C : Nat → Nat) (V : Nat) (hV : sm (fun i => C i * 256 ^ i) 17 = V) (hb : V ≤ 2 * 340282366920938463463374607431768211456) :
    valTo (acTo 0 h C 17).1 17 = valTo h 17 + V ∧ (∀ i, i < 17 → (acTo 0 h C 17).1.getD i 0 ≤ 255) ∧ (acTo 0 h C 17).1.length = 17 := by
  have h1 := acTo_val 0 h C 17 (by rw [t.1]; omega)
  rw [hV, e17] at h1
  have h2 := t.lt
  refine ⟨?_, acTo_digit 0 h C 17 (by rw [t.1]; omega), by rw [acTo_length, t.1]⟩
  generalize (acTo 0 h C 17).2 = u at h1
  generalize valTo (acTo 0 h C 17).1 17 = X at h1 ⊢
  generalize valTo h 17 = Y at h1 h2 ⊢
  rcases Nat.eq_zero_or_pos u with h3 | h3
  · subst h3; omega
  · exfalso
    have : 87112285931760246646623899502532662132736 ≤ u * 87112285931760246646623899502532662132736 := Nat.le_mul_of_pos_left _ h3
    omega
/-- The limbs behind the two carries. -/
def stepL (X : List Nat) : List Nat :=
  ((acTo (5 * (((acTo 0 X (fun _ => 0) 16).2 + X.getD 16 0) / 4)) ((acTo 0 X (fun _ => 0) 16).1.set 16 (((acTo 0 X (fun _ => 0) 16).2 + X.getD 16 0) % 4)) (fun _ => 0) 16).1).set 16
    ((((acTo 0 X (fun _ => 0) 16).2 + X.getD 16 0) % 4) + (acTo (5 * (((acTo 0 X (fun _ => 0) 16).2 + X.getD 16 0) / 4)) ((acTo 0 X (fun _ => 0) 16).1.set 16 (((acTo 0 X (fun _ => 0) 16).2 + X.getD 16 0) % 4)) (fun _ => 0) 16).2)
theorem sm_noughts (n : Nat) : sm (fun i => (0 : Nat) * 256 ^ i) n = 0 := by
  rw [sm_congr n (g := fun _ => 0) (fun i _ => Nat.zero_mul _), sm_zero]
theorem stepL_val {X : List Nat} (hX : X.length = 17) (hb : ∀ i, X.getD i 0 ≤ 400000000) : Tame (stepL X) ∧ ∃ q, valTo (stepL X) 17 + pP * q = valTo X 17 := by
  have hs1 := acTo_small 0 X (fun _ => 0) (by omega) (fun i => Nat.le_trans (hb i) (by omega)) 16
  have hv1 := acTo_val 0 X (fun _ => 0) 16 (by omega)
  have hd1 := acTo_digit 0 X (fun _ => 0) 16 (by omega)
  have hl1 := acTo_length 0 X (fun _ => 0) 16
  unfold stepL
  generalize acTo 0 X (fun _ => 0) 16 = A at hs1 hv1 hd1 hl1 ⊢
  obtain ⟨X1, u1⟩ := A
  simp only at hs1 hv1 hd1 hl1 ⊢
  rw [sm_noughts, e16] at hv1
  have hx16 := hb 16
  have hXv : valTo X 17 = valTo X 16 + X.getD 16 0 * 340282366920938463463374607431768211456 := rfl
  obtain ⟨u2, hu2⟩ : ∃ u2, u2 = u1 + X.getD 16 0 := ⟨_, rfl⟩
  rw [← hu2]
  have hl2 : (X1.set 16 (u2 % 4)).length = 17 := by rw [List.length_set]; omega
  have hlow : valTo (X1.set 16 (u2 % 4)) 16 = valTo X1 16 := val_off _ _ _ _ (Nat.le_refl _)
  have hv3 := acTo_val (5 * (u2 / 4)) (X1.set 16 (u2 % 4)) (fun _ => 0) 16 (by omega)
  have hd3 := acTo_digit (5 * (u2 / 4)) (X1.set 16 (u2 % 4)) (fun _ => 0) 16 (by omega)
  have hl3 := acTo_length (5 * (u2 / 4)) (X1.set 16 (u2 % 4)) (fun _ => 0) 16
  generalize acTo (5 * (u2 / 4)) (X1.set 16 (u2 % 4)) (fun _ => 0) 16 = Y at hv3 hd3 hl3 ⊢
  obtain ⟨Y1, u4⟩ := Y
  simp only at hv3 hd3 hl3 ⊢
  rw [sm_noughts, hlow, e16] at hv3
  have hX1lt := val_lt X1 16 hd1
  have hY1lt := val_lt Y1 16 hd3
  rw [e16] at hX1lt hY1lt
  have hu4 : u4 ≤ 1 := by omega
  have hfin : valTo (Y1.set 16 (u2 % 4 + u4)) 17 = valTo Y1 16 + (u2 % 4 + u4) * 340282366920938463463374607431768211456 := by
    rw [valTo, val_off _ _ _ _ (Nat.le_refl _), getD_set, if_pos ⟨rfl, by omega⟩, e16]
  refine ⟨⟨by rw [List.length_set]; omega, fun i hi => ?_, ?_⟩, u2 / 4, ?_⟩
  · rw [getD_set, if_neg (by omega)]
    exact hd3 i hi
  · rw [getD_set, if_pos ⟨rfl, by omega⟩]
    omega
  · rw [hfin, hXv]
    unfold pP
    generalize valTo X 16 = VX at hv1 ⊢
    generalize valTo X1 16 = VX1 at hv1 hv3 hX1lt
    generalize valTo Y1 16 = VY1 at hv3 hY1lt ⊢
    omega
theorem acTo_small2 (u0 : Nat) (H : List Nat) (C : Nat → Nat) (h0 : u0 ≤ 2000000000) (hb : ∀ i, H.getD i 0 + C i ≤ 1000000000) (j : Nat) : (acTo u0 H C j).2 ≤ 2000000000 := by
  induction j with
  | zero => exact h0
  | succ j ih =>
    have := hb j
    show ((acTo u0 H C j).2 + H.getD j 0 + C j) / 256 ≤ _
    omega
/-- The last taking away: 5 and 252 at the top are added, and the sum is left out where its topmost bit is set. -/
def minusL : List Nat := [5, 0, 0, 0, 0, 0, 0, 0, 0, 0, 0, 0, 0, 0, 0, 0, 252]
theorem minus_val : sm (fun i => minusL.getD i 0 * 256 ^ i) 17 = 5 + 252 * 340282366920938463463374607431768211456 := by decide +kernel
theorem minus_step {h : List Nat} (t : Tame h) : ((acTo 0 h (fun i => minusL.getD i 0) 17).1.getD 16 0 / 128 % 2 = 0 → valTo (acTo 0 h (fun i => minusL.getD i 0) 17).1 17 = valTo h 17 % pP) ∧
    ((acTo 0 h (fun i => minusL.getD i 0) 17).1.getD 16 0 / 128 % 2 ≠ 0 → valTo h 17 = valTo h 17 % pP) ∧ (∀ i, i < 17 → (acTo 0 h (fun i => minusL.getD i 0) 17).1.getD i 0 ≤ 255) ∧ (acTo 0 h (fun i => minusL.getD i 0) 17).1.length = 17 := by
  have h1 := acTo_val 0 h (fun i => minusL.getD i 0) 17 (by rw [t.1]; omega)
  rw [minus_val, e17] at h1
  have hd := acTo_digit 0 h (fun i => minusL.getD i 0) 17 (by rw [t.1]; omega)
  have hl := acTo_length 0 h (fun i => minusL.getD i 0) 17
  have ht := t.lt
  generalize acTo 0 h (fun i => minusL.getD i 0) 17 = A at h1 hd hl ⊢
  obtain ⟨X, u⟩ := A
  simp only at h1 hd hl ⊢
  have hx := val_lt X 16 (fun i hi => hd i (by omega))
  have hx16 := hd 16 (by omega)
  have hv : valTo X 17 = valTo X 16 + X.getD 16 0 * 340282366920938463463374607431768211456 := rfl
  rw [e16] at hx
  refine ⟨fun hz => ?_, fun hz => ?_, hd, by rw [hl, t.1]⟩
  · rw [hv] at h1 ⊢
    unfold pP
    generalize X.getD 16 0 = d at hz hx16 h1 ⊢
    generalize valTo X 16 = V at hx h1 ⊢
    generalize valTo h 17 = Y at ht h1 ⊢
    have hdd : d ≤ 127 := by omega
    have hu : u = 1 := by omega
    subst hu
    omega
  · rw [hv] at h1
    unfold pP
    generalize X.getD 16 0 = d at hz hx16 h1
    generalize valTo X 16 = V at hx h1
    generalize valTo h 17 = Y at ht h1 ⊢
    have hdd : 128 ≤ d := by omega
    have hu : u = 0 := by omega
    subst hu
    omega
end Go.Proofs.YthkaibkmpenclaaDoor
