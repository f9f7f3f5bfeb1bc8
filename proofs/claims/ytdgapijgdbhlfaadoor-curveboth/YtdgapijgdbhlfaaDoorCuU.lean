/- Points of which small multiples are nought: 0, 1 and the last one. -/
import Derived.Test.YtdgapijgdbhlfaaDoorCuT
namespace Go.Proofs.YtdgapijgdbhlfaaDoor
open Go Go.RowKit

theorem pC_pos : 0 < pC := by decide
theorem fadd_lt (a b : Nat) : fadd a b < pC := Nat.mod_lt _ pC_pos
theorem fsub_lt (a b : Nat) : fsub a b < pC := Nat.mod_lt _ pC_pos
theorem fmul_lt (a b : Nat) : fmul a b < pC := Nat.mod_lt _ pC_pos
theorem fmul_zero (a : Nat) : fmul a 0 = 0 := by simp [fmul]
theorem zero_fmul (a : Nat) : fmul 0 a = 0 := by simp [fmul]
theorem fsub_self {a : Nat} (h : a < pC) : fsub a a = 0 := by
  unfold fsub
  rw [show a + (pC - a) = pC by omega, Nat.mod_self]
theorem fadd_zero {a : Nat} (h : a < pC) : fadd a 0 = a := by unfold fadd; rw [Nat.add_zero, Nat.mod_eq_of_lt h]
theorem zero_fadd {a : Nat} (h : a < pC) : fadd 0 a = a := by unfold fadd; rw [Nat.zero_add, Nat.mod_eq_of_lt h]
theorem fsub_zero {a : Nat} (h : a < pC) : fsub a 0 = a := by unfold fsub; rw [Nat.sub_zero, Nat.add_mod_right, Nat.mod_eq_of_lt h]
/-- What is below nought, times itself. -/
theorem sq_neg {a : Nat} (h : a < pC) : fmul (fsub 0 a) (fsub 0 a) = fmul a a := by
  unfold fsub fmul
  rw [Nat.zero_add, ← Nat.mul_mod]
  have e : (pC - a) * (pC - a) + 2 * a * pC = a * a + pC * pC := by
    obtain ⟨d, hd⟩ : ∃ d, pC = a + d := ⟨pC - a, by omega⟩
    rw [hd, Nat.add_sub_cancel_left]
    simp only [Nat.mul_add, Nat.add_mul]
    have h1 : d * a = a * d := Nat.mul_comm d a
    have h2 : 2 * a * a = a * a + a * a := by rw [Nat.mul_assoc]; omega
    have h3 : 2 * a * d = a * d + a * d := by rw [Nat.mul_assoc]; omega
    omega
  have h1 := congrArg (· % pC) e
  simp only [Nat.add_mul_mod_self_right] at h1
  exact h1
/-- One of both is nought. -/
def Even (p : Nat × Nat) : Prop := p.1 = 0 ∨ p.2 = 0
def Bnd (p : Nat × Nat) : Prop := p.1 < pC ∧ p.2 < pC
theorem dblZ_even {x z : Nat} (hb : Bnd (x, z)) (h : Even (x, z)) : dblZ x z = 0 := by
  have e : fmul (fadd x z) (fadd x z) = fmul (fsub x z) (fsub x z) := by
    rcases h with h | h
    · simp only at h
      subst h
      rw [zero_fadd hb.2, sq_neg hb.2]
    · simp only at h
      subst h
      rw [fadd_zero hb.1, fsub_zero hb.1]
  unfold dblZ apartOf
  rw [e, fsub_self (fmul_lt _ _), zero_fmul]
theorem dbl_bnd (x z : Nat) : Bnd (dblX x z, dblZ x z) := ⟨fmul_lt _ _, fmul_lt _ _⟩
theorem sum_bnd (x2 z2 x3 z3 u : Nat) : Bnd (sumX x2 z2 x3 z3, sumZ x2 z2 x3 z3 u) := ⟨fmul_lt _ _, fmul_lt _ _⟩
theorem inv_zero : inv 0 = 0 := by
  have : ∀ k, ivTo 0 k = 0 := by
    intro k
    induction k with
    | zero => rfl
    | succ k ih => rw [ivTo, ih]; split <;> simp [fmul]
  exact this 254
/-- What keeps: any kind of pair that a step leaves behind. -/
structure Keep (u : Nat) (O : Nat × Nat → Prop) : Prop where
  dbl : ∀ x z, Bnd (x, z) → O (x, z) → Even (dblX x z, dblZ x z)
  suml : ∀ x2 z2 x3 z3, Bnd (x2, z2) → Bnd (x3, z3) → O (x2, z2) → O (sumX x2 z2 x3 z3, sumZ x2 z2 x3 z3 u)
  sumr : ∀ x2 z2 x3 z3, Bnd (x2, z2) → Bnd (x3, z3) → O (x3, z3) → O (sumX x2 z2 x3 z3, sumZ x2 z2 x3 z3 u)
def Mixed (O : Nat × Nat → Prop) (p : Ld) : Prop := Bnd p.1 ∧ Bnd p.2 ∧ ((O p.1 ∧ Even p.2) ∨ (Even p.1 ∧ O p.2))
theorem Mixed.cs {O : Nat × Nat → Prop} {p : Ld} (h : Mixed O p) (b : Nat) : Mixed O (cs b p) := by
  unfold Proofs.YtdgapijgdbhlfaaDoor.cs
  split
  · exact ⟨h.2.1, h.1, h.2.2.elim (fun h => .inr ⟨h.2, h.1⟩) (fun h => .inl ⟨h.2, h.1⟩)⟩
  · exact h
theorem Mixed.step {u : Nat} {O : Nat × Nat → Prop} (hk : Keep u O) {p : Ld} (h : Mixed O p) : Even (stepF u p).1 ∧ O (stepF u p).2 ∧ Bnd (stepF u p).1 ∧ Bnd (stepF u p).2 := by
  obtain ⟨⟨x2, z2⟩, ⟨x3, z3⟩⟩ := p
  obtain ⟨b1, b2, h⟩ := h
  refine ⟨?_, ?_, dbl_bnd _ _, sum_bnd _ _ _ _ _⟩
  · rcases h with ⟨h, _⟩ | ⟨h, _⟩
    · exact hk.dbl _ _ b1 h
    · exact .inr (dblZ_even b1 h)
  · rcases h with ⟨h, _⟩ | ⟨_, h⟩
    · exact hk.suml _ _ _ _ b1 b2 h
    · exact hk.sumr _ _ _ _ b1 b2 h
theorem tl_mixed {u : Nat} {O : Nat × Nat → Prop} (hk : Keep u O) (h0 : O (u, 1)) (hu : u < pC) (S : List UInt8) (k : Nat) : Mixed O (tlTo S u k) := by
  induction k with
  | zero =>
    have h1 : 1 < pC := by decide
    exact ⟨⟨h1, pC_pos⟩, ⟨hu, h1⟩, .inr ⟨.inr rfl, h0⟩⟩
  | succ k ih =>
    obtain ⟨h1, h2, h3, h4⟩ := Mixed.step hk (ih.cs (bitAt S (254 - k)))
    exact Mixed.cs ⟨h3, h4, .inr ⟨h1, h2⟩⟩ _
theorem cs_zero (p : Ld) : cs 0 p = p := rfl
/-- The ladder's end where the scalar is a multiple of four. -/
theorem tl_end {u : Nat} {O : Nat × Nat → Prop} (hk : Keep u O) (h0 : O (u, 1)) (hu : u < pC) (S : List UInt8) (b0 : bitAt S 0 = 0) (b1 : bitAt S 1 = 0) : (tlTo S u 255).1.2 = 0 := by
  have hm := tl_mixed hk h0 hu S 253
  rw [show tlTo S u 255 = cs (bitAt S 0) (stepF u (cs (bitAt S 0) (cs (bitAt S 1) (stepF u (cs (bitAt S 1) (tlTo S u 253)))))) from rfl, b0, b1, cs_zero, cs_zero, cs_zero, cs_zero]
  obtain ⟨h1, h2, h3, h4⟩ := Mixed.step hk hm
  generalize stepF u (tlTo S u 253) = p at *
  obtain ⟨⟨x2, z2⟩, ⟨x3, z3⟩⟩ := p
  exact dblZ_even h3 h1
theorem clamp_bits (S : List UInt8) (hS : S.length = 32) : bitAt (clampL S) 0 = 0 ∧ bitAt (clampL S) 1 = 0 := by
  have e : (clampL S).getD 0 0 = S.getD 0 0 &&& 248 := by
    unfold clampL
    rw [List.getD_eq_getElem?_getD, List.getElem?_set_ne (by omega), List.getElem?_set_self (by omega)]
    rfl
  have key : ∀ n : Fin 256, (n.val &&& 248) / 1 % 2 = 0 ∧ (n.val &&& 248) / 2 % 2 = 0 := by decide +kernel
  have h := key ⟨(S.getD 0 0).toNat, (S.getD 0 0).toNat_lt⟩
  unfold bitAt
  rw [show (0 : Nat) / 8 = 0 from rfl, e, UInt8.toNat_and]
  exact h
theorem low_nought {u : Nat} {O : Nat × Nat → Prop} (hk : Keep u O) (h0 : O (u, 1)) (hu : u < pC) (S : List UInt8) (hS : S.length = 32) : ladderOf (clampL S) u = 0 := by
  obtain ⟨b0, b1⟩ := clamp_bits S hS
  unfold ladderOf
  rw [tl_end hk h0 hu (clampL S) b0 b1, inv_zero, fmul_zero]
/-- The point 0. -/
theorem keep0 : Keep 0 Even where
  dbl x z hb h := .inr (dblZ_even hb h)
  suml x2 z2 x3 z3 _ _ _ := .inr (by unfold sumZ; rw [zero_fmul])
  sumr x2 z2 x3 z3 _ _ _ := .inr (by unfold sumZ; rw [zero_fmul])
/-- The point 1: both alike. -/
theorem keep1 : Keep 1 (fun p => p.1 = p.2 ∧ p.1 < pC) where
  dbl x z _ h := by
    obtain ⟨h1, h2⟩ := h
    simp only at h1 h2
    subst h1
    exact .inl (by unfold dblX; rw [fsub_self h2, fmul_zero 0, fmul_zero])
  suml x2 z2 x3 z3 _ _ h := by
    obtain ⟨h1, h2⟩ := h
    simp only at h1 h2
    subst h1
    refine ⟨?_, fmul_lt _ _⟩
    show sumX _ _ _ _ = sumZ _ _ _ _ _
    unfold sumX sumZ othOf oneOf
    rw [fsub_self h2, fmul_zero, fadd_zero (fmul_lt _ _), fsub_zero (fmul_lt _ _)]
    unfold fmul
    rw [Nat.one_mul, Nat.mod_mod]
  sumr x2 z2 x3 z3 _ _ h := by
    obtain ⟨h1, h2⟩ := h
    simp only at h1 h2
    subst h1
    refine ⟨?_, fmul_lt _ _⟩
    show sumX _ _ _ _ = sumZ _ _ _ _ _
    unfold sumX sumZ othOf oneOf
    rw [fsub_self h2, zero_fmul, zero_fadd (fmul_lt _ _), sq_neg (fmul_lt _ _)]
    unfold fmul
    rw [Nat.one_mul, Nat.mod_mod]
theorem add_neg (s : Nat) : fadd s (fmul (pC - 1) s) = 0 := by
  unfold fadd fmul
  rw [Nat.add_mod_mod, show s + (pC - 1) * s = pC * s by rw [Nat.sub_mul, Nat.one_mul]; have := Nat.le_mul_of_pos_left s pC_pos; omega, Nat.mul_mod_right]
/-- The last point: together nought. -/
theorem keepL : Keep (pC - 1) (fun p => fadd p.1 p.2 = 0) where
  dbl x z _ h := by
    simp only at h
    exact .inl (by unfold dblX; rw [h, zero_fmul, zero_fmul])
  suml x2 z2 x3 z3 _ _ h := by
    simp only at h
    show fadd (sumX _ _ _ _) (sumZ _ _ _ _ _) = 0
    unfold sumX sumZ othOf oneOf
    rw [h, fmul_zero, zero_fadd (fmul_lt _ _), sq_neg (fmul_lt _ _), add_neg]
  sumr x2 z2 x3 z3 _ _ h := by
    simp only at h
    show fadd (sumX _ _ _ _) (sumZ _ _ _ _ _) = 0
    unfold sumX sumZ othOf oneOf
    rw [h, zero_fmul, fadd_zero (fmul_lt _ _), fsub_zero (fmul_lt _ _), add_neg]
end Go.Proofs.YtdgapijgdbhlfaaDoor
