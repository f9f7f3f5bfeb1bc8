/- The ladder's answer is the first coordinate of a multiple: so scalars may change places. -/
import Derived.Test.YtookapglookphaaDoorXcD
import Derived.Test.YtookapglookphaaDoorXeA
import Derived.Test.YtookapglookphaaDoorXaA
import Derived.Lib.AppendZeros
namespace Go.Proofs.YtookapglookphaaDoor
section
open Go Go.RowKit

theorem pC_pos : 0 < pC := by decide
theorem fadd_lt (a b : Nat) : fadd a b < pC := Nat.mod_lt _ pC_pos
theorem fsub_lt (a b : Nat) : fsub a b < pC := Nat.mod_lt _ pC_pos
theorem fmul_lt (a b : Nat) : fmul a b < pC := Nat.mod_lt _ pC_pos
theorem fmul_zero (a : Nat) : fmul a 0 = 0 := by simp [fmul]
theorem zero_fmul (a : Nat) : fmul 0 a = 0 := by simp [fmul]
theorem fsub_self {a : Nat} (h : a < pC) : fsub a a = 0 := by
  unfold fsub
  rw [show a + (pC - a) = pC by omega, Nat.mod_self]
theorem fadd_zero {a : Nat} (h : a < pC) : fadd a 0 = a := by unfold fadd; rw [Nat.add_zero, Nat.mod_eq_of_lt h]
theorem zero_fadd {a : Nat} (h : a < pC) : fadd 0 a = a := by unfold fadd; rw [Nat.zero_add, Nat.mod_eq_of_lt h]
theorem fsub_zero {a : Nat} (h : a < pC) : fsub a 0 = a := by unfold fsub; rw [Nat.sub_zero, Nat.add_mod_right, Nat.mod_eq_of_lt h]
/-- What is below nought, times itself. -/
theorem sq_neg {a : Nat} (h : a < pC) : fmul (fsub 0 a) (fsub 0 a) = fmul a a := by
  unfold fsub fmul
  rw [Nat.zero_add, ← Nat.mul_mod]
  have e : (pC - a) * (pC - a) + 2 * a * pC = a * a + pC * pC := by
    obtain ⟨d, hd⟩ : ∃ d, pC = a + d := ⟨pC - a, by omega⟩
    rw [hd, Nat.add_sub_cancel_left]
    simp only [Nat.mul_add, Nat.add_mul]
    have h1 : d * a = a * d := Nat.mul_comm d a
    have h2 : 2 * a * a = a * a + a * a := by rw [Nat.mul_assoc]; omega
    have h3 : 2 * a * d = a * d + a * d := by rw [Nat.mul_assoc]; omega
    omega
  have h1 := congrArg (· % pC) e
  simp only [Nat.add_mul_mod_self_right] at h1
  exact h1
/-- One of both is nought. -/
def Even (p : Nat × Nat) : Prop := p.1 = 0 ∨ p.2 = 0
def Bnd (p : Nat × Nat) : Prop := p.1 < pC ∧ p.2 < pC
theorem dblZ_even {x z : Nat} (hb : Bnd (x, z)) (h : Even (x, z)) : dblZ x z = 0 := by
  have e : fmul (fadd x z) (fadd x z) = fmul (fsub x z) (fsub x z) := by
    rcases h with h | h
    · simp only at h
      subst h
      rw [zero_fadd hb.2, sq_neg hb.2]
    · simp only at h
      subst h
      rw [fadd_zero hb.1, fsub_zero hb.1]
  unfold dblZ apartOf
  rw [e, fsub_self (fmul_lt _ _), zero_fmul]
theorem dbl_bnd (x z : Nat) : Bnd (dblX x z, dblZ x z) := ⟨fmul_lt _ _, fmul_lt _ _⟩
theorem sum_bnd (x2 z2 x3 z3 u : Nat) : Bnd (sumX x2 z2 x3 z3, sumZ x2 z2 x3 z3 u) := ⟨fmul_lt _ _, fmul_lt _ _⟩
theorem inv_zero : inv 0 = 0 := by
  have : ∀ k, ivTo 0 k = 0 := by
    intro k
    induction k with
    | zero => rfl
    | succ k ih => rw [ivTo, ih]; split <;> simp [fmul]
  exact this 254
/-- What keeps: any kind of pair that a step leaves behind. -/
structure Keep (u : Nat) (O : Nat × Nat → Prop) : Prop where
  dbl : ∀ x z, Bnd (x, z) → O (x, z) → Even (dblX x z, dblZ x z)
  suml : ∀ x2 z2 x3 z3, Bnd (x2, z2) → Bnd (x3, z3) → O (x2, z2) → O (sumX x2 z2 x3 z3, sumZ x2 z2 x3 z3 u)
  sumr : ∀ x2 z2 x3 z3, Bnd (x2, z2) → Bnd (x3, z3) → O (x3, z3) → O (sumX x2 z2 x3 z3, sumZ x2 z2 x3 z3 u)
def Mixed (O : Nat × Nat → Prop) (p : Ld) : Prop := Bnd p.1 ∧ Bnd p.2 ∧ ((O p.1 ∧ Even p.2) ∨ (Even p.1 ∧ O p.2))
theorem Mixed.cs {O : Nat × Nat → Prop} {p : Ld} (h : Mixed O p) (b : Nat) : Mixed O (cs b p) := by
  unfold Proofs.YtookapglookphaaDoor.cs
  split
  · exact ⟨h.2.1, h.1, h.2.2.elim (fun h => .inr ⟨h.2, h.1⟩) (fun h => .inl ⟨h.2, h.1⟩)⟩
  · exact h
theorem Mixed.step {u : Nat} {O : Nat × Nat → Prop} (hk : Keep u O) {p : Ld} (h : Mixed O p) : Even (stepF u p).1 ∧ O (stepF u p).2 ∧ Bnd (stepF u p).1 ∧ Bnd (stepF u p).2 := by
  obtain ⟨⟨x2, z2⟩, ⟨x3, z3⟩⟩ := p
  obtain ⟨b1, b2, h⟩ := h
  refine ⟨?_, ?_, dbl_bnd _ _, sum_bnd _ _ _ _ _⟩
  · rcases h with ⟨h, _⟩ | ⟨h, _⟩
    · exact hk.dbl _ _ b1 h
    · exact .inr (dblZ_even b1 h)
  · rcases h with ⟨h, _⟩ | ⟨_, h⟩
    · exact hk.suml _ _ _ _ b1 b2 h
    · exact hk.sumr _ _ _ _ b1 b2 h
theorem tl_mixed {u : Nat} {O : Nat × Nat → Prop} (hk : Keep u O) (h0 : O (u, 1)) (hu : u < pC) (S : List UInt8) (k : Nat) : Mixed O (tlTo S u k) := by
  induction k with
  | zero =>
    have h1 : 1 < pC := by decide
    exact ⟨⟨h1, pC_pos⟩, ⟨hu, h1⟩, .inr ⟨.inr rfl, h0⟩⟩
  | succ k ih =>
    obtain ⟨h1, h2, h3, h4⟩ := Mixed.step hk (ih.cs (bitAt S (254 - k)))
    exact Mixed.cs ⟨h3, h4, .inr ⟨h1, h2⟩⟩ _
theorem cs_zero (p : Ld) : cs 0 p = p := rfl
/-- The ladder's end where the scalar is a multiple of four. -/
theorem tl_end {u : Nat} {O : Nat × Nat → Prop} (hk : Keep u O) (h0 : O (u, 1)) (hu : u < pC) (S : List UInt8) (b0 : bitAt S 0 = 0) (b1 : bitAt S 1 = 0) : (tlTo S u 255).1.2 = 0 := by
  have hm := tl_mixed hk h0 hu S 253
  rw [show tlTo S u 255 = cs (bitAt S 0) (stepF u (cs (bitAt S 0) (cs (bitAt S 1) (stepF u (cs (bitAt S 1) (tlTo S u 253)))))) from rfl, b0, b1, cs_zero, cs_zero, cs_zero, cs_zero]
  obtain ⟨h1, h2, h3, h4⟩ := Mixed.step hk hm
  generalize stepF u (tlTo S u 253) = p at *
  obtain ⟨⟨x2, z2⟩, ⟨x3, z3⟩⟩ := p
  exact dblZ_even h3 h1
theorem clamp_bits (S : List UInt8) (hS : S.length = 32) : bitAt (clampL S) 0 = 0 ∧ bitAt (clampL S) 1 = 0 := by
  have e : (clampL S).getD 0 0 = S.getD 0 0 &&& 248 := by
    unfold clampL
    rw [List.getD_eq_getElem?_getD, List.getElem?_set_ne (by omega), List.getElem?_set_self (by omega)]
    rfl
  have key : ∀ n : Fin 256, (n.val &&& 248) / 1 % 2 = 0 ∧ (n.val &&& 248) / 2 % 2 = 0 := by decide +kernel
  have h := key ⟨(S.getD 0 0).toNat, (S.getD 0 0).toNat_lt⟩
  unfold bitAt
  rw [show (0 : Nat) / 8 = 0 from rfl, e, UInt8.toNat_and]
  exact h
theorem low_nought {u : Nat} {O : Nat × Nat → Prop} (hk : Keep u O) (h0 : O (u, 1)) (hu : u < pC) (S : List UInt8) (hS : S.length = 32) : ladderOf (clampL S) u = 0 := by
  obtain ⟨b0, b1⟩ := clamp_bits S hS
  unfold ladderOf
  rw [tl_end hk h0 hu (clampL S) b0 b1, inv_zero, fmul_zero]
/-- The point 0. -/
theorem keep0 : Keep 0 Even where
  dbl x z hb h := .inr (dblZ_even hb h)
  suml x2 z2 x3 z3 _ _ _ := .inr (by unfold sumZ; rw [zero_fmul])
  sumr x2 z2 x3 z3 _ _ _ := .inr (by unfold sumZ; rw [zero_fmul])
/-- The point 1: both alike. -/
theorem keep1 : Keep 1 (fun p => p.1 = p.2 ∧ p.1 < pC) where
  dbl x z _ h := by
    obtain ⟨h1, h2⟩ := h
    simp only at h1 h2
    subst h1
    exact .inl (by unfold dblX; rw [fsub_self h2, fmul_zero 0, fmul_zero])
  suml x2 z2 x3 z3 _ _ h := by
    obtain ⟨h1, h2⟩ := h
    simp only at h1 h2
    subst h1
    refine ⟨?_, fmul_lt _ _⟩
    show sumX _ _ _ _ = sumZ _ _ _ _ _
    unfold sumX sumZ othOf oneOf
    rw [fsub_self h2, fmul_zero, fadd_zero (fmul_lt _ _), fsub_zero (fmul_lt _ _)]
    unfold fmul
    rw [Nat.one_mul, Nat.mod_mod]
  sumr x2 z2 x3 z3 _ _ h := by
    obtain ⟨h1, h2⟩ := h
    simp only at h1 h2
    subst h1
    refine ⟨?_, fmul_lt _ _⟩
    show sumX _ _ _ _ = sumZ _ _ _ _ _
    unfold sumX sumZ othOf oneOf
    rw [fsub_self h2, zero_fmul, zero_fadd (fmul_lt _ _), sq_neg (fmul_lt _ _)]
    unfold fmul
    rw [Nat.one_mul, Nat.mod_mod]
theorem add_neg (s : Nat) : fadd s (fmul (pC - 1) s) = 0 := by
  unfold fadd fmul
  rw [Nat.add_mod_mod, show s + (pC - 1) * s = pC * s by rw [Nat.sub_mul, Nat.one_mul]; have := Nat.le_mul_of_pos_left s pC_pos; omega, Nat.mul_mod_right]
/-- The last point: together nought. -/
theorem keepL : Keep (pC - 1) (fun p => fadd p.1 p.2 = 0) where
  dbl x z _ h := by
    simp only at h
    exact .inl (by unfold dblX; rw [h, zero_fmul, zero_fmul])
  suml x2 z2 x3 z3 _ _ h := by
    simp only at h
    show fadd (sumX _ _ _ _) (sumZ _ _ _ _ _) = 0
    unfold sumX sumZ othOf oneOf
    rw [h, fmul_zero, zero_fadd (fmul_lt _ _), sq_neg (fmul_lt _ _), add_neg]
  sumr x2 z2 x3 z3 _ _ h := by
    simp only at h
    show fadd (sumX _ _ _ _) (sumZ _ _ _ _ _) = 0
    unfold sumX sumZ othOf oneOf
    rw [h, zero_fmul, fadd_zero (fmul_lt _ _), fsub_zero (fmul_lt _ _), add_neg]
end
section
open Go Go.RowKit
theorem leV_cons (x : UInt8) (L : List UInt8) (n : Nat) : leV (x :: L) (n + 1) = x.toNat + 256 * leV L n := by
  induction n with
  | zero => simp [leV]
  | succ n ih =>
    rw [leV, ih, leV, Nat.mul_add, Nat.pow_succ]
    have : ((x :: L).getD (n + 1) 0) = L.getD n 0 := by simp
    rw [this]
    have e : (L.getD n 0).toNat * (256 ^ n * 256) = 256 * ((L.getD n 0).toNat * 256 ^ n) := by rw [← Nat.mul_assoc, Nat.mul_comm]
    omega
theorem zero_val : leV (List.replicate 31 0) 31 = 0 := by decide +kernel
theorem num_low (x : UInt8) : numV (x :: List.replicate 31 0) % pC = x.toNat := by
  have := x.toNat_lt
  unfold numV pC
  rw [leV_cons, zero_val]
  omega
theorem out_zero : outL 0 32 = List.replicate 32 0 := by decide +kernel
theorem mul_zero (k : List UInt8) (hk : k.length = 32) : mulL k (List.replicate 32 0) = List.replicate 32 0 := by
  unfold mulL
  rw [show (List.replicate 32 0 : List UInt8) = 0 :: List.replicate 31 0 from rfl, num_low, show (0 : UInt8).toNat = 0 from rfl, low_nought keep0 (.inl rfl) pC_pos k hk, out_zero]
  rfl
section
variable {o : Oper} {ρ : Operand → Value} {w : World} {Φ : Value → World → Prop}
end
end
section
open Ed

theorem ph_fadd (a b : Nat) : ph (fadd a b) = ph a + ph b := by unfold fadd; rw [← pM_eq, ph_mod, ph_add]
theorem ph_fmul (a b : Nat) : ph (fmul a b) = ph a * ph b := by unfold fmul; rw [← pM_eq, ph_mod, ph_mul]
theorem ph_zero : ph 0 = 0 := rfl
theorem ph_one : ph 1 = 1 := rfl
theorem ph_fsub (a b : Nat) (hb : b < pC) : ph (fsub a b) = ph a - ph b := by
  have h1 : ph (pC - b) + ph b = 0 := by
    rw [← ph_add, show pC - b + b = pC by omega, ← pM_eq]
    rfl
  show ph ((a + (pC - b)) % (pM + 1)) = _
  rw [ph_mod, ph_add]
  generalize ph (pC - b) = z at h1
  generalize ph a = x
  generalize ph b = y at h1
  grind
theorem ph_inj {a b : Nat} (ha : a < pC) (hb : b < pC) (h : ph a = ph b) : a = b := by
  have := congrArg Fin.val h
  rw [ph_val, ph_val, pM_eq, Nat.mod_eq_of_lt ha, Nat.mod_eq_of_lt hb] at this
  exact this
/-- The inverse's power. -/
def ivE : Nat → Nat
  | 0 => 1
  | k + 1 => if k = 251 ∨ k = 249 then ivE k + ivE k else ivE k + ivE k + 1
theorem iv_pow (a k : Nat) : ph (ivTo a k) = ph (a ^ ivE k) := by
  induction k with
  | zero => rw [ivTo, ivE, Nat.pow_one]
  | succ k ih =>
    rw [ivTo, ivE]
    split
    · rw [ph_fmul, ih, ← ph_mul, ← Nat.pow_add]
    · rw [ph_fmul, ph_fmul, ih, ← ph_mul, ← ph_mul, ← Nat.pow_add, ← Nat.pow_succ]
theorem ph_pow_mod (a e : Nat) : ph ((a % (pM + 1)) ^ e) = ph (a ^ e) := Fin.ext (by rw [ph_val, ph_val, ← Nat.pow_mod])
theorem ivE_end : ivE 254 = pM - 1 := by decide +kernel
theorem ph_inv (a : Nat) : ph (inv a) = fi (ph a) := by
  unfold inv
  rw [fi_pow, ph_val, ph_pow_mod, iv_pow, ivE_end]

/-- The pair stands for the point. -/
structure RepN (p : Nat × Nat) (P : Pt) : Prop where
  b : Bnd p
  r : Rep (ph p.1) (ph p.2) P
theorem RepN.dbl {x z : Nat} {P : Pt} (h : RepN (x, z) P) : RepN (dblX x z, dblZ x z) (add P P) := by
  refine ⟨dbl_bnd x z, ?_⟩
  have hz := h.b.2
  have := h.r.dbl
  simp only at this ⊢
  unfold dblX dblZ apartOf
  simp only [ph_fmul, ph_fadd, ph_fsub _ _ hz, ph_fsub _ _ (fmul_lt _ _)]
  exact this
theorem RepN.sum {x2 z2 x3 z3 u : Nat} {ym : F} {P Q : Pt} (h1 : RepN (x2, z2) P) (h2 : RepN (x3, z3) Q) (hd : Diff P Q ym) (hu : ph u * (1 - ym) = 1 + ym) (hu0 : ph u ≠ 0) (hm : ym ≠ 1) :
    RepN (sumX x2 z2 x3 z3, sumZ x2 z2 x3 z3 u) (add P Q) := by
  refine ⟨sum_bnd _ _ _ _ _, ?_⟩
  have hz2 := h1.b.2
  have hz3 := h2.b.2
  have := h1.r.sum h2.r hd hu hu0 hm
  simp only at this hz2 hz3 ⊢
  unfold sumX sumZ oneOf othOf
  simp only [ph_fmul, ph_fadd, ph_fsub _ _ hz2, ph_fsub _ _ hz3, ph_fsub _ _ (fmul_lt _ _)]
  exact this
/-- The scalar's number behind k rounds. -/
def nb (S : List UInt8) : Nat → Nat
  | 0 => 0
  | k + 1 => 2 * nb S k + bitAt S (254 - k)
theorem rep_start {u : Nat} {P : Pt} (hu : ph u * (1 - P.y) = 1 + P.y) : Rep (ph u) (ph 1) P := by
  rw [ph_one]
  generalize ph u = x at hu
  refine ⟨?_, fun h => two_ne ?_⟩
  · generalize P.y = y at hu
    grind
  · generalize P.y = y at hu
    have h1 : x = -1 := by grind
    have h2 : (1 + y) - (x * (1 - y)) = 0 := by rw [hu]; clear hu h h1; grind
    have h3 : (1 + y) - (x * (1 - y)) = 2 := by clear h2 hu h; grind
    exact h3.symm.trans h2
theorem rep_O : Rep (ph 1) (ph 0) O := ⟨by decide, by decide⟩
theorem tl_rep {u : Nat} {P : Pt} (hb : u < pC) (hu : ph u * (1 - P.y) = 1 + P.y) (hu0 : ph u ≠ 0) (hm : P.y ≠ 1) (S : List UInt8) (k : Nat) :
    RepN (tlTo S u k).1 (mul (nb S k) P) ∧ RepN (tlTo S u k).2 (mul (nb S k + 1) P) := by
  induction k with
  | zero => exact ⟨⟨⟨show 1 < pC by decide, show 0 < pC by decide⟩, rep_O⟩, ⟨⟨hb, show 1 < pC by decide⟩, by rw [nb, Ed.mul_one]; exact rep_start hu⟩⟩
  | succ k ih =>
    rw [tlTo, nb]
    have hbit := bitAt_le S (254 - k)
    generalize bitAt S (254 - k) = b at hbit
    obtain ⟨h1, h2⟩ := ih
    generalize tlTo S u k = p at h1 h2
    generalize nb S k = n at h1 h2
    obtain ⟨⟨x2, z2⟩, ⟨x3, z3⟩⟩ := p
    simp only at h1 h2
    have hd : Diff (mul n P) (mul (n + 1) P) P.y := Diff.of _ _
    rcases (show b = 0 ∨ b = 1 by omega) with rfl | rfl
    · refine ⟨?_, ?_⟩
      · have := h1.dbl
        rw [← Ed.mul_add, show n + n = 2 * n + 0 by omega] at this
        exact this
      · have := h1.sum h2 hd hu hu0 hm
        rw [← Ed.mul_add, show n + (n + 1) = 2 * n + 0 + 1 by omega] at this
        exact this
    · refine ⟨?_, ?_⟩
      · have := h2.sum h1 hd.symm hu hu0 hm
        rw [← Ed.mul_add, show n + 1 + n = 2 * n + 1 by omega] at this
        exact this
      · have := h2.dbl
        rw [← Ed.mul_add, show n + 1 + (n + 1) = 2 * n + 1 + 1 by omega] at this
        exact this
/-- The first coordinate; of the point that adds nothing it is 0. -/
def U (P : Pt) : F := (1 + P.y) * fi (1 - P.y)
theorem U_one {P : Pt} (h : P.y = 1) : U P = 0 := by
  unfold U
  rw [h, show (1 : F) - 1 = 0 by decide, fi_zero, Fin.mul_zero]
theorem U_back {P : Pt} (h : P.y ≠ 1) : U P * (1 - P.y) = 1 + P.y := fi_back fun h0 => h (by grind)
theorem U_eq {P : Pt} {u : F} (h : P.y ≠ 1) (hu : u * (1 - P.y) = 1 + P.y) : U P = u := F.cancel (z := 1 - P.y) (fun h0 => h (by grind)) ((U_back h).trans hu.symm)
theorem rep_U {X Z : F} {P : Pt} (h : Rep X Z P) : X * fi Z = U P := by
  obtain ⟨h1, h2⟩ := h
  by_cases hy : P.y = 1
  · rw [U_one hy]
    have hz : Z = 0 := half (by rw [hy] at h1; grind)
    rw [hz, fi_zero, Fin.mul_zero]
  · have hz : Z ≠ 0 := fun hz => by
      rw [hz] at h1 h2
      have h3 : X * (1 - P.y) = 0 := by generalize P.y = y at h1 hy; grind
      rcases F.mul0 h3 with h4 | h4
      · exact h2 (by rw [h4]; decide)
      · exact hy (by grind)
    refine (U_eq hy ?_).symm
    have hf := fi_mul hz
    generalize fi Z = i at hf
    generalize P.y = y at h1
    refine F.cancel hz ?_
    refine F.cancel two_ne ?_
    clear hy
    grind
theorem ladder_U {u : Nat} {P : Pt} (hb : u < pC) (hu : ph u * (1 - P.y) = 1 + P.y) (hu0 : ph u ≠ 0) (hm : P.y ≠ 1) (S : List UInt8) : ph (ladderOf S u) = U (mul (nb S 255) P) := by
  unfold ladderOf
  rw [ph_fmul, ph_inv]
  exact rep_U (tl_rep hb hu hu0 hm S 255).1.r
theorem x_zero {P : Pt} (h : P.y * P.y = 1) : P.x = 0 := by
  have e := P.on
  unfold On at e
  have h2 := cA_eq
  have h3 : 4 * (P.x * P.x) = 0 := by
    rw [h2] at e
    generalize cD = d at e
    generalize P.x = x at e
    generalize P.y = y at e h
    grind
  rcases F.mul0 h3 with h4 | h4
  · exact absurd h4 four_ne
  · exact (F.mul0 h4).elim id id
theorem mul_O (n : Nat) : mul n O = O := by
  induction n with
  | zero => rfl
  | succ n ih => rw [Ed.mul_succ, ih, add_O]
theorem twice_O {P : Pt} (h : P.y * P.y = 1) : add P P = O := by
  have hx := x_zero h
  refine Sum.eq ⟨?_, ?_⟩
  · show (0 : F) * _ = _
    rw [hx]
    grind
  · show (1 : F) * _ = _
    rw [hx]
    grind
theorem even_O {P : Pt} (h : P.y * P.y = 1) (n : Nat) : mul (2 * n) P = O := by
  rw [Nat.mul_comm, ← Ed.mul_mul, show (2 : Nat) = 1 + 1 from rfl, Ed.mul_add, Ed.mul_one, twice_O h, mul_O]
/-- The ladder from a point's first coordinate is a multiple's. -/
theorem ladder_any (P : Pt) (k : List UInt8) (hk : k.length = 32) : ladderOf (clampL k) (U P).val = (U (mul (nb (clampL k) 255) P)).val := by
  have hlt : ∀ x : F, x.val < pC := fun x => by rw [← pM_eq]; exact x.isLt
  by_cases h : P.y * P.y = 1
  · have hz : U P = 0 := by
      by_cases h1 : P.y = 1
      · exact U_one h1
      · have h2 : P.y + 1 = 0 := by
          have h3 : (P.y - 1) * (P.y + 1) = 0 := by generalize P.y = y at h; clear h1; grind
          rcases F.mul0 h3 with h4 | h4
          · exact absurd (by grind) h1
          · exact h4
        unfold U
        rw [show 1 + P.y = 0 by grind, Fin.zero_mul]
    have hn : nb (clampL k) 255 = 2 * nb (clampL k) 254 := by
      rw [nb, show 254 - 254 = 0 from rfl, (clamp_bits k hk).1, Nat.add_zero]
    rw [hz, hn, even_O h, U_one rfl]
    exact low_nought keep0 (.inl rfl) pC_pos k hk
  · have hm : P.y ≠ 1 := fun h1 => h (by rw [h1]; decide)
    have hu := U_back hm
    have hu0 : U P ≠ 0 := fun h0 => h (by
      rw [h0] at hu
      have : P.y = -1 := by clear h hm; grind
      rw [this]
      decide)
    refine ph_inj (fmul_lt _ _) (hlt _) ?_
    rw [ladder_U (P := P) (hlt _) (by rw [ph_of]; exact hu) (by rw [ph_of]; exact hu0) hm, ph_of]
/-- The base point. -/
def P9 : Pt := ⟨38213832894368730265794714087330135568483813637251082400757400312561599933396, 46316835694926478169428394003475163141307993866256225615783033603165251855960, by unfold On; decide⟩
theorem U_9 : U P9 = 9 := U_eq (by decide) (by decide)
theorem leV_out (a m n : Nat) (h : n ≤ m) : leV (outL a m) n = a % 256 ^ n := by
  induction n with
  | zero => rw [leV, Nat.pow_zero, Nat.mod_one]
  | succ n ih =>
    have e : ((outL a m).getD n 0).toNat = a / 256 ^ n % 256 := by
      unfold outL
      rw [List.getD_eq_getElem?_getD, List.getElem?_map, List.getElem?_range (by omega)]
      simp
    rw [leV, ih (by omega), e, Nat.mod_pow_succ, Nat.mul_comm (256 ^ n)]
theorem num_out {a : Nat} (h : a < pC) : numV (outL a 32) % pC = a := by
  unfold numV
  rw [leV_out a 32 32 (Nat.le_refl _)]
  unfold pC at *
  rw [show (256 : Nat) ^ 32 = 115792089237316195423570985008687907853269984665640564039457584007913129639936 from rfl]
  omega
/-- Mul of a point's bytes. -/
theorem mul_U (k : List UInt8) (hk : k.length = 32) (P : Pt) : mulL k (outL (U P).val 32) = outL (U (mul (nb (clampL k) 255) P)).val 32 := by
  unfold mulL
  rw [num_out (by rw [← pM_eq]; exact (U P).isLt), ladder_any P k hk]
theorem mul_9 (k : List UInt8) (hk : k.length = 32) : mulL k nineL = outL (U (mul (nb (clampL k) 255) P9)).val 32 := by
  have e : numV nineL % pC = (U P9).val := by
    rw [U_9]
    exact num_low 9
  unfold mulL
  rw [e, ladder_any P9 k hk]
/-- P5.2. -/
theorem mul_both (a b : List UInt8) (ha : a.length = 32) (hb : b.length = 32) : mulL a (mulL b nineL) = mulL b (mulL a nineL) := by
  rw [mul_9 a ha, mul_9 b hb, mul_U a ha, mul_U b hb, Ed.mul_swap]
theorem mul_three (a b c : List UInt8) (ha : a.length = 32) (hb : b.length = 32) (hc : c.length = 32) : mulL c (mulL b (mulL a nineL)) = mulL b (mulL a (mulL c nineL)) := by
  rw [mul_9 a ha, mul_9 c hc, mul_U b hb, mul_U c hc, mul_U a ha, mul_U b hb, Ed.mul_mul, Ed.mul_mul, Ed.mul_mul, Ed.mul_mul]
  generalize nb (clampL a) 255 = x
  generalize nb (clampL b) 255 = y
  generalize nb (clampL c) 255 = z
  rw [show z * y * x = y * x * z by rw [Nat.mul_comm z y, Nat.mul_assoc, Nat.mul_comm z x, Nat.mul_assoc]]
end
end Go.Proofs.YtookapglookphaaDoor
