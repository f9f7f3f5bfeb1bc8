/- The field of 2^255 - 19, and the curve's points as a group (in the form of Edwards, which has no exceptions). -/
import Derived.Test.YtdgapijgdbhlfaaDoorEdA
namespace Go.Proofs.YtdgapijgdbhlfaaDoor.Ed
/-- One less than the prime. -/
def pM : Nat := 57896044618658097711785492504343953926634992332820282019728792003956564819948
theorem pM_eq : pM + 1 = pC := rfl
theorem pC_pr : Pr (pM + 1) := prP
abbrev F := Fin (pM + 1)
theorem F.val_zero : (0 : F).val = 0 := rfl
theorem F.not_dvd {x : F} (hx : x ≠ 0) : ¬ (pM + 1) ∣ x.val := fun h => hx (Fin.ext (by
    have := x.isLt
    rw [F.val_zero]
    rcases Nat.eq_zero_or_pos x.val with h0 | h0
    · exact h0
    · have := Nat.le_of_dvd h0 h; omega))
theorem F.mul_ne {x y : F} (hx : x ≠ 0) (hy : y ≠ 0) : x * y ≠ 0 := fun h => by
  have h1 : (x.val * y.val) % (pM + 1) = 0 := by rw [← Fin.val_mul, h]; rfl
  rcases pC_pr.mul (Nat.dvd_of_mod_eq_zero h1) with h2 | h2
  · exact F.not_dvd hx h2
  · exact F.not_dvd hy h2
theorem F.mul0 {x y : F} (h : x * y = 0) : x = 0 ∨ y = 0 := Classical.byContradiction fun hc =>
  F.mul_ne (fun e => hc (.inl e)) (fun e => hc (.inr e)) h
/-- What a number is modulo the prime. -/
def ph (a : Nat) : F := Fin.ofNat (pM + 1) a
theorem ph_val (a : Nat) : (ph a).val = a % (pM + 1) := rfl
theorem ph_mod (a : Nat) : ph (a % (pM + 1)) = ph a := Fin.ext (by rw [ph_val, ph_val, Nat.mod_mod])
theorem ph_add (a b : Nat) : ph (a + b) = ph a + ph b := Fin.ext (by rw [Fin.val_add, ph_val, ph_val, ph_val, ← Nat.add_mod])
theorem ph_mul (a b : Nat) : ph (a * b) = ph a * ph b := Fin.ext (by rw [Fin.val_mul, ph_val, ph_val, ph_val, ← Nat.mul_mod])
theorem ph_of (x : F) : ph x.val = x := Fin.ext (by rw [ph_val, Nat.mod_eq_of_lt x.isLt])
/-- The power that is the inverse. -/
theorem pow_one {n x e : Nat} (hp : Pr n) (hx : ¬ n ∣ x) (he : e + 1 = n - 1) : x * x ^ e % n = 1 := by
  rw [← Nat.pow_succ', show e.succ = n - 1 from he]
  exact hp.fermat hx
theorem F.pow_inv {x : F} {e : Nat} (hx : x ≠ 0) (he : e + 1 = pM) : x * ph (x.val ^ e) = 1 := by
  have h := pow_one pC_pr (F.not_dvd hx) he
  have e2 : x * ph (x.val ^ e) = ph (x.val * x.val ^ e) := by rw [ph_mul, ph_of]
  rw [e2]
  exact Fin.ext (by rw [ph_val, h]; rfl)
/-- The inverse; of 0 it is 0. -/
def fi (x : F) : F := ph (pm (pM + 1) 256 x.val (pM - 1))
theorem fi_pow (x : F) : fi x = ph (x.val ^ (pM - 1)) := by
  unfold fi
  rw [pm_eq _ _ _ _ (by decide)]
  exact ph_mod _
theorem fi_mul {x : F} (hx : x ≠ 0) : x * fi x = 1 := by
  rw [fi_pow]
  exact F.pow_inv hx rfl
theorem ph_zero_pow {e : Nat} (he : 0 < e) : ph (0 ^ e) = 0 := Fin.ext (by rw [ph_val, Nat.zero_pow he]; rfl)
theorem fi_zero : fi 0 = 0 := by
  rw [fi_pow, F.val_zero]
  exact ph_zero_pow (by decide)
theorem F.cancel {x y z : F} (hz : z ≠ 0) (h : x * z = y * z) : x = y := by
  have h1 : (x - y) * z = 0 := by grind
  rcases F.mul0 h1 with h2 | h2
  · grind
  · exact absurd h2 hz
theorem fi_eq {x y : F} (hx : x ≠ 0) (h : x * y = 1) : y = fi x := by
  have h2 := fi_mul hx
  exact F.cancel hx (by grind)
theorem two_ne : (2 : F) ≠ 0 := by decide
theorem one_ne : (1 : F) ≠ 0 := by decide
theorem four_ne : (4 : F) ≠ 0 := by decide
theorem half {x : F} (h : 2 * x = 0) : x = 0 := (F.mul0 h).elim (fun h => absurd h two_ne) id
def cA : F := 486664
def cD : F := 486660
def cR : F := 9094040566125962849133224048217411091405536248825867518642941381412595940312
theorem cR_sq : cR * cR = cA := by decide
theorem cA_eq : cA = cD + 4 := by decide
theorem cD_eq : cD = 4 * 121665 := by decide
theorem pow_not {n d e s : Nat} (hp : Pr n) (_h2 : 2 < n) (h : pm n 256 d e = n - 1) (hb : e < 2 ^ 256) (he : 2 * e = n - 1) (hs : ¬ n ∣ s) (hd : s * s % n = d) : False := by
  rw [pm_eq _ _ _ _ hb, ← hd, ← Nat.pow_mod, ← Nat.pow_two, ← Nat.pow_mul, he, hp.fermat hs] at h
  omega
theorem cD_pow : pm (pM + 1) 256 486660 28948022309329048855892746252171976963317496166410141009864396001978282409974 = pM := by decide +kernel
theorem cD_not (s : F) : s * s ≠ cD := by
  intro h
  have hs : s ≠ 0 := by
    rintro rfl
    exact absurd h (by decide)
  exact pow_not pC_pr (by decide) cD_pow (by decide) (by decide) (F.not_dvd hs) (by rw [← Fin.val_mul, h]; rfl)
/-- On the curve. -/
def On (a d x y : F) : Prop := a * x * x + y * y = 1 + d * x * x * y * y
theorem wh1 {a d x1 y1 x2 y2 r e : F} (h1 : On a d x1 y1) (h2 : On a d x2 y2) (hr : r * r = a) (he : e * e = 1) (h : d * x1 * y1 * x2 * y2 = e) :
    (r * x1 + e * y1) * (r * x1 + e * y1) = d * (x1 * y1 * (r * x2 + y2)) * (x1 * y1 * (r * x2 + y2)) := by
  unfold On at h1 h2
  grind
theorem wh2 {a d x1 y1 x2 y2 r e : F} (h1 : On a d x1 y1) (h2 : On a d x2 y2) (hr : r * r = a) (he : e * e = 1) (h : d * x1 * y1 * x2 * y2 = e) :
    (r * x1 - e * y1) * (r * x1 - e * y1) = d * (x1 * y1 * (r * x2 - y2)) * (x1 * y1 * (r * x2 - y2)) := by
  unfold On at h1 h2
  grind
theorem not_sq {a b d : F} (hd : ∀ s, s * s ≠ d) (hb : b ≠ 0) : a * a ≠ d * b * b := fun h => by
  have hf := fi_mul hb
  refine hd (a * fi b) ?_
  grind
/-- No denominator is nought. -/
theorem whole {x1 y1 x2 y2 e : F} (he : e * e = 1) (h1 : On cA cD x1 y1) (h2 : On cA cD x2 y2) (h : cD * x1 * y1 * x2 * y2 = e) : False := by
  have he0 : e ≠ 0 := by
    rintro rfl
    exact absurd he (by decide)
  have ht : x1 * y1 ≠ 0 := fun h0 => he0 (by grind)
  have hy : y2 ≠ 0 := fun h0 => he0 (by grind)
  by_cases ha : cR * x2 + y2 = 0
  · by_cases hb : cR * x2 - y2 = 0
    · refine hy (half ?_)
      grind
    · exact not_sq cD_not (F.mul_ne ht hb) (wh2 h1 h2 cR_sq he h)
  · exact not_sq cD_not (F.mul_ne ht ha) (wh1 h1 h2 cR_sq he h)
theorem den1 {x1 y1 x2 y2 : F} (h1 : On cA cD x1 y1) (h2 : On cA cD x2 y2) : 1 + cD * x1 * y1 * x2 * y2 ≠ 0 := fun h =>
  whole (e := -1) (by decide) h1 h2 (by grind)
theorem den2 {x1 y1 x2 y2 : F} (h1 : On cA cD x1 y1) (h2 : On cA cD x2 y2) : 1 - cD * x1 * y1 * x2 * y2 ≠ 0 := fun h =>
  whole (e := 1) (by decide) h1 h2 (by grind)
theorem on_add {a d x1 y1 x2 y2 N1 N2 D1 D2 : F} (h1 : On a d x1 y1) (h2 : On a d x2 y2) (e1 : N1 = x1 * y2 + y1 * x2) (e2 : N2 = y1 * y2 - a * x1 * x2) (e3 : D1 = 1 + d * x1 * y1 * x2 * y2) (e4 : D2 = 1 - d * x1 * y1 * x2 * y2) :
    a * (N1 * D2) * (N1 * D2) + (N2 * D1) * (N2 * D1) = (D1 * D2) * (D1 * D2) + d * (N1 * N2) * (N1 * N2) := by
  unfold On at h1 h2
  subst e1 e2 e3 e4
  grind
theorem assoc1 {a d x1 y1 x2 y2 x3 y3 : F} (e1 : On a d x1 y1) (e2 : On a d x2 y2) (e3 : On a d x3 y3) :
    ((x1 * y2 + y1 * x2) * (1 - d * x1 * y1 * x2 * y2) * y3 + (y1 * y2 - a * x1 * x2) * (1 + d * x1 * y1 * x2 * y2) * x3) * ((1 + d * x2 * y2 * x3 * y3) * (1 - d * x2 * y2 * x3 * y3) + d * x1 * y1 * ((x2 * y3 + y2 * x3) * (y2 * y3 - a * x2 * x3)))
    = (x1 * ((y2 * y3 - a * x2 * x3) * (1 + d * x2 * y2 * x3 * y3)) + y1 * ((x2 * y3 + y2 * x3) * (1 - d * x2 * y2 * x3 * y3))) * ((1 + d * x1 * y1 * x2 * y2) * (1 - d * x1 * y1 * x2 * y2) + d * x3 * y3 * ((x1 * y2 + y1 * x2) * (y1 * y2 - a * x1 * x2))) := by
  unfold On at e1 e2 e3
  grind
theorem assoc2 {a d x1 y1 x2 y2 x3 y3 : F} (e1 : On a d x1 y1) (e2 : On a d x2 y2) (e3 : On a d x3 y3) :
    ((y1 * y2 - a * x1 * x2) * (1 + d * x1 * y1 * x2 * y2) * y3 - a * ((x1 * y2 + y1 * x2) * (1 - d * x1 * y1 * x2 * y2)) * x3) * ((1 + d * x2 * y2 * x3 * y3) * (1 - d * x2 * y2 * x3 * y3) - d * x1 * y1 * ((x2 * y3 + y2 * x3) * (y2 * y3 - a * x2 * x3)))
    = (y1 * ((y2 * y3 - a * x2 * x3) * (1 + d * x2 * y2 * x3 * y3)) - a * x1 * ((x2 * y3 + y2 * x3) * (1 - d * x2 * y2 * x3 * y3))) * ((1 + d * x1 * y1 * x2 * y2) * (1 - d * x1 * y1 * x2 * y2) - d * x3 * y3 * ((x1 * y2 + y1 * x2) * (y1 * y2 - a * x1 * x2))) := by
  unfold On at e1 e2 e3
  grind
/-- A point. -/
structure Pt where
  x : F
  y : F
  on : On cA cD x y
theorem Pt.eq {P Q : Pt} (h1 : P.x = Q.x) (h2 : P.y = Q.y) : P = Q := by
  cases P; cases Q; simp only at h1 h2; subst h1 h2; rfl
/-- The sum's equations. -/
structure Sum (P Q S : Pt) : Prop where
  x : S.x * (1 + cD * P.x * P.y * Q.x * Q.y) = P.x * Q.y + P.y * Q.x
  y : S.y * (1 - cD * P.x * P.y * Q.x * Q.y) = P.y * Q.y - cA * P.x * Q.x
theorem add_on (P Q : Pt) : On cA cD ((P.x * Q.y + P.y * Q.x) * fi (1 + cD * P.x * P.y * Q.x * Q.y)) ((P.y * Q.y - cA * P.x * Q.x) * fi (1 - cD * P.x * P.y * Q.x * Q.y)) := by
  obtain ⟨N1, e1⟩ : ∃ N1, N1 = P.x * Q.y + P.y * Q.x := ⟨_, rfl⟩
  obtain ⟨N2, e2⟩ : ∃ N2, N2 = P.y * Q.y - cA * P.x * Q.x := ⟨_, rfl⟩
  obtain ⟨D1, e3⟩ : ∃ D1, D1 = 1 + cD * P.x * P.y * Q.x * Q.y := ⟨_, rfl⟩
  obtain ⟨D2, e4⟩ : ∃ D2, D2 = 1 - cD * P.x * P.y * Q.x * Q.y := ⟨_, rfl⟩
  have h := on_add P.on Q.on e1 e2 e3 e4
  have f1 := fi_mul (by rw [e3]; exact den1 P.on Q.on : D1 ≠ 0)
  have f2 := fi_mul (by rw [e4]; exact den2 P.on Q.on : D2 ≠ 0)
  rw [← e1, ← e2, ← e3, ← e4]
  generalize fi D1 = i1 at f1
  generalize fi D2 = i2 at f2
  unfold On
  clear e1 e2 e3 e4
  generalize cA = a at h
  generalize cD = d at h
  grind
/-- The sum. -/
def add (P Q : Pt) : Pt := ⟨(P.x * Q.y + P.y * Q.x) * fi (1 + cD * P.x * P.y * Q.x * Q.y), (P.y * Q.y - cA * P.x * Q.x) * fi (1 - cD * P.x * P.y * Q.x * Q.y), add_on P Q⟩
theorem fi_back {n d : F} (hd : d ≠ 0) : n * fi d * d = n := by
  have h := fi_mul hd
  grind
theorem add_sum (P Q : Pt) : Sum P Q (add P Q) := ⟨fi_back (den1 P.on Q.on), fi_back (den2 P.on Q.on)⟩
theorem Sum.uniq {P Q S T : Pt} (h : Sum P Q S) (k : Sum P Q T) : S = T :=
  Pt.eq (F.cancel (den1 P.on Q.on) (h.x.trans k.x.symm)) (F.cancel (den2 P.on Q.on) (h.y.trans k.y.symm))
theorem Sum.eq {P Q S : Pt} (h : Sum P Q S) : add P Q = S := (add_sum P Q).uniq h
theorem add_comm (P Q : Pt) : add P Q = add Q P := by
  have h := add_sum Q P
  refine Sum.eq ⟨?_, ?_⟩
  · have := h.x; grind
  · have := h.y; grind
def O : Pt := ⟨0, 1, by unfold On; decide⟩
theorem add_O (P : Pt) : add P O = P := by
  refine Sum.eq ⟨?_, ?_⟩ <;> (show _ = _) <;> simp only [O] <;> grind
theorem O_add (P : Pt) : add O P = P := by rw [add_comm, add_O]
def neg (P : Pt) : Pt := ⟨-P.x, P.y, by have := P.on; unfold On at *; grind⟩
theorem add_neg (P : Pt) : add P (neg P) = O := by
  have h := P.on
  unfold On at h
  refine Sum.eq ⟨?_, ?_⟩
  · show (0 : F) * _ = P.x * P.y + P.y * (-P.x)
    grind
  · show (1 : F) * (1 - cD * P.x * P.y * (-P.x) * P.y) = P.y * P.y - cA * P.x * (-P.x)
    grind
/-- What is left of both sides when the inner sums are written out. -/
theorem lift1 {a1 a2 b1 b2 c1 c2 sx sy ux uy d t1 t3 x1 y1 x3 y3 Z W : F} (hZ : Z ≠ 0) (hW : W ≠ 0) (h1 : sx * Z = a1) (h2 : sy * Z = b1) (h3 : sx * sy * Z = c1) (h4 : ux * W = a2) (h5 : uy * W = b2) (h6 : ux * uy * W = c2)
    (h : (a1 * y3 + b1 * x3) * (W + d * t1 * c2) = (x1 * b2 + y1 * a2) * (Z + d * t3 * c1)) : (sx * y3 + sy * x3) * (1 + d * t1 * (ux * uy)) = (x1 * uy + y1 * ux) * (1 + d * t3 * (sx * sy)) := by
  refine F.cancel (F.mul_ne hZ hW) ?_
  subst h1 h2 h3 h4 h5 h6
  grind
theorem lift2 {a1 a2 b1 b2 c1 c2 sx sy ux uy a d t1 t3 x1 y1 x3 y3 Z W : F} (hZ : Z ≠ 0) (hW : W ≠ 0) (h1 : sx * Z = a1) (h2 : sy * Z = b1) (h3 : sx * sy * Z = c1) (h4 : ux * W = a2) (h5 : uy * W = b2) (h6 : ux * uy * W = c2)
    (h : (b1 * y3 - a * a1 * x3) * (W - d * t1 * c2) = (y1 * b2 - a * x1 * a2) * (Z - d * t3 * c1)) : (sy * y3 - a * sx * x3) * (1 - d * t1 * (ux * uy)) = (y1 * uy - a * x1 * ux) * (1 - d * t3 * (sx * sy)) := by
  refine F.cancel (F.mul_ne hZ hW) ?_
  subst h1 h2 h3 h4 h5 h6
  grind
theorem cross {x y n m d e : F} (hd : d ≠ 0) (he : e ≠ 0) (h1 : x * d = n) (h2 : y * e = m) (h : n * e = m * d) : x = y := by
  refine F.cancel (F.mul_ne hd he) ?_
  subst h1 h2
  grind
theorem add_assoc (P Q R : Pt) : add (add P Q) R = add P (add Q R) := by
  have hS := add_sum P Q
  have hU := add_sum Q R
  have hL := add_sum (add P Q) R
  have hM := add_sum P (add Q R)
  have d1 := den1 P.on Q.on
  have d2 := den2 P.on Q.on
  have d3 := den1 Q.on R.on
  have d4 := den2 Q.on R.on
  have d5 := den1 (add P Q).on R.on
  have d6 := den2 (add P Q).on R.on
  have d7 := den1 P.on (add Q R).on
  have d8 := den2 P.on (add Q R).on
  have a1 := assoc1 P.on Q.on R.on
  have a2 := assoc2 P.on Q.on R.on
  generalize add P Q = S at *
  generalize add Q R = U at *
  generalize add S R = L at *
  generalize add P U = M at *
  obtain ⟨hS1, hS2⟩ := hS
  obtain ⟨hU1, hU2⟩ := hU
  obtain ⟨hL1, hL2⟩ := hL
  obtain ⟨hM1, hM2⟩ := hM
  obtain ⟨D1, e1⟩ : ∃ D1, D1 = 1 + cD * P.x * P.y * Q.x * Q.y := ⟨_, rfl⟩
  obtain ⟨D2, e2⟩ : ∃ D1, D1 = 1 - cD * P.x * P.y * Q.x * Q.y := ⟨_, rfl⟩
  obtain ⟨D3, e3⟩ : ∃ D1, D1 = 1 + cD * Q.x * Q.y * R.x * R.y := ⟨_, rfl⟩
  obtain ⟨D4, e4⟩ : ∃ D1, D1 = 1 - cD * Q.x * Q.y * R.x * R.y := ⟨_, rfl⟩
  obtain ⟨N1, f1⟩ : ∃ N, N = P.x * Q.y + P.y * Q.x := ⟨_, rfl⟩
  obtain ⟨N2, f2⟩ : ∃ N, N = P.y * Q.y - cA * P.x * Q.x := ⟨_, rfl⟩
  obtain ⟨N3, f3⟩ : ∃ N, N = Q.x * R.y + Q.y * R.x := ⟨_, rfl⟩
  obtain ⟨N4, f4⟩ : ∃ N, N = Q.y * R.y - cA * Q.x * R.x := ⟨_, rfl⟩
  rw [← e1] at d1 hS1
  rw [← e2] at d2 hS2
  rw [← e3] at d3 hU1
  rw [← e4] at d4 hU2
  rw [← f1] at hS1
  rw [← f2] at hS2
  rw [← f3] at hU1
  rw [← f4] at hU2
  rw [← e1, ← e2, ← e3, ← e4, ← f1, ← f2, ← f3, ← f4] at a1 a2
  have g1 : S.x * (D1 * D2) = N1 * D2 := by rw [← hS1]; grind
  have g2 : S.y * (D1 * D2) = N2 * D1 := by rw [← hS2]; grind
  have g3 : S.x * S.y * (D1 * D2) = N1 * N2 := by rw [← hS1, ← hS2]; grind
  have g4 : U.x * (D3 * D4) = N3 * D4 := by rw [← hU1]; grind
  have g5 : U.y * (D3 * D4) = N4 * D3 := by rw [← hU2]; grind
  have g6 : U.x * U.y * (D3 * D4) = N3 * N4 := by rw [← hU1, ← hU2]; grind
  have l1 := lift1 (d := cD) (t1 := P.x * P.y) (t3 := R.x * R.y) (x1 := P.x) (y1 := P.y) (x3 := R.x) (y3 := R.y) (F.mul_ne d1 d2) (F.mul_ne d3 d4) g1 g2 g3 g4 g5 g6 (by rw [show cD * (P.x * P.y) = cD * P.x * P.y by grind, show cD * (R.x * R.y) = cD * R.x * R.y by grind]; exact a1)
  have l2 := lift2 (a := cA) (d := cD) (t1 := P.x * P.y) (t3 := R.x * R.y) (x1 := P.x) (y1 := P.y) (x3 := R.x) (y3 := R.y) (F.mul_ne d1 d2) (F.mul_ne d3 d4) g1 g2 g3 g4 g5 g6 (by rw [show cD * (P.x * P.y) = cD * P.x * P.y by grind, show cD * (R.x * R.y) = cD * R.x * R.y by grind]; exact a2)
  clear a1 a2 g1 g2 g3 g4 g5 g6 hS1 hS2 hU1 hU2 e1 e2 e3 e4 f1 f2 f3 f4 d1 d2 d3 d4
  refine Pt.eq ?_ ?_
  · refine cross d5 d7 hL1 hM1 ?_
    rw [show 1 + cD * P.x * P.y * U.x * U.y = 1 + cD * (P.x * P.y) * (U.x * U.y) by grind, l1]
    grind
  · refine cross d6 d8 hL2 hM2 ?_
    rw [show 1 - cD * P.x * P.y * U.x * U.y = 1 - cD * (P.x * P.y) * (U.x * U.y) by grind, l2]
    grind
/-- n times a point. -/
def mul : Nat → Pt → Pt
  | 0, _ => O
  | n + 1, P => add (mul n P) P
theorem mul_zero (P : Pt) : mul 0 P = O := rfl
theorem mul_succ (n : Nat) (P : Pt) : mul (n + 1) P = add (mul n P) P := rfl
theorem mul_one (P : Pt) : mul 1 P = P := by rw [mul_succ, mul_zero, O_add]
theorem mul_add (m n : Nat) (P : Pt) : mul (m + n) P = add (mul m P) (mul n P) := by
  induction n with
  | zero => rw [Nat.add_zero, mul_zero, add_O]
  | succ n ih => rw [← Nat.add_assoc, mul_succ, mul_succ, ih, add_assoc]
theorem mul_mul (m n : Nat) (P : Pt) : mul m (mul n P) = mul (m * n) P := by
  induction m with
  | zero => rw [Nat.zero_mul, mul_zero, mul_zero]
  | succ m ih => rw [mul_succ, ih, Nat.succ_mul, mul_add]
theorem mul_swap (m n : Nat) (P : Pt) : mul m (mul n P) = mul n (mul m P) := by rw [mul_mul, mul_mul, Nat.mul_comm]
end Go.Proofs.YtdgapijgdbhlfaaDoor.Ed
