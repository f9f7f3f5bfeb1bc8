/- What one step of the ladder does to points. -/
import Derived.Test.YtdgapijgdbhlfaaDoorEdB
namespace Go.Proofs.YtdgapijgdbhlfaaDoor.Ed
theorem dy_ne (P : Pt) : cA - cD * P.y * P.y ≠ 0 := fun h => by
  have e := P.on
  unfold On at e
  have h1 : P.y * P.y = 1 := by
    have : P.x * P.x * (cA - cD * P.y * P.y) = 0 := by rw [h]; grind
    grind
  have h3 : cA = cD := by grind
  exact absurd h3 (by decide)
/-- The ratio X : Z stands for the point. -/
structure Rep (X Z : F) (P : Pt) : Prop where
  y : X - Z = P.y * (X + Z)
  ne : X + Z ≠ 0
theorem dbl_poly {a d c x y s D : F} (h : On a d x y) (ha : a = d + 4) (hd : d = 4 * c) (hD : D = 1 - d * x * y * x * y) :
    (s * s * (y * s * (y * s)) - (s * s - y * s * (y * s)) * (s * s + c * (s * s - y * s * (y * s)))) * D = (y * y - a * x * x) * (s * s * (y * s * (y * s)) + (s * s - y * s * (y * s)) * (s * s + c * (s * s - y * s * (y * s)))) := by
  unfold On at h
  subst ha hD hd
  grind
theorem dbl_poly2 {a d c x y s D : F} (h : On a d x y) (ha : a = d + 4) (hd : d = 4 * c) (hD : D = 1 - d * x * y * x * y) :
    4 * (s * s * (y * s * (y * s)) + (s * s - y * s * (y * s)) * (s * s + c * (s * s - y * s * (y * s)))) = s * s * (s * s) * ((a - d * y * y) * D) := by
  unfold On at h
  subst ha hD hd
  grind
theorem Rep.dbl {X Z : F} {P : Pt} (h : Rep X Z P) :
    Rep ((X + Z) * (X + Z) * ((X - Z) * (X - Z))) (((X + Z) * (X + Z) - (X - Z) * (X - Z)) * ((X + Z) * (X + Z) + 121665 * ((X + Z) * (X + Z) - (X - Z) * (X - Z)))) (add P P) := by
  obtain ⟨hy, hn⟩ := h
  rw [hy]
  generalize X + Z = s at hn
  have hs := (add_sum P P).y
  have hD := den2 P.on P.on
  obtain ⟨D, eD⟩ : ∃ D, D = 1 - cD * P.x * P.y * P.x * P.y := ⟨_, rfl⟩
  have p1 := dbl_poly (s := s) P.on cA_eq cD_eq eD
  have p2 := dbl_poly2 (s := s) P.on cA_eq cD_eq eD
  rw [← eD] at hs hD
  refine ⟨F.cancel hD ?_, fun h0 => ?_⟩
  · rw [p1, ← hs]
    grind
  · rw [h0] at p2
    refine F.mul_ne (F.mul_ne (F.mul_ne hn hn) (F.mul_ne hn hn)) (F.mul_ne (dy_ne P) hD) ?_
    rw [← p2]
    grind
theorem sum_poly {a d x1 y1 x2 y2 : F} (h1 : On a d x1 y1) (h2 : On a d x2 y2) :
    ((1 - d * x1 * y1 * x2 * y2) - (y1 * y2 - a * x1 * x2)) * ((1 + d * x1 * y1 * x2 * y2) - (y1 * y2 + a * x1 * x2)) * ((y1 + y2) * (y1 + y2)) = ((1 - d * x1 * y1 * x2 * y2) + (y1 * y2 - a * x1 * x2)) * ((1 + d * x1 * y1 * x2 * y2) + (y1 * y2 + a * x1 * x2)) * ((y1 - y2) * (y1 - y2)) := by
  unfold On at h1 h2
  grind
theorem sum_poly2 {yp ym D1 D2 n1 n2 s1 s2 : F} (hD1 : D1 ≠ 0) (hD2 : D2 ≠ 0) (e1 : yp * D2 = n1) (e2 : ym * D1 = n2) (h : (D2 - n1) * (D1 - n2) * s1 = (D2 + n1) * (D1 + n2) * s2) : (1 - yp) * (1 - ym) * s1 = (1 + yp) * (1 + ym) * s2 := by
  refine F.cancel (F.mul_ne hD1 hD2) ?_
  subst e1 e2
  grind
/-- Of two points, their sum and what is between them. -/
structure Diff (P Q : Pt) (y : F) : Prop where
  y : y * (1 + cD * P.x * P.y * Q.x * Q.y) = P.y * Q.y + cA * P.x * Q.x
theorem Diff.symm {P Q : Pt} {y : F} (h : Diff P Q y) : Diff Q P y := ⟨by have := h.y; grind⟩
theorem Diff.of (P Q : Pt) : Diff P (add P Q) Q.y := by
  have h := add_sum (add P Q) (neg P)
  have e : add (add P Q) (neg P) = Q := by rw [add_comm P Q, add_assoc, add_neg, add_O]
  rw [e] at h
  have hy := h.y
  simp only [neg] at hy
  exact ⟨by grind⟩
theorem end1 {A B u yp : F} (h0 : A * A + u * (B * B) = 0) (key : A * A - u * (B * B) = yp * 0) (hu0 : u ≠ 0) : A = 0 ∧ B = 0 := by
  have h1 : 2 * (A * A) = 0 := by grind
  have h2 : A = 0 := (F.mul0 (half h1)).elim id id
  refine ⟨h2, ?_⟩
  have h3 : u * (B * B) = 0 := by grind
  exact (F.mul0 h3).elim (fun h => absurd h hu0) fun h => (F.mul0 h).elim id id
theorem end2 {y1 y2 s1 s2 : F} (h1 : y2 * s2 * s1 + s2 * (y1 * s1) = 0) (h2 : y2 * s2 * s1 - s2 * (y1 * s1) = 0) (hn1 : s1 ≠ 0) (hn2 : s2 ≠ 0) : y1 = 0 ∧ y2 = 0 := by
  have h3 : 2 * (y1 * (s1 * s2)) = 0 := by grind
  have h4 : 2 * (y2 * (s1 * s2)) = 0 := by grind
  exact ⟨(F.mul0 (half h3)).elim id fun h => absurd h (F.mul_ne hn1 hn2), (F.mul0 (half h4)).elim id fun h => absurd h (F.mul_ne hn1 hn2)⟩
theorem end3 {a d x1 x2 u ym : F} (h1 : On a d x1 0) (h2 : On a d x2 0) (hd : ym * (1 + d * x1 * 0 * x2 * 0) = 0 * 0 + a * x1 * x2) (hu : u * (1 - ym) = 1 + ym) (hu0 : u ≠ 0) (hm : ym ≠ 1) : False := by
  unfold On at h1 h2
  simp only [Fin.mul_zero, Fin.zero_mul, Fin.add_zero, Fin.zero_add, Fin.mul_one] at h1 h2 hd
  have hq : (ym - 1) * (ym + 1) = 0 := by clear hu; grind
  rcases F.mul0 hq with h | h
  · exact hm (by clear hu hd h1 h2; grind)
  · refine hu0 (half ?_)
    clear hd h1 h2
    grind
theorem Rep.sum {X2 Z2 X3 Z3 u ym : F} {P Q : Pt} (h1 : Rep X2 Z2 P) (h2 : Rep X3 Z3 Q) (hd : Diff P Q ym) (hu : u * (1 - ym) = 1 + ym) (hu0 : u ≠ 0) (hm : ym ≠ 1) :
    Rep (((X3 - Z3) * (X2 + Z2) + (X3 + Z3) * (X2 - Z2)) * ((X3 - Z3) * (X2 + Z2) + (X3 + Z3) * (X2 - Z2))) (u * (((X3 - Z3) * (X2 + Z2) - (X3 + Z3) * (X2 - Z2)) * ((X3 - Z3) * (X2 + Z2) - (X3 + Z3) * (X2 - Z2)))) (add P Q) := by
  obtain ⟨hy1, hn1⟩ := h1
  obtain ⟨hy2, hn2⟩ := h2
  rw [hy1, hy2]
  generalize X2 + Z2 = s1 at hn1
  generalize X3 + Z3 = s2 at hn2
  have hs := (add_sum P Q).y
  have hd := hd.y
  have p1 := sum_poly P.on Q.on
  have p2 := sum_poly2 (den1 P.on Q.on) (den2 P.on Q.on) hs hd p1
  have hm1 : 1 - ym ≠ 0 := fun h => hm (by grind)
  generalize hyp : (add P Q).y = yp at p2
  have key : (Q.y * s2 * s1 + s2 * (P.y * s1)) * (Q.y * s2 * s1 + s2 * (P.y * s1)) - u * ((Q.y * s2 * s1 - s2 * (P.y * s1)) * (Q.y * s2 * s1 - s2 * (P.y * s1))) = yp * ((Q.y * s2 * s1 + s2 * (P.y * s1)) * (Q.y * s2 * s1 + s2 * (P.y * s1)) + u * ((Q.y * s2 * s1 - s2 * (P.y * s1)) * (Q.y * s2 * s1 - s2 * (P.y * s1)))) := by
    refine F.cancel hm1 ?_
    generalize P.y = y1 at p2 ⊢
    generalize Q.y = y2 at p2 ⊢
    clear hyp hs hd p1 hy1 hy2
    grind
  refine ⟨by rw [hyp]; exact key, fun h0 => ?_⟩
  rw [h0] at key
  obtain ⟨hA, hB⟩ := end1 h0 key hu0
  obtain ⟨z1, z2⟩ := end2 hA hB hn1 hn2
  have ho1 := P.on
  have ho2 := Q.on
  rw [z1] at ho1 hd
  rw [z2] at ho2 hd
  exact end3 ho1 ho2 hd hu hu0 hm
end Go.Proofs.YtdgapijgdbhlfaaDoor.Ed
