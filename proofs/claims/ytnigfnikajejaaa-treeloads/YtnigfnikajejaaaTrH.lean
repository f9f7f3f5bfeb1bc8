/- Set and Remove of a tree, plainly; a call that is refused leaves all as it is. -/
import Derived.Test.YtnigfnikajejaaaTrG
namespace Go.Proofs.Ytnigfnikajejaaa
open Go Go.RowKit

def mrgF (y : At) (x : Th) : Th := { x with a := mergeA x.a y }
def setAT (S : Tr) (i : Int) (y : At) : Nat × Tr := match findT S.ths i with
  | none => (22, S)
  | some x => if rightA y = false then (1, S) else if bt 1 y.f = false then (0, ⟨setT S.ths x.id (mrgF y), S.next⟩)
    else if x.dir then (23, S) else if hasRoom S x y.s ≠ 0 then (hasRoom S x y.s, S)
    else (0, ⟨setT (setT S.ths x.id (sizeF y.s)) x.id (mrgF y), S.next⟩)
theorem or15 (n : Nat) (h : n ≤ 15) : 15 ||| n = 15 := by
  have : ∀ n : Fin 16, 15 ||| n.val = 15 := by decide
  exact this ⟨n, by omega⟩
section
variable {S : Tr} {pa : Nat → Nat} {nm : Nat → Nm}
theorem mergeA_ok {x y : At} (hx : x.Ok) (hy : y.Ok) (h15 : x.f = 15) (hr : y.f ≤ 15) : (mergeA x y).Ok ∧ (mergeA x y).f = 15 := by
  have hf : (mergeA x y).f = 15 := by show x.f ||| y.f = 15; rw [h15, or15 _ hr]
  refine ⟨⟨by rw [hf]; omega, ?_, ?_, ?_, ?_, ?_, ?_⟩, hf⟩
  · show (if bt 1 y.f then y.s else x.s) ≤ _; split; exact hy.s; exact hx.s
  · show (if bt 2 y.f then y.u else x.u) ≤ _; split; exact hy.u; exact hx.u
  · show (if bt 2 y.f then y.g else x.g) ≤ _; split; exact hy.g; exact hx.g
  · show (if bt 4 y.f then y.m else x.m) ≤ _; split; exact hy.m; exact hx.m
  · show (if bt 8 y.f then y.a else x.a) ≤ _; split; exact hy.a; exact hx.a
  · show (if bt 8 y.f then y.t else x.t) ≤ _; split; exact hy.t; exact hx.t
theorem rightA_f {y : At} (h : rightA y = true) : y.f ≤ 15 := by
  unfold rightA at h
  simp only [Bool.and_eq_true, decide_eq_true_eq] at h
  exact h.1.1.1.1
theorem Ok.mrg (o : Ok S pa nm) {x : Th} (hx : x ∈ S.ths) {y : At} (hy : y.Ok) (hr : y.f ≤ 15) (hs : bt 1 y.f = true → y.s = x.d.length) : Ok ⟨setT S.ths x.id (mrgF y), S.next⟩ pa nm := by
  obtain ⟨h1, h2, h3⟩ := o.att x hx
  obtain ⟨k1, k2⟩ := mergeA_ok h1 hy h2 hr
  refine o.upd hx (mrgF y) (fun _ => rfl) (fun _ => rfl) (fun _ => rfl) (fun h => o.file x hx h) ⟨k1, k2, ?_⟩ (sizeT_set_le o.inc hx _ ?_)
  · show (if bt 1 y.f then y.s else x.a.s) = x.d.length
    split
    · next h => exact hs h
    · exact h3
  · have := sizeT_at o.inc hx
    have := o.bytes
    show sizeT S.ths - x.d.length + x.d.length ≤ _
    omega
theorem Ok.set (o : Ok S pa nm) (i : Int) {y : At} (hy : y.Ok) : Ok (setAT S i y).2 pa nm := by
  unfold setAT
  cases hf : findT S.ths i with
  | none => exact o
  | some x =>
    obtain ⟨hx, _⟩ := (findT_some o.inc _ _).1 hf
    simp only
    split
    · exact o
    · next hr =>
      have hr' : rightA y = true := by simpa using hr
      split
      · next hb => exact o.mrg hx hy (rightA_f hr') (fun h => by rw [hb] at h; cases h)
      · split
        · exact o
        · next hd =>
          split
          · exact o
          · next hh =>
            have hd' : x.dir = false := by simpa using hd
            have o1 := o.size hx hd' (Classical.not_not.1 hh)
            have hm : sizeF y.s x ∈ (⟨setT S.ths x.id (sizeF y.s), S.next⟩ : Tr).ths := mem_setT.2 ⟨x, hx, by rw [if_pos rfl]⟩
            exact o1.mrg hm hy (rightA_f hr') (fun _ => (rz_length _ _).symm)
theorem setAT_no {i : Int} {y : At} (h : (setAT S i y).1 ≠ 0) : (setAT S i y).2 = S := by
  unfold setAT at h ⊢
  cases hf : findT S.ths i with
  | none => rfl
  | some x =>
    rw [hf] at h
    simp only at h ⊢
    split
    · rfl
    · next h1 =>
      rw [if_neg h1] at h
      split
      · next h2 => rw [if_pos h2] at h; exact absurd rfl h
      · next h2 =>
        rw [if_neg h2] at h
        split
        · rfl
        · next h3 =>
          rw [if_neg h3] at h
          split
          · rfl
          · next h4 => rw [if_neg h4] at h; exact absurd rfl h
theorem makeT_no {p : List Nm} {dir : Bool} (h : (makeT S p dir).1.2 ≠ 0) : (makeT S p dir).2 = S := by
  unfold makeT at h ⊢
  split
  · rfl
  · next h1 =>
    rw [if_neg h1] at h
    split
    · rfl
    · next h2 =>
      rw [if_neg h2] at h
      split
      · rfl
      · next h3 => rw [if_neg h3] at h; exact absurd rfl h
theorem removeT_no {p : List Nm} {dir : Bool} (h : (removeT S p dir).1 ≠ 0) : (removeT S p dir).2 = S := by
  unfold removeT at h ⊢
  split
  · rfl
  · next h1 =>
    rw [if_neg h1] at h
    split
    · rfl
    · next j hj =>
      simp only [hj] at h
      split
      · rfl
      · next x hx =>
        simp only [hx] at h
        split
        · rfl
        · next h2 =>
          rw [if_neg h2] at h
          split
          · rfl
          · next h3 => rw [if_neg h3] at h; exact absurd rfl h
theorem writeT_no {i : Int} {k : Nat} {b : List UInt8} (h : (writeT S i k b).1 ≠ 0) : (writeT S i k b).2 = S := by
  unfold writeT at h ⊢
  split
  · rfl
  · next x e hx =>
    simp only [hx] at h
    split
    · rfl
    · next h1 =>
      rw [if_neg h1] at h
      split
      · rfl
      · next h2 => rw [if_neg h2] at h; exact absurd rfl h
theorem setAT_next (i : Int) (y : At) : (setAT S i y).2.next = S.next := by
  unfold setAT
  split
  · rfl
  · split
    · rfl
    · split
      · rfl
      · split
        · rfl
        · split <;> rfl
theorem removeT_next (p : List Nm) (dir : Bool) : (removeT S p dir).2.next = S.next := by
  unfold removeT
  split
  · rfl
  · split
    · rfl
    · split
      · rfl
      · split
        · rfl
        · split <;> rfl
end
end Go.Proofs.Ytnigfnikajejaaa
