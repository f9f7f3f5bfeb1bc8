/- All things, as they are found from the root on: each once. -/
import Derived.Test.YtnigfnikajejaaaTrI
namespace Go.Proofs.Ytnigfnikajejaaa
open Go Go.RowKit

/-- The numbers of a thing and of all below it, so deep and no deeper. -/
def idsO (l : List Th) : Nat → Nat → List Nat
  | 0, _ => []
  | F + 1, i => match findT l i with
    | none => []
    | some x => i :: x.h.flatMap fun e => idsO l F e.2
theorem idsO_eq {l : List Th} {F i : Nat} {x : Th} (h : findT l i = some x) : idsO l (F + 1) i = i :: x.h.flatMap fun e => idsO l F e.2 := by
  rw [idsO, h]
section
variable {S : Tr} {pa : Nat → Nat} {nm : Nat → Nm}
theorem Ok.walk_cons (o : Ok S pa nm) {x : Th} (hx : x ∈ S.ths) {e : Nm × Nat} (he : e ∈ x.h) (q : List Nm) : walkT S.ths x.id (e.1 :: q) = walkT S.ths e.2 q := by
  rw [walkT, findT_nat o.inc hx rfl]
  simp only
  rw [(getH_some (o.srt x hx) e.1 e.2).2 he]
theorem Ok.ids_mem (o : Ok S pa nm) : ∀ (F : Nat) (x : Th), x ∈ S.ths → ∀ k, k ∈ idsO S.ths F x.id ↔ ∃ q, q.length < F ∧ walkT S.ths x.id q = some k := by
  intro F
  induction F with
  | zero =>
    intro x _ k
    constructor
    · intro h; cases h
    · rintro ⟨q, h, _⟩; omega
  | succ F ih =>
    intro x hx k
    rw [idsO_eq (findT_nat o.inc hx rfl), List.mem_cons, List.mem_flatMap]
    constructor
    · rintro (rfl | ⟨e, he, hk⟩)
      · exact ⟨[], by simp, rfl⟩
      · obtain ⟨_, ⟨y, hy, hye⟩, _⟩ := (o.held x hx e.1 e.2).1 he
        rw [← hye] at hk
        obtain ⟨q, hq, hw⟩ := (ih y hy k).1 hk
        exact ⟨e.1 :: q, by simpa using hq, by rw [o.walk_cons hx he, ← hye]; exact hw⟩
    · rintro ⟨q, hq, hw⟩
      cases q with
      | nil => cases hw; exact .inl rfl
      | cons n q =>
        rw [walkT, findT_nat o.inc hx rfl] at hw
        simp only at hw
        cases hg : getH x.h n with
        | none => rw [hg] at hw; cases hw
        | some j =>
          rw [hg] at hw
          obtain ⟨_, ⟨y, hy, hye⟩, _⟩ := o.mem_child hx hg
          refine .inr ⟨(n, j), (getH_some (o.srt x hx) n j).1 hg, ?_⟩
          simp only
          rw [← hye]
          exact (ih y hy k).2 ⟨q, by simp at hq; omega, by rw [hye]; exact hw⟩
theorem Ok.ids_nodup (o : Ok S pa nm) : ∀ (F : Nat) (p : List Nm) (x : Th), x ∈ S.ths → walkT S.ths 0 p = some x.id → (idsO S.ths F x.id).Nodup := by
  intro F
  induction F with
  | zero => intro _ _ _ _; exact List.nodup_nil
  | succ F ih =>
    intro p x hx hp
    have below : ∀ e ∈ x.h, ∀ k ∈ idsO S.ths F e.2, ∃ q, walkT S.ths 0 (p ++ e.1 :: q) = some k := by
      intro e he k hk
      obtain ⟨_, ⟨y, hy, hye⟩, _⟩ := (o.held x hx e.1 e.2).1 he
      rw [← hye] at hk
      obtain ⟨q, _, hw⟩ := (o.ids_mem F y hy k).1 hk
      exact ⟨q, by rw [walk_append, hp]; show walkT S.ths x.id (e.1 :: q) = _; rw [o.walk_cons hx he, ← hye]; exact hw⟩
    rw [idsO_eq (findT_nat o.inc hx rfl), List.nodup_cons]
    constructor
    · intro h
      obtain ⟨e, he, hk⟩ := List.mem_flatMap.1 h
      obtain ⟨q, hq⟩ := below e he _ hk
      have h2 := congrArg List.length (o.inj _ _ _ _ (Nat.le_refl _) hp hq)
      simp at h2
    · refine List.pairwise_flatMap.2 ⟨fun e he => ?_, ?_⟩
      · obtain ⟨_, ⟨y, hy, hye⟩, _⟩ := (o.held x hx e.1 e.2).1 he
        rw [← hye]
        exact ih (p ++ [e.1]) y hy (by rw [walk_append, hp]; show walkT S.ths x.id [e.1] = _; rw [o.walk_cons hx he, hye]; rfl)
      · refine List.Pairwise.imp_of_mem ?_ (o.srt x hx)
        intro e e' he he' hlt k hk k' hk' hkk
        subst hkk
        obtain ⟨q, hq⟩ := below e he _ hk
        obtain ⟨q', hq'⟩ := below e' he' _ hk'
        have h2 := o.inj _ _ _ _ (Nat.le_refl _) hq hq'
        have h3 := List.append_cancel_left h2
        exact nlt_ne hlt (List.cons.inj h3).1
/-- How deep each thing lies. -/
structure Dep (S : Tr) (pa : Nat → Nat) (dp : Nat → Nat) : Prop where
  zero : dp 0 = 0
  up : ∀ x ∈ S.ths, x.id ≠ 0 → dp x.id = dp (pa x.id) + 1
  low : ∀ x ∈ S.ths, dp x.id ≤ 5
theorem Ok.path (o : Ok S pa nm) {dp : Nat → Nat} (d : Dep S pa dp) : ∀ (n : Nat) (x : Th), x ∈ S.ths → dp x.id ≤ n → ∃ p, p.length = dp x.id ∧ walkT S.ths 0 p = some x.id := by
  intro n
  induction n with
  | zero =>
    intro x hx hn
    by_cases h0 : x.id = 0
    · exact ⟨[], by rw [h0, d.zero]; rfl, by rw [h0]; rfl⟩
    · have := d.up x hx h0; omega
  | succ n ih =>
    intro x hx hn
    by_cases h0 : x.id = 0
    · exact ⟨[], by rw [h0, d.zero]; rfl, by rw [h0]; rfl⟩
    · have h1 := d.up x hx h0
      obtain ⟨q, hq, hqe, _⟩ := o.par x hx h0
      obtain ⟨p, hp, hw⟩ := ih q hq (by rw [hqe]; omega)
      refine ⟨p ++ [nm x.id], by rw [List.length_append, hp, hqe, h1]; rfl, ?_⟩
      rw [walk_snoc, hw]
      simp only [findT_nat o.inc hq rfl]
      exact (getH_some (o.srt q hq) _ _).2 ((o.held q hq _ _).2 ⟨h0, ⟨x, hx, rfl⟩, hqe.symm, rfl⟩)
/-- From the root on each thing is found once. -/
theorem Ok.ids_perm (o : Ok S pa nm) {dp : Nat → Nat} (d : Dep S pa dp) {F : Nat} (hF : 6 ≤ F) : (idsO S.ths F 0).Perm (S.ths.map (·.id)) := by
  obtain ⟨r, hr, hr0⟩ := o.rootMem
  have hn := o.ids_nodup F [] r hr (by rw [hr0]; rfl)
  rw [hr0] at hn
  have hi : (S.ths.map (·.id)).Nodup := by
    refine List.pairwise_map.2 (List.Pairwise.imp ?_ o.inc)
    intro a b hab
    omega
  rw [List.perm_ext_iff_of_nodup hn hi]
  intro k
  have hm := o.ids_mem F r hr k
  rw [hr0] at hm
  rw [hm, List.mem_map]
  constructor
  · rintro ⟨q, _, hw⟩
    obtain ⟨x, hx, hxe⟩ := o.walk_mem q 0 o.rootMem k hw
    exact ⟨x, hx, hxe⟩
  · rintro ⟨x, hx, rfl⟩
    obtain ⟨p, hp, hw⟩ := o.path d _ x hx (Nat.le_refl _)
    exact ⟨p, by have := d.low x hx; omega, hw⟩
theorem Ok.ids_count (o : Ok S pa nm) {dp : Nat → Nat} (d : Dep S pa dp) {F : Nat} (hF : 6 ≤ F) : (idsO S.ths F 0).length = S.ths.length := by
  rw [(o.ids_perm d hF).length_eq, List.length_map]
/-- So the bytes of all, too. -/
theorem Ok.ids_size (o : Ok S pa nm) {dp : Nat → Nat} (d : Dep S pa dp) {F : Nat} (hF : 6 ≤ F) : ((idsO S.ths F 0).map fun k => (attrsOf S k).s).sum = sizeT S.ths := by
  rw [((o.ids_perm d hF).map _).sum_nat, List.map_map]
  unfold sizeT
  congr 1
  apply List.map_congr_left
  intro x hx
  simp only [Function.comp, attrsOf]
  rw [findT_nat o.inc hx rfl]
  exact (o.att x hx).2.2
end
end Go.Proofs.Ytnigfnikajejaaa
