/- What is left of a tree behind Remove, plainly. -/
import Derived.Test.YtnigfnikajejaaaTrH
namespace Go.Proofs.Ytnigfnikajejaaa
open Go Go.RowKit

theorem sizeT_filter (l : List Th) (p : Th → Bool) : sizeT (l.filter p) ≤ sizeT l := by
  induction l with
  | nil => exact Nat.le_refl _
  | cons x l ih =>
    rw [List.filter_cons]
    split
    · unfold sizeT at ih ⊢; simp only [List.map_cons, List.sum_cons]; omega
    · unfold sizeT at ih ⊢; simp only [List.map_cons, List.sum_cons]; omega
section
variable {S : Tr} {pa : Nat → Nat} {nm : Nat → Nm}
theorem Ok.remove (o : Ok S pa nm) {p : List Nm} {j : Nat} {xj : Th} (hpe : p ≠ []) (hj : walkT S.ths 0 p = some j) (hf : findT S.ths j = some xj) (hh : xj.h = []) :
    Ok ⟨(setT S.ths ((walkT S.ths 0 p.dropLast).getD 0) (cutH (lastN p))).filter fun y => !decide (y.id = j), S.next⟩ pa nm := by
  obtain ⟨hxj, hxje⟩ := (findT_some o.inc _ _).1 hf
  have hxje : xj.id = j := by omega
  obtain ⟨x1, hx1, b1, b2, b3, b4, b5⟩ := o.walk_holder hpe hj
  rw [b1, Option.getD_some]
  let g : Th → Th := fun z => if z.id = x1.id then cutH (lastN p) z else z
  have hset : setT S.ths x1.id (cutH (lastN p)) = S.ths.map g := rfl
  have g1 : ∀ z, (g z).id = z.id := fun z => by simp only [g]; split <;> rfl
  have g2 : ∀ z, (g z).dir = z.dir := fun z => by simp only [g]; split <;> rfl
  have g3 : ∀ z, (g z).a = z.a := fun z => by simp only [g]; split <;> rfl
  have g4 : ∀ z, (g z).d = z.d := fun z => by simp only [g]; split <;> rfl
  rw [hset]
  have hmem : ∀ y, y ∈ (S.ths.map g).filter (fun y => !decide (y.id = j)) ↔ ∃ z ∈ S.ths, y = g z ∧ z.id ≠ j := fun y => by
    rw [List.mem_filter, List.mem_map]
    constructor
    · rintro ⟨⟨z, h1, rfl⟩, h2⟩
      refine ⟨z, h1, rfl, ?_⟩
      simpa [g1] using h2
    · rintro ⟨z, h1, rfl, h2⟩
      exact ⟨⟨z, h1, rfl⟩, by simpa [g1] using h2⟩
  have hex : ∀ k, (∃ u ∈ (S.ths.map g).filter (fun y => !decide (y.id = j)), u.id = k) ↔ (∃ u ∈ S.ths, u.id = k) ∧ k ≠ j := fun k => by
    constructor
    · rintro ⟨u, hu, hk⟩
      obtain ⟨z, hz, rfl, hzj⟩ := (hmem u).1 hu
      rw [g1] at hk
      exact ⟨⟨z, hz, hk⟩, by rw [← hk]; exact hzj⟩
    · rintro ⟨⟨z, hz, hk⟩, hkj⟩
      exact ⟨g z, (hmem _).2 ⟨z, hz, rfl, by rw [hk]; exact hkj⟩, by rw [g1]; exact hk⟩
  have hcut : ∀ z ∈ S.ths, ∀ n k, (n, k) ∈ (g z).h ↔ (n, k) ∈ z.h ∧ k ≠ j := by
    intro z hz n k
    simp only [g]
    split
    · next e =>
      have : z = x1 := o.inc.uniq hz hx1 e
      subst this
      show (n, k) ∈ delH z.h (lastN p) ↔ _
      rw [mem_delH]
      constructor
      · rintro ⟨h1, h2⟩
        refine ⟨h1, fun h3 => h2 ?_⟩
        rw [h3] at h1
        exact (((o.held z hz n j).1 h1).2.2.2.symm).trans b5
      · rintro ⟨h1, h2⟩
        refine ⟨h1, fun h3 => h2 ?_⟩
        have h3' : n = lastN p := h3
        rw [h3'] at h1
        have := (getH_some (o.srt z hz) _ k).2 h1
        rw [b2] at this
        exact (Option.some.inj this).symm
    · next e =>
      constructor
      · intro h1
        refine ⟨h1, fun h3 => e ?_⟩
        rw [h3] at h1
        rw [← b4]
        exact ((o.held z hz n j).1 h1).2.2.1.symm
      · exact fun h => h.1
  have hleaf : ∀ z ∈ S.ths, z.id ≠ 0 → pa z.id ≠ j := by
    intro z hz h0 e
    have := (o.held xj hxj (nm z.id) z.id).2 ⟨h0, ⟨z, hz, rfl⟩, by rw [e, hxje], rfl⟩
    rw [hh] at this
    cases this
  refine ⟨?_, ?_, ?_, ?_, ?_, ?_, ?_, ?_, ?_, ?_, ?_, ?_, ?_⟩
  · obtain ⟨r, t, h1, h2, h3⟩ := o.root
    refine ⟨g r, (t.map g).filter fun y => !decide (y.id = j), ?_, by rw [g1, h2], by rw [g2, h3]⟩
    show (S.ths.map g).filter _ = _
    rw [h1, List.map_cons, List.filter_cons, if_pos (by rw [g1, h2]; simp; omega)]
  · refine List.Pairwise.filter _ (inc_ids (l := S.ths) ?_ o.inc)
    rw [List.map_map]
    exact List.map_congr_left fun z _ => g1 z
  · intro y hy
    obtain ⟨z, hz, rfl, _⟩ := (hmem y).1 hy
    rw [g1]; exact o.lt z hz
  · intro y hy h0
    obtain ⟨z, hz, rfl, _⟩ := (hmem y).1 hy
    rw [g1] at h0 ⊢
    obtain ⟨q, hq, hq1, hq2⟩ := o.par z hz h0
    exact ⟨g q, (hmem _).2 ⟨q, hq, rfl, by rw [hq1]; exact hleaf z hz h0⟩, by rw [g1]; exact hq1, by rw [g2]; exact hq2⟩
  · obtain ⟨rk, hrk⟩ := o.rank
    refine ⟨rk, fun y hy h0 => ?_⟩
    obtain ⟨z, hz, rfl, _⟩ := (hmem y).1 hy
    rw [g1] at h0 ⊢
    exact hrk z hz h0
  · intro y hy y' hy' h0 k0 e1 e2
    obtain ⟨z, hz, rfl, _⟩ := (hmem y).1 hy
    obtain ⟨z', hz', rfl, _⟩ := (hmem y').1 hy'
    rw [g1] at h0 k0
    rw [g1, g1] at e1 e2 ⊢
    exact o.sib z hz z' hz' h0 k0 e1 e2
  · intro y hy h0
    obtain ⟨z, hz, rfl, _⟩ := (hmem y).1 hy
    rw [g1] at h0 ⊢
    exact o.right z hz h0
  · intro y hy n k
    obtain ⟨z, hz, rfl, _⟩ := (hmem y).1 hy
    rw [g1, hcut z hz, o.held z hz]
    show _ ↔ k ≠ 0 ∧ (∃ u ∈ (S.ths.map g).filter (fun y => !decide (y.id = j)), u.id = k) ∧ _
    rw [hex]
    constructor
    · rintro ⟨⟨c1, c2, c3, c4⟩, c5⟩; exact ⟨c1, ⟨c2, c5⟩, c3, c4⟩
    · rintro ⟨c1, ⟨c2, c5⟩, c3, c4⟩; exact ⟨⟨c1, c2, c3, c4⟩, c5⟩
  · intro y hy
    obtain ⟨z, hz, rfl, _⟩ := (hmem y).1 hy
    simp only [g]
    split
    · exact delH_srt (o.srt z hz) _
    · exact o.srt z hz
  · intro y hy hd
    obtain ⟨z, hz, rfl, _⟩ := (hmem y).1 hy
    rw [g2] at hd
    rw [g4]; exact o.file z hz hd
  · intro y hy
    obtain ⟨z, hz, rfl, _⟩ := (hmem y).1 hy
    rw [g4, g3]; exact o.att z hz
  · refine Nat.le_trans (List.length_filter_le _ _) ?_
    rw [List.length_map]; exact o.cnt
  · refine Nat.le_trans (sizeT_filter _ _) ?_
    have : sizeT (S.ths.map g) = sizeT S.ths := by
      unfold sizeT
      rw [List.map_map]
      congr 1
      exact List.map_congr_left fun z _ => by simp only [Function.comp]; rw [g4]
    rw [this]; exact o.bytes
theorem Ok.removes (o : Ok S pa nm) (p : List Nm) (dir : Bool) : Ok (removeT S p dir).2 pa nm := by
  unfold removeT
  split
  · exact o
  · next h1 =>
    split
    · exact o
    · next j hj =>
      split
      · exact o
      · next x hx =>
        split
        · exact o
        · split
          · exact o
          · next h3 => exact o.remove h1 hj hx (Classical.not_not.1 h3)
end
end Go.Proofs.Ytnigfnikajejaaa
