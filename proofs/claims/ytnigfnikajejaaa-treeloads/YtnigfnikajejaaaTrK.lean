/- How deep a tree is that Make and Write made of short paths. -/
import Derived.Test.YtnigfnikajejaaaTrJ
namespace Go.Proofs.Ytnigfnikajejaaa
open Go Go.RowKit

/-- A tree of no more than five names from the root on. -/
def Tall (S : Tr) : Prop := ∃ pa nm dp, Ok S pa nm ∧ Dep S pa dp
section
variable {S : Tr} {pa : Nat → Nat} {nm : Nat → Nm}
theorem Ok.depth (o : Ok S pa nm) {dp : Nat → Nat} (d : Dep S pa dp) {p : List Nm} {x : Th} (hx : x ∈ S.ths) (hw : walkT S.ths 0 p = some x.id) : p.length = dp x.id := by
  obtain ⟨q, h1, h2⟩ := o.path d _ x hx (Nat.le_refl _)
  rw [o.inj _ _ _ _ (Nat.le_refl _) hw h2, h1]
theorem tall_new : Tall newTr := by
  refine ⟨_, _, fun _ => 0, new_ok, rfl, fun x hx h => absurd (by rw [List.mem_singleton.1 hx]; rfl) h, fun _ _ => Nat.zero_le _⟩
theorem Tall.make (h : Tall S) (p : List Nm) (dir : Bool) (hp : p.length ≤ 5) : Tall (makeT S p dir).2 := by
  obtain ⟨pa, nm, dp, o, d⟩ := h
  unfold makeT
  split
  · exact ⟨pa, nm, dp, o, d⟩
  · next hpe =>
    split
    · exact ⟨pa, nm, dp, o, d⟩
    · next hr =>
      split
      · exact ⟨pa, nm, dp, o, d⟩
      · next hc =>
        obtain ⟨i, hi⟩ := roomT_zero (Classical.not_not.1 hr)
        obtain ⟨_, hw, x, hx, hxi, _⟩ := roomT_ok o hi
        obtain ⟨ok, _⟩ := o.make hi (by omega) dir
        rw [hi]
        have hdi := o.depth d hx (by rw [hxi]; exact hw)
        rw [hxi] at hdi
        have hlt := o.lt x hx
        have hpl : p.dropLast.length ≤ 4 := by rw [List.length_dropLast]; omega
        have hn0 : S.next ≠ 0 := by
          obtain ⟨r, h1, h2⟩ := o.rootMem
          have := o.lt r h1
          omega
        have hids : ∀ y ∈ setT S.ths i (putH (lastN p) S.next) ++ [newT S.next dir], (∃ z ∈ S.ths, y.id = z.id) ∨ y.id = S.next := by
          intro y hy
          rcases List.mem_append.1 hy with hy | hy
          · obtain ⟨z, hz, rfl⟩ := mem_setT.1 hy
            exact .inl ⟨z, hz, by split <;> rfl⟩
          · rw [List.mem_singleton.1 hy]; exact .inr rfl
        refine ⟨_, _, upd dp S.next (dp i + 1), ok, ?_, ?_, ?_⟩
        · rw [upd_ne _ _ (fun e => hn0 e.symm), d.zero]
        · intro y hy h0
          rcases hids y hy with ⟨z, hz, e⟩ | e
          · rw [e] at h0 ⊢
            have h1 := o.lt z hz
            obtain ⟨q, hq, hqe, _⟩ := o.par z hz h0
            have h2 := o.lt q hq
            rw [upd_ne _ _ (by omega), upd_ne pa _ (by omega), upd_ne _ _ (by omega)]
            exact d.up z hz h0
          · rw [e, upd_self, upd_self, upd_ne _ _ (by omega)]
        · intro y hy
          rcases hids y hy with ⟨z, hz, e⟩ | e
          · have h1 := o.lt z hz
            rw [e, upd_ne _ _ (by omega)]
            exact d.low z hz
          · rw [e, upd_self]; omega
theorem Tall.write (h : Tall S) (i : Int) (k : Nat) (b : List UInt8) : Tall (writeT S i k b).2 := by
  obtain ⟨pa, nm, dp, o, d⟩ := h
  have hids : ∀ y ∈ (writeT S i k b).2.ths, ∃ z ∈ S.ths, y.id = z.id := by
    unfold writeT
    split
    · exact fun y hy => ⟨y, hy, rfl⟩
    · split
      · exact fun y hy => ⟨y, hy, rfl⟩
      · split
        · exact fun y hy => ⟨y, hy, rfl⟩
        · intro y hy
          obtain ⟨z, hz, rfl⟩ := mem_setT.1 hy
          have : ∃ u ∈ S.ths, z.id = u.id := by
            split at hz
            · obtain ⟨u, hu, rfl⟩ := mem_setT.1 hz
              exact ⟨u, hu, by split <;> rfl⟩
            · exact ⟨z, hz, rfl⟩
          obtain ⟨u, hu, e⟩ := this
          exact ⟨u, hu, by rw [← e]; split <;> rfl⟩
  refine ⟨pa, nm, dp, o.write i k b, d.zero, fun y hy h0 => ?_, fun y hy => ?_⟩
  · obtain ⟨z, hz, e⟩ := hids y hy
    rw [e] at h0 ⊢
    exact d.up z hz h0
  · obtain ⟨z, hz, e⟩ := hids y hy
    rw [e]; exact d.low z hz
end
end Go.Proofs.Ytnigfnikajejaaa
