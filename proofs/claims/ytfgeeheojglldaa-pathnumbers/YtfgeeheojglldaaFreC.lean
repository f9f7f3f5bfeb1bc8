/- The law of FreA for any invariant over what has been run. -/
import Derived.Test.YtfgeeheojglldaaFreA
namespace Go.Proofs.Ytfgeeheojglldaa
open Go

section
variable {P : Program} {ops : Array Oper} {Q : Exit → Act → World → Prop}
theorem inv_walk (hk : FreeOk ops) (a : Act) (Inv : (Nat → Bool) → (Nat → Value) → World → Prop)
    (hU : ∀ (i : Nat) (o : Oper), ops[i]? = some o → ∀ l vs w1, Inv l vs w1 → l i = false → (∀ (m : Nat) (om : Oper), ops[m]? = some om → l m = true → ∀ j ∈ edgesOf om, l j = true) → (∀ j, j ∈ edgesOf o → l j = true) → StepG P ops o (actsTo ops a (fun _ => true) vs ops.size) w1 fun v w2 => Inv (upd l i true) (upd vs i v) w2)
    (hrest : ∀ l vs w1, (∀ j, j < ops.size → l j = true) → Inv l vs w1 → Q .normal (actsTo ops a (fun _ => true) vs ops.size) w1) :
    ∀ (fuel : Nat) (L : Array Bool) (l : Nat → Bool) (vs : Nat → Value) (w1 : World), L.size = ops.size → (∀ i, i < ops.size → L.getD i false = l i) → (∀ (i : Nat) (o : Oper), ops[i]? = some o → l i = true → ∀ j ∈ edgesOf o, l j = true) →
      fuel + cntTo l ops.size = ops.size → Inv l vs w1 →
      wpAny P .any ops Q fuel L (actsTo ops a l vs ops.size) w1 := by
  have done : ∀ (l : Nat → Bool) (vs : Nat → Value) (w1 : World), (∀ j, j < ops.size → l j = true) → Inv l vs w1 → Q .normal (actsTo ops a l vs ops.size) w1 := fun l vs w1 hall hI => by
    have e1 : actsTo ops a l vs ops.size = actsTo ops a (fun _ => true) vs ops.size := actsTo_congr a ops.size fun j hj => ⟨hall j hj, rfl⟩
    rw [e1]
    exact hrest l vs w1 hall hI
  have none_ready : ∀ (L : Array Bool) (l : Nat → Bool), L.size = ops.size → (∀ i, i < ops.size → L.getD i false = l i) → Region.ready .any ops L = [] → ∀ j, j < ops.size → l j = true := fun L l hL hl h0 j hj => by
    refine Classical.byContradiction fun hn => ?_
    have hex : ∃ j, j < ops.size ∧ l j = false := ⟨j, hj, by simpa using hn⟩
    obtain ⟨i, hi, h1, h2⟩ := exists_least l ops.size hex
    have ho : ops[i]? = some ops[i] := Array.getElem?_eq_getElem hi
    have getT : ∀ i, i < ops.size → L.getD i true = l i := fun i hi => by
      rw [← hl i hi]
      simp [Array.getD_eq_getD_getElem?, Array.getElem?_eq_getElem (show i < L.size by omega)]
    have : i ∈ Region.ready .any ops L := mem_ready.2 ⟨by rw [getT i hi]; exact h1, ops[i], ho, fun e he hb => by
      have hd := hk.down i _ ho e.on (List.mem_map.2 ⟨e, List.mem_filter.2 ⟨by simpa using he, hb⟩, rfl⟩)
      rw [hl e.on (by omega)]
      exact h2 e.on hd⟩
    rw [h0] at this
    cases this
  intro fuel
  induction fuel with
  | zero =>
    intro L l vs w1 hL hl hcl hf hI
    have hall : ∀ j, j < ops.size → l j = true := by
      intro j hj
      cases h : l j with
      | true => rfl
      | false =>
        have h1 := cntTo_upd l j ops.size hj h
        have h2 := cntTo_le (upd l j true) ops.size
        omega
    refine ⟨?_, done l vs w1 hall hI⟩
    cases hr : Region.ready .any ops L with
    | nil => rfl
    | cons i r =>
      exfalso
      have hm : i ∈ Region.ready .any ops L := by rw [hr]; simp
      obtain ⟨h1, o, ho, _⟩ := mem_ready.1 hm
      have hin : i < ops.size := (Array.getElem?_eq_some_iff.1 ho).1
      have h3 := hl i hin
      rw [hall i hin] at h3
      simp only [Array.getD_eq_getD_getElem?, Array.getElem?_eq_getElem (show i < L.size by omega), Option.getD_some] at h1 h3
      rw [h1] at h3
      cases h3
  | succ fuel ih =>
    intro L l vs w1 hL hl hcl hf hI
    have getT : ∀ i, i < ops.size → L.getD i true = l i := fun i hi => by
      rw [← hl i hi]
      simp [Array.getD_eq_getD_getElem?, Array.getElem?_eq_getElem (show i < L.size by omega)]
    refine ⟨fun h0 => done l vs w1 (none_ready L l hL hl h0) hI, fun i hi => ?_⟩
    obtain ⟨h1, o, ho, h2⟩ := mem_ready.1 hi
    have hin : i < ops.size := (Array.getElem?_eq_some_iff.1 ho).1
    rw [getT i hin] at h1
    have hed : ∀ j ∈ edgesOf o, l j = true := fun j hj => by
      obtain ⟨e, he, rfl⟩ := List.mem_map.1 hj
      obtain ⟨he1, he2⟩ := List.mem_filter.1 he
      have hd := hk.down i o ho e.on hj
      rw [← hl e.on (by omega)]
      exact h2 e (by simpa using he1) he2
    have hlook : ∀ t, t ∈ o.looksAt ops → (actsTo ops a l vs ops.size).eval (.tmp t) = (actsTo ops a (fun _ => true) vs ops.size).eval (.tmp t) := fun t ht =>
      actsTo_eval a l vs ops.size (.tmp t) fun j hj t' ht' hd => hed j (hk.look i o ho j hj t' hd (by cases ht'; exact ht))
    have hev : ∀ x ∈ o.op.operands, (actsTo ops a l vs ops.size).eval x = (actsTo ops a (fun _ => true) vs ops.size).eval x := fun x hx => by
      cases x with
      | tmp t => exact hlook t (List.mem_append_left _ (List.mem_filterMap.2 ⟨.tmp t, by simpa using hx, rfl⟩))
      | _ => rfl
    have hw : Region.wanted o (yielded ops (actsTo ops a l vs ops.size).tmps) = Region.wanted o (yielded ops (actsTo ops a (fun _ => true) vs ops.size).tmps) := by
      unfold Region.wanted
      cases hg : o.guard with
      | none => rfl
      | some p =>
        obtain ⟨g, x⟩ := p
        simp only []
        have : yielded ops (actsTo ops a l vs ops.size).tmps g = yielded ops (actsTo ops a (fun _ => true) vs ops.size).tmps g := by
          unfold yielded
          cases hd : (ops[g]?).bind (·.dst) with
          | none => rfl
          | some d =>
            simp only [Option.bind_some]
            rw [tmps_same (by rw [actsTo_size, actsTo_size]) (hlook d (List.mem_append_right _ (by simp [hg, hd])))]
        rw [this]
    have hg := hU i o ho l vs w1 hI h1 hcl hed
    have hdst : dstOf ops i = o.dst := by simp [dstOf, ho]
    have next : ∀ v w2, Inv (upd l i true) (upd vs i v) w2 → wpAny P .any ops Q fuel (L.setIfInBounds i true) ((actsTo ops a l vs ops.size).put o.dst v) w2 := fun v w2 hI2 => by
      rw [← hdst, ← actsTo_set a l vs i v h1 ops.size hin (fun k hk2 hne d hd hd2 => hk.dst i o ho k hk2 hne d hd2 (by rw [← hdst]; exact hd))]
      refine ih _ (upd l i true) (upd vs i v) w2 (by simpa using hL) ?_ ?_ ?_ hI2
      · intro m hm
        unfold upd
        by_cases h : m = i
        · subst h
          rw [if_pos rfl]
          simp [Array.getD_eq_getD_getElem?, show m < L.size by omega]
        · rw [if_neg h, getD_set_ne false (Ne.symm h)]
          exact hl m hm
      · intro m om hom hlm j hj
        by_cases h : m = i
        · subst h
          rw [ho] at hom
          cases hom
          unfold upd
          split
          · rfl
          · exact hed j hj
        · unfold upd at hlm ⊢
          rw [if_neg h] at hlm
          split
          · rfl
          · exact hcl m om hom hlm j hj
      · rw [cntTo_upd l i ops.size hin h1]
        omega
    unfold wpOp
    rw [ho]
    simp only []
    rw [hw]
    cases hwd : Region.wanted o (yielded ops (actsTo ops a (fun _ => true) vs ops.size).tmps) with
    | true =>
      rw [if_pos rfl]
      refine .inl ?_
      have hg2 : Gives P o (actsTo ops a l vs ops.size).eval w1 fun v w2 => Inv (upd l i true) (upd vs i v) w2 := by
        have hg := (hg.1 hwd).out
        refine ⟨?_⟩
        unfold GivesM at hg ⊢
        rw [execOp_congr o (hk.sel i o ho) hev]
        exact hg
      exact hg2.wp fun v w2 hI2 => next v w2 hI2
    | false =>
      rw [if_neg (by simp)]
      exact next undef w1 (hg.2 hwd)

/-- THE LAW. -/
theorem region_inv {id : Nat} {a : Act} {w : World} (hm : P.follows .mixedOrders = true) (hk : freeOk ops = true) (Inv : (Nat → Bool) → (Nat → Value) → World → Prop)
    (h0 : Inv (fun _ => false) (fun _ => undef) w.drew)
    (hU : ∀ (i : Nat) (o : Oper), ops[i]? = some o → ∀ l vs w1, Inv l vs w1 → l i = false → (∀ (m : Nat) (om : Oper), ops[m]? = some om → l m = true → ∀ j ∈ edgesOf om, l j = true) → (∀ j, j ∈ edgesOf o → l j = true) → StepG P ops o (actsTo ops a (fun _ => true) vs ops.size) w1 fun v w2 => Inv (upd l i true) (upd vs i v) w2)
    (hrest : ∀ l vs w1, (∀ j, j < ops.size → l j = true) → Inv l vs w1 → Q .normal (actsTo ops a (fun _ => true) vs ops.size) w1) :
    (Code.region id ops true).wp P Q a w := by
  refine wp_region_any hm ?_
  have ha : actsTo ops a (fun _ => false) (fun _ => undef) ops.size = a := by
    have : ∀ k, actsTo ops a (fun _ => false) (fun _ => undef) k = a := by
      intro k
      induction k with
      | zero => rfl
      | succ k ih => unfold actsTo; simpa using ih
    exact this _
  have hc0 : cntTo (fun _ => false) ops.size = 0 := by
    have : ∀ k, cntTo (fun _ => false) k = 0 := by
      intro k
      induction k with
      | zero => rfl
      | succ k ih => unfold cntTo; simpa using ih
    exact this _
  have := inv_walk (Q := Q) (freeOk_spec hk) a Inv hU hrest ops.size (Array.replicate ops.size false) (fun _ => false) (fun _ => undef) w.drew (by simp) (fun i hi => by simp [hi]) (fun _ _ _ h => by cases h)
    (by omega) h0
  rwa [ha] at this
end
end Go.Proofs.Ytfgeeheojglldaa
