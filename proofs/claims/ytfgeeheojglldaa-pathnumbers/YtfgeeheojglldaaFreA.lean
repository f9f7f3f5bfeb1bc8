/- A region that draws its order, guarded operations among the others, where each operation only makes new memory: each has a fact of its own, that the others keep. -/
import Derived.Test.YtfgeeheojglldaaGrow
namespace Go.Proofs.Ytfgeeheojglldaa
open Go

section
variable {P : Program} {ops : Array Oper} {Q : Exit → Act → World → Prop}

/-- The operation, run or passed by, gives such a value in such a world. -/
def StepG (P : Program) (ops : Array Oper) (o : Oper) (b : Act) (w : World) (Φ : Value → World → Prop) : Prop :=
  (Region.wanted o (yielded ops b.tmps) = true → Gives P o b.eval w Φ) ∧ (Region.wanted o (yielded ops b.tmps) = false → Φ undef w)
theorem StepG.plain {o : Oper} {b : Act} {w : World} {Φ : Value → World → Prop} (hg : o.guard = none) (h : Gives P o b.eval w Φ) : StepG P ops o b w Φ :=
  ⟨fun _ => h, fun e => by simp [Region.wanted, hg] at e⟩
theorem StepG.on {o : Oper} {b : Act} {w : World} {Φ : Value → World → Prop} {g d : Nat} {x : Bool} {v : Value} (hg : o.guard = some (g, x)) (hd : dstOf ops g = some d) (ht : b.tmps[d]? = some v) (hv : v = .bool x) (h : Gives P o b.eval w Φ) : StepG P ops o b w Φ := by
  subst hv
  have hy : yielded ops b.tmps g = some x := by
    have hd' : (ops[g]?).bind (·.dst) = some d := hd
    simp [yielded, hd', ht]
  exact ⟨fun _ => h, fun e => by simp [Region.wanted, hg, hy] at e⟩
theorem StepG.off {o : Oper} {b : Act} {w : World} {Φ : Value → World → Prop} {g d : Nat} {x : Bool} {v : Value} (hg : o.guard = some (g, x)) (hd : dstOf ops g = some d) (ht : b.tmps[d]? = some v) (hv : v = .bool (!x) ∨ v = undef) (h : Φ undef w) : StepG P ops o b w Φ := by
  have hd' : (ops[g]?).bind (·.dst) = some d := hd
  refine ⟨fun e => ?_, fun _ => h⟩
  exfalso
  rcases hv with rfl | rfl
  · simp [Region.wanted, hg, yielded, hd', ht] at e
  · simp [Region.wanted, hg, yielded, hd', ht, undef] at e

def freeOk (ops : Array Oper) : Bool :=
  (List.range ops.size).all (fun i => match ops[i]? with
    | some o => (match o.op with | .select .. => false | _ => true) && (edgesOf o).all (· < i) &&
        (List.range ops.size).all (fun j => (match dstOf ops j with
          | some d => (!(o.looksAt ops).contains d || (edgesOf o).contains j) && (j == i || o.dst != some d)
          | none => true))
    | none => false)
structure FreeOk (ops : Array Oper) : Prop where
  sel : ∀ (i : Nat) (o : Oper), ops[i]? = some o → ∀ cs b, o.op ≠ .select cs b
  down : ∀ (i : Nat) (o : Oper), ops[i]? = some o → ∀ j ∈ edgesOf o, j < i
  look : ∀ (i : Nat) (o : Oper), ops[i]? = some o → ∀ j, j < ops.size → ∀ d, dstOf ops j = some d → d ∈ o.looksAt ops → j ∈ edgesOf o
  dst : ∀ (i : Nat) (o : Oper), ops[i]? = some o → ∀ j, j < ops.size → j ≠ i → ∀ d, dstOf ops j = some d → o.dst ≠ some d
theorem freeOk_spec (h : freeOk ops = true) : FreeOk ops := by
  unfold freeOk at h
  rw [List.all_eq_true] at h
  have hi : ∀ (i : Nat) (o : Oper), ops[i]? = some o → i ∈ List.range ops.size := fun i o e => List.mem_range.2 (Array.getElem?_eq_some_iff.1 e).1
  have each := fun (i : Nat) (o : Oper) (e : ops[i]? = some o) => by
    have := h i (hi i o e)
    rw [e] at this
    simp only [Bool.and_eq_true, List.all_eq_true, decide_eq_true_eq] at this
    exact this
  refine ⟨fun i o e cs b hs => ?_, fun i o e j hj => (each i o e).1.2 j hj, fun i o e j hj d hd ho => ?_, fun i o e j hj hne d hd ho => ?_⟩
  · have := (each i o e).1.1
    rw [hs] at this
    simp at this
  · have := (each i o e).2 j (List.mem_range.2 hj)
    rw [hd] at this
    simp only [Bool.and_eq_true, Bool.or_eq_true, Bool.not_eq_true'] at this
    rcases this.1 with h2 | h2
    · have h3 : (o.looksAt ops).contains d = true := by simpa using ho
      rw [h3] at h2
      cases h2
    · simpa using h2
  · have := (each i o e).2 j (List.mem_range.2 hj)
    rw [hd] at this
    simp only [Bool.and_eq_true, Bool.or_eq_true] at this
    rcases this.2 with h2 | h2
    · exact hne (by simpa using h2)
    · rw [ho] at h2
      simp at h2
theorem tmps_same {a b : Act} {d : Nat} (hs : a.tmps.size = b.tmps.size) (he : a.eval (.tmp d) = b.eval (.tmp d)) : a.tmps[d]? = b.tmps[d]? := by
  by_cases h : d < a.tmps.size
  · have h' : d < b.tmps.size := by omega
    simp [Act.eval, h, h'] at he
    rw [Array.getElem?_eq_getElem h, Array.getElem?_eq_getElem h', he]
  · rw [Array.getElem?_eq_none (by omega), Array.getElem?_eq_none (by omega)]

theorem free_walk (hk : FreeOk ops) (a : Act) (w0 : World) (E : World → World → Prop) (hEt : ∀ x y z, E x y → E y z → E x z)
    (F : Nat → Value → World → Prop) (hst : ∀ i v x y, E x y → F i v x → F i v y)
    (hU : ∀ (i : Nat) (o : Oper), ops[i]? = some o → ∀ vs w1, E w0 w1 → (∀ j, j ∈ edgesOf o → F j (vs j) w1) → StepG P ops o (actsTo ops a (fun _ => true) vs ops.size) w1 fun v w2 => E w1 w2 ∧ F i v w2)
    (hrest : ∀ vs w1, E w0 w1 → (∀ i, i < ops.size → F i (vs i) w1) → Q .normal (actsTo ops a (fun _ => true) vs ops.size) w1) :
    ∀ (fuel : Nat) (L : Array Bool) (l : Nat → Bool) (vs : Nat → Value) (w1 : World), L.size = ops.size → (∀ i, i < ops.size → L.getD i false = l i) → (∀ (i : Nat) (o : Oper), ops[i]? = some o → l i = true → ∀ j ∈ edgesOf o, l j = true) →
      fuel + cntTo l ops.size = ops.size → E w0 w1 → (∀ i, i < ops.size → l i = true → F i (vs i) w1) →
      wpAny P .any ops Q fuel L (actsTo ops a l vs ops.size) w1 := by
  have done : ∀ (l : Nat → Bool) (vs : Nat → Value) (w1 : World), (∀ j, j < ops.size → l j = true) → E w0 w1 → (∀ i, i < ops.size → l i = true → F i (vs i) w1) → Q .normal (actsTo ops a l vs ops.size) w1 := fun l vs w1 hall hE hF => by
    have e1 : actsTo ops a l vs ops.size = actsTo ops a (fun _ => true) vs ops.size := actsTo_congr a ops.size fun j hj => ⟨hall j hj, rfl⟩
    rw [e1]
    exact hrest vs w1 hE fun i hi => hF i hi (hall i hi)
  have none_ready : ∀ (L : Array Bool) (l : Nat → Bool), L.size = ops.size → (∀ i, i < ops.size → L.getD i false = l i) → Region.ready .any ops L = [] → ∀ j, j < ops.size → l j = true := fun L l hL hl h0 j hj => by
    refine Classical.byContradiction fun hn => ?_
    have hex : ∃ j, j < ops.size ∧ l j = false := ⟨j, hj, by simpa using hn⟩
    obtain ⟨i, hi, h1, h2⟩ := exists_least l ops.size hex
    have ho : ops[i]? = some ops[i] := Array.getElem?_eq_getElem hi
    have getT : ∀ i, i < ops.size → L.getD i true = l i := fun i hi => by
      rw [← hl i hi]
      simp [Array.getD_eq_getD_getElem?, Array.getElem?_eq_getElem (show i < L.size by omega)]
    have : i ∈ Region.ready .any ops L := mem_ready.2 ⟨by rw [getT i hi]; exact h1, ops[i], ho, fun e he hb => by
      have hd := hk.down i _ ho e.on (List.mem_map.2 ⟨e, List.mem_filter.2 ⟨by simpa using he, hb⟩, rfl⟩)
      rw [hl e.on (by omega)]
      exact h2 e.on hd⟩
    rw [h0] at this
    cases this
  intro fuel
  induction fuel with
  | zero =>
    intro L l vs w1 hL hl hcl hf hE hF
    have hall : ∀ j, j < ops.size → l j = true := by
      intro j hj
      cases h : l j with
      | true => rfl
      | false =>
        have h1 := cntTo_upd l j ops.size hj h
        have h2 := cntTo_le (upd l j true) ops.size
        omega
    refine ⟨?_, done l vs w1 hall hE hF⟩
    cases hr : Region.ready .any ops L with
    | nil => rfl
    | cons i r =>
      exfalso
      have hm : i ∈ Region.ready .any ops L := by rw [hr]; simp
      obtain ⟨h1, o, ho, _⟩ := mem_ready.1 hm
      have hin : i < ops.size := (Array.getElem?_eq_some_iff.1 ho).1
      have h3 := hl i hin
      rw [hall i hin] at h3
      simp only [Array.getD_eq_getD_getElem?, Array.getElem?_eq_getElem (show i < L.size by omega), Option.getD_some] at h1 h3
      rw [h1] at h3
      cases h3
  | succ fuel ih =>
    intro L l vs w1 hL hl hcl hf hE hF
    have getT : ∀ i, i < ops.size → L.getD i true = l i := fun i hi => by
      rw [← hl i hi]
      simp [Array.getD_eq_getD_getElem?, Array.getElem?_eq_getElem (show i < L.size by omega)]
    refine ⟨fun h0 => done l vs w1 (none_ready L l hL hl h0) hE hF, fun i hi => ?_⟩
    obtain ⟨h1, o, ho, h2⟩ := mem_ready.1 hi
    have hin : i < ops.size := (Array.getElem?_eq_some_iff.1 ho).1
    rw [getT i hin] at h1
    have hed : ∀ j ∈ edgesOf o, l j = true := fun j hj => by
      obtain ⟨e, he, rfl⟩ := List.mem_map.1 hj
      obtain ⟨he1, he2⟩ := List.mem_filter.1 he
      have hd := hk.down i o ho e.on hj
      rw [← hl e.on (by omega)]
      exact h2 e (by simpa using he1) he2
    have hlook : ∀ t, t ∈ o.looksAt ops → (actsTo ops a l vs ops.size).eval (.tmp t) = (actsTo ops a (fun _ => true) vs ops.size).eval (.tmp t) := fun t ht =>
      actsTo_eval a l vs ops.size (.tmp t) fun j hj t' ht' hd => hed j (hk.look i o ho j hj t' hd (by cases ht'; exact ht))
    have hev : ∀ x ∈ o.op.operands, (actsTo ops a l vs ops.size).eval x = (actsTo ops a (fun _ => true) vs ops.size).eval x := fun x hx => by
      cases x with
      | tmp t => exact hlook t (List.mem_append_left _ (List.mem_filterMap.2 ⟨.tmp t, by simpa using hx, rfl⟩))
      | _ => rfl
    have hw : Region.wanted o (yielded ops (actsTo ops a l vs ops.size).tmps) = Region.wanted o (yielded ops (actsTo ops a (fun _ => true) vs ops.size).tmps) := by
      unfold Region.wanted
      cases hg : o.guard with
      | none => rfl
      | some p =>
        obtain ⟨g, x⟩ := p
        simp only []
        have : yielded ops (actsTo ops a l vs ops.size).tmps g = yielded ops (actsTo ops a (fun _ => true) vs ops.size).tmps g := by
          unfold yielded
          cases hd : (ops[g]?).bind (·.dst) with
          | none => rfl
          | some d =>
            simp only [Option.bind_some]
            rw [tmps_same (by rw [actsTo_size, actsTo_size]) (hlook d (List.mem_append_right _ (by simp [hg, hd])))]
        rw [this]
    have hg := hU i o ho vs w1 hE (fun j hje => hF j (by have := hk.down i o ho j hje; omega) (hed j hje))
    have hdst : dstOf ops i = o.dst := by simp [dstOf, ho]
    have next : ∀ v w2, E w1 w2 → F i v w2 → wpAny P .any ops Q fuel (L.setIfInBounds i true) ((actsTo ops a l vs ops.size).put o.dst v) w2 := fun v w2 hE2 hF2 => by
      rw [← hdst, ← actsTo_set a l vs i v h1 ops.size hin (fun k hk2 hne d hd hd2 => hk.dst i o ho k hk2 hne d hd2 (by rw [← hdst]; exact hd))]
      refine ih _ (upd l i true) (upd vs i v) w2 (by simpa using hL) ?_ ?_ ?_ (hEt _ _ _ hE hE2) ?_
      · intro m hm
        unfold upd
        by_cases h : m = i
        · subst h
          rw [if_pos rfl]
          simp [Array.getD_eq_getD_getElem?, show m < L.size by omega]
        · rw [if_neg h, getD_set_ne false (Ne.symm h)]
          exact hl m hm
      · intro m om hom hlm j hj
        by_cases h : m = i
        · subst h
          rw [ho] at hom
          cases hom
          unfold upd
          split
          · rfl
          · exact hed j hj
        · unfold upd at hlm ⊢
          rw [if_neg h] at hlm
          split
          · rfl
          · exact hcl m om hom hlm j hj
      · rw [cntTo_upd l i ops.size hin h1]
        omega
      · intro m hm hlm
        by_cases h : m = i
        · subst h
          unfold upd
          rw [if_pos rfl]
          exact hF2
        · unfold upd at hlm ⊢
          rw [if_neg h] at hlm ⊢
          exact hst m _ _ _ hE2 (hF m hm hlm)
    unfold wpOp
    rw [ho]
    simp only []
    rw [hw]
    cases hwd : Region.wanted o (yielded ops (actsTo ops a (fun _ => true) vs ops.size).tmps) with
    | true =>
      rw [if_pos rfl]
      refine .inl ?_
      have hg2 : Gives P o (actsTo ops a l vs ops.size).eval w1 fun v w2 => E w1 w2 ∧ F i v w2 := by
        have hg := (hg.1 hwd).out
        refine ⟨?_⟩
        unfold GivesM at hg ⊢
        rw [execOp_congr o (hk.sel i o ho) hev]
        exact hg
      exact hg2.wp fun v w2 ⟨hE2, hF2⟩ => next v w2 hE2 hF2
    | false =>
      rw [if_neg (by simp)]
      have hg3 := hg.2 hwd
      exact next undef w1 hg3.1 hg3.2

/-- THE LAW. -/
theorem region_freeG {id : Nat} {a : Act} {w : World} (hm : P.follows .mixedOrders = true) (hk : freeOk ops = true) (E : World → World → Prop) (hE0 : E w w.drew) (hEt : ∀ x y z, E x y → E y z → E x z)
    (F : Nat → Value → World → Prop) (hst : ∀ i v x y, E x y → F i v x → F i v y)
    (hU : ∀ (i : Nat) (o : Oper), ops[i]? = some o → ∀ vs w1, E w w1 → (∀ j, j ∈ edgesOf o → F j (vs j) w1) → StepG P ops o (actsTo ops a (fun _ => true) vs ops.size) w1 fun v w2 => E w1 w2 ∧ F i v w2)
    (hrest : ∀ vs w1, E w w1 → (∀ i, i < ops.size → F i (vs i) w1) → Q .normal (actsTo ops a (fun _ => true) vs ops.size) w1) :
    (Code.region id ops true).wp P Q a w := by
  refine wp_region_any hm ?_
  have h0 : actsTo ops a (fun _ => false) (fun _ => undef) ops.size = a := by
    have : ∀ k, actsTo ops a (fun _ => false) (fun _ => undef) k = a := by
      intro k
      induction k with
      | zero => rfl
      | succ k ih => unfold actsTo; simpa using ih
    exact this _
  have hc0 : cntTo (fun _ => false) ops.size = 0 := by
    have : ∀ k, cntTo (fun _ => false) k = 0 := by
      intro k
      induction k with
      | zero => rfl
      | succ k ih => unfold cntTo; simpa using ih
    exact this _
  have := free_walk (Q := Q) (freeOk_spec hk) a w E hEt F hst hU hrest ops.size (Array.replicate ops.size false) (fun _ => false) (fun _ => undef) w.drew (by simp) (fun i hi => by simp [hi]) (fun _ _ _ h => by cases h)
    (by omega) hE0 (fun _ _ h => by cases h)
  rwa [h0] at this
end
end Go.Proofs.Ytfgeeheojglldaa
