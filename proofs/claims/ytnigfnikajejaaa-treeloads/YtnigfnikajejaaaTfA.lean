/- A region that draws its order, whose operations, but for a last few that come behind all of them, only make new memory: each has a fact of its own, that the others keep. -/
import Derived.Test.YtnigfnikajejaaaKpW
import Derived.Test.YtnigfnikajejaaaWrE
import Derived.OrdersHeld
import Derived.Tactics
namespace Go.Proofs.Ytnigfnikajejaaa
open Go Go.RowKit
open Go

section
variable {P : Program} {ops : Array Oper} {Q : Exit → Act → World → Prop}

/-- The operation, run where its operands read as ρ says, gives such a value in such a world. -/
def GivesM (P : Program) (o : Oper) (ρ : Operand → Value) (w : World) (Φ : Value → World → Prop) : Prop :=
  match (execOp ρ o).run P w with
  | .ok (.value v) w' => Φ v w'
  | .ok .skip w' => Φ undef w'
  | .ok (.enter f args) w' => Calls P f args w' fun e w'' => ∃ v, e = .returned v ∧ Φ v w''
  | _ => False
structure Gives (P : Program) (o : Oper) (ρ : Operand → Value) (w : World) (Φ : Value → World → Prop) : Prop where
  out : GivesM P o ρ w Φ
theorem Gives.value {o : Oper} {ρ : Operand → Value} {w w' : World} {v : Value} {Φ : Value → World → Prop} (hr : (execOp ρ o).run P w = .ok (.value v) w') (h : Φ v w') : Gives P o ρ w Φ := by
  refine ⟨?_⟩
  unfold GivesM
  rw [hr]
  exact h
theorem Gives.enter {o : Oper} {ρ : Operand → Value} {w w' : World} {f : FuncId} {args : Array Value} {Φ : Value → World → Prop} (hr : (execOp ρ o).run P w = .ok (.enter f args) w') (h : Calls P f args w' fun e w'' => ∃ v, e = .returned v ∧ Φ v w'') : Gives P o ρ w Φ := by
  refine ⟨?_⟩
  unfold GivesM
  rw [hr]
  exact h
theorem Gives.wp {o : Oper} {a : Act} {w : World} {Φ : Value → World → Prop} {K : Act → World → Prop} (h : Gives P o a.eval w Φ) (hK : ∀ v w', Φ v w' → K (a.put o.dst v) w') : o.wp P a w K Q := by
  have h := h.out
  unfold GivesM at h
  unfold Oper.wp
  cases hr : (execOp a.eval o).run P w with
  | ok n w1 =>
    rw [hr] at h
    cases n <;> simp only [Oper.upon] at h ⊢
    case value v => exact hK _ _ h
    case skip => exact hK _ _ h
    case enter f args => exact Calls.mono h fun e w'' ⟨v, hv, h2⟩ => by subst hv; exact hK _ _ h2
  | halt x w1 => rw [hr] at h; exact h.elim

def dstOf (ops : Array Oper) (k : Nat) : Option Tmp := (ops[k]?).bind (·.dst)
/-- The frame behind the operations that are listed. -/
def actsTo (ops : Array Oper) (a : Act) (listed : Nat → Bool) (vs : Nat → Value) : Nat → Act
  | 0 => a
  | k + 1 => if listed k then (actsTo ops a listed vs k).put (dstOf ops k) (vs k) else actsTo ops a listed vs k
theorem put_size (a : Act) (d : Option Tmp) (v : Value) : (a.put d v).tmps.size = a.tmps.size := by cases d <;> simp [Act.put]
theorem actsTo_size (a : Act) (listed : Nat → Bool) (vs : Nat → Value) (k : Nat) : (actsTo ops a listed vs k).tmps.size = a.tmps.size := by
  induction k with
  | zero => rfl
  | succ k ih =>
    unfold actsTo
    split
    · rw [put_size, ih]
    · exact ih
theorem actsTo_congr (a : Act) {l l' : Nat → Bool} {vs vs' : Nat → Value} (k : Nat) (h : ∀ j, j < k → l j = l' j ∧ vs j = vs' j) : actsTo ops a l vs k = actsTo ops a l' vs' k := by
  induction k with
  | zero => rfl
  | succ k ih =>
    unfold actsTo
    rw [(h k (by omega)).1, (h k (by omega)).2, ih (fun j hj => h j (by omega))]
def updG {α : Type} (f : Nat → α) (i : Nat) (x : α) : Nat → α := fun j => if j = i then x else f j
theorem actsTo_set (a : Act) (l : Nat → Bool) (vs : Nat → Value) (i : Nat) (v : Value) (hl : l i = false) (n : Nat) (hi : i < n)
    (hd : ∀ k, k < n → k ≠ i → ∀ d, dstOf ops i = some d → dstOf ops k ≠ some d) :
    actsTo ops a (updG l i true) (updG vs i v) n = (actsTo ops a l vs n).put (dstOf ops i) v := by
  induction n with
  | zero => omega
  | succ k ih =>
    unfold actsTo
    by_cases hk : k = i
    · subst hk
      have e : actsTo ops a (updG l k true) (updG vs k v) k = actsTo ops a l vs k := actsTo_congr a k fun j hj => by
        unfold updG
        rw [if_neg (by omega), if_neg (by omega)]
        exact ⟨rfl, rfl⟩
      rw [e, hl]
      simp [updG]
    · have h1 : updG l i true k = l k := by unfold updG; rw [if_neg hk]
      have h2 : updG vs i v k = vs k := by unfold updG; rw [if_neg hk]
      rw [h1, h2, ih (by omega) (fun j hj => hd j (by omega))]
      split
      · exact Act.put_comm _ _ _ (hd k (by omega) hk)
      · rfl
theorem eval_put_tmp (a : Act) (d : Option Tmp) (v : Value) (t : Tmp) : (a.put d v).eval (.tmp t) = if d = some t ∧ t < a.tmps.size then v else a.eval (.tmp t) := by
  cases d with
  | none => simp [Act.put]
  | some d =>
    by_cases h : d = t
    · subst h
      by_cases h2 : d < a.tmps.size
      · simp [Act.put, Act.eval, h2]
      · simp [Act.put, Act.eval, h2]
    · have : ¬ (some d = some t ∧ t < a.tmps.size) := by simp [h]
      rw [if_neg this]
      exact Act.eval_put fun d' hd' hx => by cases hd'; cases hx; exact h rfl
theorem actsTo_eval (a : Act) (l : Nat → Bool) (vs : Nat → Value) (n : Nat) (x : Operand) (h : ∀ j, j < n → ∀ t, x = .tmp t → dstOf ops j = some t → l j = true) :
    (actsTo ops a l vs n).eval x = (actsTo ops a (fun _ => true) vs n).eval x := by
  cases x with
  | tmp t =>
    induction n with
    | zero => rfl
    | succ k ih =>
      have ih' := ih (fun j hj => h j (by omega))
      unfold actsTo
      rw [if_pos rfl]
      by_cases hl : l k = true
      · rw [if_pos hl, eval_put_tmp, eval_put_tmp, actsTo_size, actsTo_size, ih']
      · rw [if_neg hl, eval_put_tmp, if_neg, ih']
        intro e
        exact hl (h k (by omega) t rfl e.1)
  | _ => rfl

/-- The operations that must come ahead of one. -/
def edgesOf (o : Oper) : List Nat := (o.after.toList.filter (Region.binds .any)).map (·.on)
/-- Does j come ahead of i, by at most so many edges? -/
def under (ops : Array Oper) : Nat → Nat → Nat → Bool
  | 0, _, _ => false
  | f + 1, i, j => match ops[i]? with
    | some o => (edgesOf o).any fun m => m == j || under ops f m j
    | none => false
def growOk (ops : Array Oper) (U : Nat) : Bool :=
  decide (U ≤ ops.size) &&
  (List.range ops.size).all (fun i => match ops[i]? with
    | some o => o.guard.isNone && (match o.op with | .select .. => false | _ => true) && (edgesOf o).all (· < i) &&
      (if i < U then
        (List.range U).all (fun j => (match dstOf ops j with
          | some d => (!(o.looksAt ops).contains d || (edgesOf o).contains j) && (j == i || o.dst != some d)
          | none => true))
       else (List.range U).all (fun j => under ops ops.size i j))
    | none => false)

structure GrowOk (ops : Array Oper) (U : Nat) : Prop where
  le : U ≤ ops.size
  guard : ∀ (i : Nat) (o : Oper), ops[i]? = some o → o.guard = none
  sel : ∀ (i : Nat) (o : Oper), ops[i]? = some o → ∀ cs b, o.op ≠ .select cs b
  down : ∀ (i : Nat) (o : Oper), ops[i]? = some o → ∀ j ∈ edgesOf o, j < i
  look : ∀ (i : Nat) (o : Oper), ops[i]? = some o → i < U → ∀ j, j < U → ∀ d, dstOf ops j = some d → d ∈ o.looksAt ops → j ∈ edgesOf o
  dst : ∀ (i : Nat) (o : Oper), ops[i]? = some o → i < U → ∀ j, j < U → j ≠ i → ∀ d, dstOf ops j = some d → o.dst ≠ some d
  late : ∀ (i : Nat) (o : Oper), ops[i]? = some o → U ≤ i → ∀ j, j < U → under ops ops.size i j = true
theorem growOk_spec {U : Nat} (h : growOk ops U = true) : GrowOk ops U := by
  unfold growOk at h
  rw [Bool.and_eq_true, decide_eq_true_eq, List.all_eq_true] at h
  obtain ⟨h0, h1⟩ := h
  have hi : ∀ (i : Nat) (o : Oper), ops[i]? = some o → i ∈ List.range ops.size := fun i o e => List.mem_range.2 (Array.getElem?_eq_some_iff.1 e).1
  have each := fun (i : Nat) (o : Oper) (e : ops[i]? = some o) => by
    have := h1 i (hi i o e)
    rw [e] at this
    simp only [Bool.and_eq_true, List.all_eq_true, decide_eq_true_eq] at this
    exact this
  refine ⟨h0, fun i o e => by simpa using (each i o e).1.1.1, fun i o e cs b hs => ?_, fun i o e j hj => (each i o e).1.2 j hj, fun i o e hU j hj d hd ho => ?_, fun i o e hU j hj hne d hd ho => ?_, fun i o e hU j hj => ?_⟩
  · have := (each i o e).1.1.2
    rw [hs] at this
    simp at this
  · have := (each i o e).2
    rw [if_pos hU, List.all_eq_true] at this
    have := this j (List.mem_range.2 hj)
    rw [hd] at this
    simp only [Bool.and_eq_true, Bool.or_eq_true, Bool.not_eq_true'] at this
    rcases this.1 with h2 | h2
    · have h3 : (o.looksAt ops).contains d = true := by simpa using ho
      rw [h3] at h2
      cases h2
    · simpa using h2
  · have := (each i o e).2
    rw [if_pos hU, List.all_eq_true] at this
    have := this j (List.mem_range.2 hj)
    rw [hd] at this
    simp only [Bool.and_eq_true, Bool.or_eq_true] at this
    rcases this.2 with h2 | h2
    · exact hne (by simpa using h2)
    · rw [ho] at h2
      simp at h2
  · have := (each i o e).2
    rw [if_neg (by omega), List.all_eq_true] at this
    exact this j (List.mem_range.2 hj)
theorem under_listed {l : Nat → Bool} (hc : ∀ (i : Nat) (o : Oper), ops[i]? = some o → l i = true → ∀ j ∈ edgesOf o, l j = true) : ∀ (f i j : Nat) (o : Oper), ops[i]? = some o → (∀ m ∈ edgesOf o, l m = true) → under ops f i j = true → l j = true
  | 0, i, j, o, _, _, h => by simp [under] at h
  | f + 1, i, j, o, ho, hm, h => by
    unfold under at h
    rw [ho] at h
    simp only [List.any_eq_true, Bool.or_eq_true, beq_iff_eq] at h
    obtain ⟨m, hme, h⟩ := h
    rcases h with rfl | h
    · exact hm m hme
    · cases hom : ops[m]? with
      | none =>
        cases f with
        | zero => simp [under] at h
        | succ f => unfold under at h; rw [hom] at h; simp at h
      | some om => exact under_listed hc f m j om hom (hc m om hom (hm m hme)) h

/-- How many of the first are listed. -/
def cntTo (l : Nat → Bool) : Nat → Nat
  | 0 => 0
  | k + 1 => cntTo l k + (if l k then 1 else 0)
theorem cntTo_le (l : Nat → Bool) (k : Nat) : cntTo l k ≤ k := by
  induction k with
  | zero => exact Nat.le_refl _
  | succ k ih => unfold cntTo; split <;> omega
theorem cntTo_updG_out (l : Nat → Bool) (i k : Nat) (h : k ≤ i) : cntTo (updG l i true) k = cntTo l k := by
  induction k with
  | zero => rfl
  | succ k ih =>
    have e : updG l i true k = l k := by unfold updG; rw [if_neg (by omega)]
    unfold cntTo
    rw [ih (by omega), e]
theorem cntTo_updG (l : Nat → Bool) (i k : Nat) (hi : i < k) (hl : l i = false) : cntTo (updG l i true) k = cntTo l k + 1 := by
  induction k with
  | zero => omega
  | succ k ih =>
    unfold cntTo
    by_cases h : k = i
    · subst h
      rw [cntTo_updG_out l k k (Nat.le_refl _), hl]
      simp [updG]
    · have e : updG l i true k = l k := by unfold updG; rw [if_neg h]
      rw [ih (by omega), e]
      omega
theorem cntTo_all (l : Nat → Bool) (k : Nat) (h : ∀ j, j < k → l j = true) : cntTo l k = k := by
  induction k with
  | zero => rfl
  | succ k ih =>
    unfold cntTo
    rw [ih (fun j hj => h j (by omega)), h k (by omega)]
    simp
theorem exists_least (l : Nat → Bool) : ∀ k, (∃ j, j < k ∧ l j = false) → ∃ i, i < k ∧ l i = false ∧ ∀ j, j < i → l j = true
  | 0, ⟨j, hj, _⟩ => by omega
  | k + 1, ⟨j, hj, hl⟩ => by
    by_cases h : ∃ j, j < k ∧ l j = false
    · obtain ⟨i, hi, h1, h2⟩ := exists_least l k h
      exact ⟨i, by omega, h1, h2⟩
    · refine ⟨j, hj, hl, fun m hm => ?_⟩
      cases hlm : l m with
      | true => rfl
      | false => exact absurd ⟨m, by omega, hlm⟩ h

/-- The first U are listed. -/
def listedU (n U : Nat) : Array Bool := (Array.range n).map fun i => decide (i < U)

theorem grow_walk {U : Nat} (hk : GrowOk ops U) (a : Act) (w0 : World) (E : World → World → Prop) (hEt : ∀ x y z, E x y → E y z → E x z)
    (F : Nat → Value → World → Prop) (hst : ∀ i v x y, E x y → F i v x → F i v y) (Sep : Nat → Value → Nat → Value → Prop)
    (hU : ∀ (i : Nat) (o : Oper), ops[i]? = some o → i < U → ∀ vs w1, E w0 w1 → (∀ j, j < U → j ∈ edgesOf o → F j (vs j) w1) → Gives P o (actsTo ops a (fun _ => true) vs U).eval w1 fun v w2 => E w1 w2 ∧ F i v w2 ∧ ∀ j u, j < U → F j u w1 → Sep j u i v)
    (hrest : ∀ vs w1, E w0 w1 → (∀ i, i < U → F i (vs i) w1) → (∀ i j, i < U → j < U → i ≠ j → Sep i (vs i) j (vs j) ∨ Sep j (vs j) i (vs i)) → wpAny P .any ops Q (ops.size - U) (listedU ops.size U) (actsTo ops a (fun _ => true) vs U) w1) :
    ∀ (fuel : Nat) (L : Array Bool) (l : Nat → Bool) (vs : Nat → Value) (w1 : World), L.size = ops.size → (∀ i, i < ops.size → L.getD i false = l i) → (∀ i, U ≤ i → l i = false) → (∀ (i : Nat) (o : Oper), ops[i]? = some o → l i = true → ∀ j ∈ edgesOf o, l j = true) →
      fuel + cntTo l U = ops.size → E w0 w1 → (∀ i, i < U → l i = true → F i (vs i) w1) → (∀ i j, i < U → j < U → i ≠ j → l i = true → l j = true → Sep i (vs i) j (vs j) ∨ Sep j (vs j) i (vs i)) →
      wpAny P .any ops Q fuel L (actsTo ops a l vs U) w1 := by
  intro fuel
  induction fuel with
  | zero =>
    intro L l vs w1 hL hl hlU hcl hf hE hF hS
    have hle := cntTo_le l U
    have hUn : U = ops.size := by have := hk.le; omega
    have hall : ∀ j, j < U → l j = true := by
      intro j hj
      cases h : l j with
      | true => rfl
      | false =>
        have h1 := cntTo_updG l j U hj h
        have h2 := cntTo_le (updG l j true) U
        omega
    have e1 : actsTo ops a l vs U = actsTo ops a (fun _ => true) vs U := actsTo_congr a U fun j hj => ⟨hall j hj, rfl⟩
    have e2 : L = listedU ops.size U := by
      apply Array.ext
      · simp [listedU, hL]
      · intro i h1 h2
        have := hl i (by omega)
        rw [hall i (by omega)] at this
        simp only [Array.getD_eq_getD_getElem?, Array.getElem?_eq_getElem h1, Option.getD_some] at this
        rw [this]
        simp [listedU]
        omega
    have := hrest vs w1 hE (fun i hi => hF i hi (hall i hi)) (fun i j hi hj hn => hS i j hi hj hn (hall i hi) (hall j hj))
    rw [e1, e2]
    rwa [show ops.size - U = 0 by omega] at this
  | succ fuel ih =>
    intro L l vs w1 hL hl hlU hcl hf hE hF hS
    have hle := cntTo_le l U
    by_cases hall : ∀ j, j < U → l j = true
    · have e1 : actsTo ops a l vs U = actsTo ops a (fun _ => true) vs U := actsTo_congr a U fun j hj => ⟨hall j hj, rfl⟩
      have e2 : L = listedU ops.size U := by
        apply Array.ext
        · simp [listedU, hL]
        · intro i h1 h2
          have := hl i (by omega)
          simp only [Array.getD_eq_getD_getElem?, Array.getElem?_eq_getElem h1, Option.getD_some] at this
          rw [this]
          by_cases hi : i < U
          · rw [hall i hi]; simp [listedU, hi]
          · rw [hlU i (by omega)]; simp [listedU, hi]
      have := hrest vs w1 hE (fun i hi => hF i hi (hall i hi)) (fun i j hi hj hn => hS i j hi hj hn (hall i hi) (hall j hj))
      have hc := cntTo_all l U hall
      rw [e1, e2]
      rwa [show ops.size - U = fuel + 1 by omega] at this
    · have hex : ∃ j, j < U ∧ l j = false := by
        refine Classical.byContradiction fun hn => hall fun j hj => ?_
        cases h : l j with
        | true => rfl
        | false => exact absurd ⟨j, hj, h⟩ hn
      have getT : ∀ i, i < ops.size → L.getD i true = l i := fun i hi => by
        rw [← hl i hi]
        simp [Array.getD_eq_getD_getElem?, Array.getElem?_eq_getElem (show i < L.size by omega)]
      refine ⟨fun h0 => ?_, fun i hi => ?_⟩
      · obtain ⟨i, hi, h1, h2⟩ := exists_least l U hex
        have hin : i < ops.size := by have := hk.le; omega
        have ho : ops[i]? = some ops[i] := Array.getElem?_eq_getElem hin
        have : i ∈ Region.ready .any ops L := mem_ready.2 ⟨by rw [getT i hin]; exact h1, ops[i], ho, fun e he hb => by
          have hd := hk.down i _ ho e.on (List.mem_map.2 ⟨e, List.mem_filter.2 ⟨by simpa using he, hb⟩, rfl⟩)
          rw [hl e.on (by omega)]
          exact h2 e.on hd⟩
        rw [h0] at this
        cases this
      · obtain ⟨h1, o, ho, h2⟩ := mem_ready.1 hi
        have hin : i < ops.size := (Array.getElem?_eq_some_iff.1 ho).1
        rw [getT i hin] at h1
        have hed : ∀ j ∈ edgesOf o, l j = true := fun j hj => by
          obtain ⟨e, he, rfl⟩ := List.mem_map.1 hj
          obtain ⟨he1, he2⟩ := List.mem_filter.1 he
          have hd := hk.down i o ho e.on hj
          rw [← hl e.on (by omega)]
          exact h2 e (by simpa using he1) he2
        have hiU : i < U := by
          refine Classical.byContradiction fun hn => ?_
          obtain ⟨j, hj, hlj⟩ := hex
          have := under_listed hcl ops.size i j o ho hed (hk.late i o ho (by omega) j hj)
          rw [this] at hlj
          cases hlj
        unfold wpOp
        rw [ho]
        simp only [Region.wanted, hk.guard i o ho, if_true]
        refine .inl ?_
        have hev : ∀ x ∈ o.op.operands, (actsTo ops a l vs U).eval x = (actsTo ops a (fun _ => true) vs U).eval x := fun x hx =>
          actsTo_eval a l vs U x fun j hj t ht hd => hed j (hk.look i o ho hiU j hj t hd (List.mem_append_left _ (List.mem_filterMap.2 ⟨.tmp t, by subst ht; simpa using hx, rfl⟩)))
        have hg := hU i o ho hiU vs w1 hE (fun j hj hje => hF j hj (hed j hje))
        have hg2 : Gives P o (actsTo ops a l vs U).eval w1 fun v w2 => E w1 w2 ∧ F i v w2 ∧ ∀ j u, j < U → F j u w1 → Sep j u i v := by
          have hg := hg.out
          refine ⟨?_⟩
          unfold GivesM at hg ⊢
          rw [execOp_congr o (hk.sel i o ho) hev]
          exact hg
        refine hg2.wp fun v w2 ⟨hE2, hF2, hS2⟩ => ?_
        have hdst : dstOf ops i = o.dst := by simp [dstOf, ho]
        rw [← hdst, ← actsTo_set a l vs i v h1 U hiU (fun k hk2 hne d hd hd2 => hk.dst i o ho hiU k hk2 hne d hd2 (by rw [← hdst]; exact hd))]
        refine ih _ (updG l i true) (updG vs i v) w2 (by simpa using hL) ?_ ?_ ?_ ?_ (hEt _ _ _ hE hE2) ?_ ?_
        · intro m hm
          unfold updG
          by_cases h : m = i
          · subst h
            rw [if_pos rfl]
            simp [Array.getD_eq_getD_getElem?, show m < L.size by omega]
          · rw [if_neg h, getD_set_ne false (Ne.symm h)]
            exact hl m hm
        · intro m hm
          unfold updG
          rw [if_neg (by omega)]
          exact hlU m hm
        · intro m om hom hlm j hj
          by_cases h : m = i
          · subst h
            rw [ho] at hom
            cases hom
            unfold updG
            split
            · rfl
            · exact hed j hj
          · unfold updG at hlm ⊢
            rw [if_neg h] at hlm
            split
            · rfl
            · exact hcl m om hom hlm j hj
        · rw [cntTo_updG l i U hiU h1]
          omega
        · intro m hm hlm
          by_cases h : m = i
          · subst h
            unfold updG
            rw [if_pos rfl]
            exact hF2
          · unfold updG at hlm ⊢
            rw [if_neg h] at hlm ⊢
            exact hst m _ _ _ hE2 (hF m hm hlm)
        · intro m j hm hj hne hlm hlj
          by_cases h : m = i
          · subst h
            have hjm : j ≠ m := Ne.symm hne
            unfold updG at hlj ⊢
            rw [if_neg hjm] at hlj ⊢
            rw [if_pos rfl]
            exact .inr (hS2 j _ hj (hF j hj hlj))
          · by_cases h' : j = i
            · subst h'
              unfold updG at hlm ⊢
              rw [if_neg h] at hlm ⊢
              rw [if_pos rfl]
              exact .inl (hS2 m _ hm (hF m hm hlm))
            · unfold updG at hlm hlj ⊢
              rw [if_neg h] at hlm ⊢
              rw [if_neg h'] at hlj ⊢
              exact hS m j hm hj hne hlm hlj

/-- THE LAW. -/
theorem region_grow {id : Nat} (U : Nat) {a : Act} {w : World} (hm : P.follows .mixedOrders = true) (hk : growOk ops U = true) (E : World → World → Prop) (hEr : E w w.drew) (hEt : ∀ x y z, E x y → E y z → E x z)
    (F : Nat → Value → World → Prop) (hst : ∀ i v x y, E x y → F i v x → F i v y) (Sep : Nat → Value → Nat → Value → Prop)
    (hU : ∀ (i : Nat) (o : Oper), ops[i]? = some o → i < U → ∀ vs w1, E w w1 → (∀ j, j < U → j ∈ edgesOf o → F j (vs j) w1) → Gives P o (actsTo ops a (fun _ => true) vs U).eval w1 fun v w2 => E w1 w2 ∧ F i v w2 ∧ ∀ j u, j < U → F j u w1 → Sep j u i v)
    (hrest : ∀ vs w1, E w w1 → (∀ i, i < U → F i (vs i) w1) → (∀ i j, i < U → j < U → i ≠ j → Sep i (vs i) j (vs j) ∨ Sep j (vs j) i (vs i)) → wpAny P .any ops Q (ops.size - U) (listedU ops.size U) (actsTo ops a (fun _ => true) vs U) w1) :
    (Code.region id ops true).wp P Q a w := by
  refine wp_region_any hm ?_
  have hg := growOk_spec hk
  have h0 : actsTo ops a (fun _ => false) (fun _ => undef) U = a := by
    have : ∀ k, actsTo ops a (fun _ => false) (fun _ => undef) k = a := by
      intro k
      induction k with
      | zero => rfl
      | succ k ih => unfold actsTo; simpa using ih
    exact this U
  have hc0 : cntTo (fun _ => false) U = 0 := by
    have : ∀ k, cntTo (fun _ => false) k = 0 := by
      intro k
      induction k with
      | zero => rfl
      | succ k ih => unfold cntTo; simpa using ih
    exact this U
  have := grow_walk (Q := Q) hg a w E hEt F hst Sep hU hrest ops.size (Array.replicate ops.size false) (fun _ => false) (fun _ => undef) w.drew (by simp) (fun i hi => by simp [hi]) (fun _ _ => rfl) (fun _ _ _ h => by cases h)
    (by omega) hEr (fun _ _ h => by cases h) (fun _ _ _ _ _ h => by cases h)
  rwa [h0] at this
end
open Go

section
variable {P : Program} {ops : Array Oper} {Q : Exit → Act → World → Prop}

/-- The operation, run or passed by, gives such a value in such a world. -/
def StepG (P : Program) (ops : Array Oper) (o : Oper) (b : Act) (w : World) (Φ : Value → World → Prop) : Prop :=
  (Region.wanted o (yielded ops b.tmps) = true → Gives P o b.eval w Φ) ∧ (Region.wanted o (yielded ops b.tmps) = false → Φ undef w)
theorem StepG.plain {o : Oper} {b : Act} {w : World} {Φ : Value → World → Prop} (hg : o.guard = none) (h : Gives P o b.eval w Φ) : StepG P ops o b w Φ :=
  ⟨fun _ => h, fun e => by simp [Region.wanted, hg] at e⟩
theorem StepG.on {o : Oper} {b : Act} {w : World} {Φ : Value → World → Prop} {g d : Nat} {x : Bool} {v : Value} (hg : o.guard = some (g, x)) (hd : dstOf ops g = some d) (ht : b.tmps[d]? = some v) (hv : v = .bool x) (h : Gives P o b.eval w Φ) : StepG P ops o b w Φ := by
  subst hv
  have hy : yielded ops b.tmps g = some x := by
    have hd' : (ops[g]?).bind (·.dst) = some d := hd
    simp [yielded, hd', ht]
  exact ⟨fun _ => h, fun e => by simp [Region.wanted, hg, hy] at e⟩
theorem StepG.off {o : Oper} {b : Act} {w : World} {Φ : Value → World → Prop} {g d : Nat} {x : Bool} {v : Value} (hg : o.guard = some (g, x)) (hd : dstOf ops g = some d) (ht : b.tmps[d]? = some v) (hv : v = .bool (!x) ∨ v = undef) (h : Φ undef w) : StepG P ops o b w Φ := by
  have hd' : (ops[g]?).bind (·.dst) = some d := hd
  refine ⟨fun e => ?_, fun _ => h⟩
  exfalso
  rcases hv with rfl | rfl
  · simp [Region.wanted, hg, yielded, hd', ht] at e
  · simp [Region.wanted, hg, yielded, hd', ht, undef] at e

def freeOk (ops : Array Oper) : Bool :=
  (List.range ops.size).all (fun i => match ops[i]? with
    | some o => (match o.op with | .select .. => false | _ => true) && (edgesOf o).all (· < i) &&
        (List.range ops.size).all (fun j => (match dstOf ops j with
          | some d => (!(o.looksAt ops).contains d || (edgesOf o).contains j) && (j == i || o.dst != some d)
          | none => true))
    | none => false)
structure FreeOk (ops : Array Oper) : Prop where
  sel : ∀ (i : Nat) (o : Oper), ops[i]? = some o → ∀ cs b, o.op ≠ .select cs b
  down : ∀ (i : Nat) (o : Oper), ops[i]? = some o → ∀ j ∈ edgesOf o, j < i
  look : ∀ (i : Nat) (o : Oper), ops[i]? = some o → ∀ j, j < ops.size → ∀ d, dstOf ops j = some d → d ∈ o.looksAt ops → j ∈ edgesOf o
  dst : ∀ (i : Nat) (o : Oper), ops[i]? = some o → ∀ j, j < ops.size → j ≠ i → ∀ d, dstOf ops j = some d → o.dst ≠ some d
theorem freeOk_spec (h : freeOk ops = true) : FreeOk ops := by
  unfold freeOk at h
  rw [List.all_eq_true] at h
  have hi : ∀ (i : Nat) (o : Oper), ops[i]? = some o → i ∈ List.range ops.size := fun i o e => List.mem_range.2 (Array.getElem?_eq_some_iff.1 e).1
  have each := fun (i : Nat) (o : Oper) (e : ops[i]? = some o) => by
    have := h i (hi i o e)
    rw [e] at this
    simp only [Bool.and_eq_true, List.all_eq_true, decide_eq_true_eq] at this
    exact this
  refine ⟨fun i o e cs b hs => ?_, fun i o e j hj => (each i o e).1.2 j hj, fun i o e j hj d hd ho => ?_, fun i o e j hj hne d hd ho => ?_⟩
  · have := (each i o e).1.1
    rw [hs] at this
    simp at this
  · have := (each i o e).2 j (List.mem_range.2 hj)
    rw [hd] at this
    simp only [Bool.and_eq_true, Bool.or_eq_true, Bool.not_eq_true'] at this
    rcases this.1 with h2 | h2
    · have h3 : (o.looksAt ops).contains d = true := by simpa using ho
      rw [h3] at h2
      cases h2
    · simpa using h2
  · have := (each i o e).2 j (List.mem_range.2 hj)
    rw [hd] at this
    simp only [Bool.and_eq_true, Bool.or_eq_true] at this
    rcases this.2 with h2 | h2
    · exact hne (by simpa using h2)
    · rw [ho] at h2
      simp at h2
theorem tmps_same {a b : Act} {d : Nat} (hs : a.tmps.size = b.tmps.size) (he : a.eval (.tmp d) = b.eval (.tmp d)) : a.tmps[d]? = b.tmps[d]? := by
  by_cases h : d < a.tmps.size
  · have h' : d < b.tmps.size := by omega
    simp [Act.eval, h, h'] at he
    rw [Array.getElem?_eq_getElem h, Array.getElem?_eq_getElem h', he]
  · rw [Array.getElem?_eq_none (by omega), Array.getElem?_eq_none (by omega)]

theorem free_walk (hk : FreeOk ops) (a : Act) (w0 : World) (E : World → World → Prop) (hEt : ∀ x y z, E x y → E y z → E x z)
    (F : Nat → Value → World → Prop) (hst : ∀ i v x y, E x y → F i v x → F i v y)
    (hU : ∀ (i : Nat) (o : Oper), ops[i]? = some o → ∀ vs w1, E w0 w1 → (∀ j, j ∈ edgesOf o → F j (vs j) w1) → StepG P ops o (actsTo ops a (fun _ => true) vs ops.size) w1 fun v w2 => E w1 w2 ∧ F i v w2)
    (hrest : ∀ vs w1, E w0 w1 → (∀ i, i < ops.size → F i (vs i) w1) → Q .normal (actsTo ops a (fun _ => true) vs ops.size) w1) :
    ∀ (fuel : Nat) (L : Array Bool) (l : Nat → Bool) (vs : Nat → Value) (w1 : World), L.size = ops.size → (∀ i, i < ops.size → L.getD i false = l i) → (∀ (i : Nat) (o : Oper), ops[i]? = some o → l i = true → ∀ j ∈ edgesOf o, l j = true) →
      fuel + cntTo l ops.size = ops.size → E w0 w1 → (∀ i, i < ops.size → l i = true → F i (vs i) w1) →
      wpAny P .any ops Q fuel L (actsTo ops a l vs ops.size) w1 := by
  have done : ∀ (l : Nat → Bool) (vs : Nat → Value) (w1 : World), (∀ j, j < ops.size → l j = true) → E w0 w1 → (∀ i, i < ops.size → l i = true → F i (vs i) w1) → Q .normal (actsTo ops a l vs ops.size) w1 := fun l vs w1 hall hE hF => by
    have e1 : actsTo ops a l vs ops.size = actsTo ops a (fun _ => true) vs ops.size := actsTo_congr a ops.size fun j hj => ⟨hall j hj, rfl⟩
    rw [e1]
    exact hrest vs w1 hE fun i hi => hF i hi (hall i hi)
  have none_ready : ∀ (L : Array Bool) (l : Nat → Bool), L.size = ops.size → (∀ i, i < ops.size → L.getD i false = l i) → Region.ready .any ops L = [] → ∀ j, j < ops.size → l j = true := fun L l hL hl h0 j hj => by
    refine Classical.byContradiction fun hn => ?_
    have hex : ∃ j, j < ops.size ∧ l j = false := ⟨j, hj, by simpa using hn⟩
    obtain ⟨i, hi, h1, h2⟩ := exists_least l ops.size hex
    have ho : ops[i]? = some ops[i] := Array.getElem?_eq_getElem hi
    have getT : ∀ i, i < ops.size → L.getD i true = l i := fun i hi => by
      rw [← hl i hi]
      simp [Array.getD_eq_getD_getElem?, Array.getElem?_eq_getElem (show i < L.size by omega)]
    have : i ∈ Region.ready .any ops L := mem_ready.2 ⟨by rw [getT i hi]; exact h1, ops[i], ho, fun e he hb => by
      have hd := hk.down i _ ho e.on (List.mem_map.2 ⟨e, List.mem_filter.2 ⟨by simpa using he, hb⟩, rfl⟩)
      rw [hl e.on (by omega)]
      exact h2 e.on hd⟩
    rw [h0] at this
    cases this
  intro fuel
  induction fuel with
  | zero =>
    intro L l vs w1 hL hl hcl hf hE hF
    have hall : ∀ j, j < ops.size → l j = true := by
      intro j hj
      cases h : l j with
      | true => rfl
      | false =>
        have h1 := cntTo_updG l j ops.size hj h
        have h2 := cntTo_le (updG l j true) ops.size
        omega
    refine ⟨?_, done l vs w1 hall hE hF⟩
    cases hr : Region.ready .any ops L with
    | nil => rfl
    | cons i r =>
      exfalso
      have hm : i ∈ Region.ready .any ops L := by rw [hr]; simp
      obtain ⟨h1, o, ho, _⟩ := mem_ready.1 hm
      have hin : i < ops.size := (Array.getElem?_eq_some_iff.1 ho).1
      have h3 := hl i hin
      rw [hall i hin] at h3
      simp only [Array.getD_eq_getD_getElem?, Array.getElem?_eq_getElem (show i < L.size by omega), Option.getD_some] at h1 h3
      rw [h1] at h3
      cases h3
  | succ fuel ih =>
    intro L l vs w1 hL hl hcl hf hE hF
    have getT : ∀ i, i < ops.size → L.getD i true = l i := fun i hi => by
      rw [← hl i hi]
      simp [Array.getD_eq_getD_getElem?, Array.getElem?_eq_getElem (show i < L.size by omega)]
    refine ⟨fun h0 => done l vs w1 (none_ready L l hL hl h0) hE hF, fun i hi => ?_⟩
    obtain ⟨h1, o, ho, h2⟩ := mem_ready.1 hi
    have hin : i < ops.size := (Array.getElem?_eq_some_iff.1 ho).1
    rw [getT i hin] at h1
    have hed : ∀ j ∈ edgesOf o, l j = true := fun j hj => by
      obtain ⟨e, he, rfl⟩ := List.mem_map.1 hj
      obtain ⟨he1, he2⟩ := List.mem_filter.1 he
      have hd := hk.down i o ho e.on hj
      rw [← hl e.on (by omega)]
      exact h2 e (by simpa using he1) he2
    have hlook : ∀ t, t ∈ o.looksAt ops → (actsTo ops a l vs ops.size).eval (.tmp t) = (actsTo ops a (fun _ => true) vs ops.size).eval (.tmp t) := fun t ht =>
      actsTo_eval a l vs ops.size (.tmp t) fun j hj t' ht' hd => hed j (hk.look i o ho j hj t' hd (by cases ht'; exact ht))
    have hev : ∀ x ∈ o.op.operands, (actsTo ops a l vs ops.size).eval x = (actsTo ops a (fun _ => true) vs ops.size).eval x := fun x hx => by
      cases x with
      | tmp t => exact hlook t (List.mem_append_left _ (List.mem_filterMap.2 ⟨.tmp t, by simpa using hx, rfl⟩))
      | _ => rfl
    have hw : Region.wanted o (yielded ops (actsTo ops a l vs ops.size).tmps) = Region.wanted o (yielded ops (actsTo ops a (fun _ => true) vs ops.size).tmps) := by
      unfold Region.wanted
      cases hg : o.guard with
      | none => rfl
      | some p =>
        obtain ⟨g, x⟩ := p
        simp only []
        have : yielded ops (actsTo ops a l vs ops.size).tmps g = yielded ops (actsTo ops a (fun _ => true) vs ops.size).tmps g := by
          unfold yielded
          cases hd : (ops[g]?).bind (·.dst) with
          | none => rfl
          | some d =>
            simp only [Option.bind_some]
            rw [tmps_same (by rw [actsTo_size, actsTo_size]) (hlook d (List.mem_append_right _ (by simp [hg, hd])))]
        rw [this]
    have hg := hU i o ho vs w1 hE (fun j hje => hF j (by have := hk.down i o ho j hje; omega) (hed j hje))
    have hdst : dstOf ops i = o.dst := by simp [dstOf, ho]
    have next : ∀ v w2, E w1 w2 → F i v w2 → wpAny P .any ops Q fuel (L.setIfInBounds i true) ((actsTo ops a l vs ops.size).put o.dst v) w2 := fun v w2 hE2 hF2 => by
      rw [← hdst, ← actsTo_set a l vs i v h1 ops.size hin (fun k hk2 hne d hd hd2 => hk.dst i o ho k hk2 hne d hd2 (by rw [← hdst]; exact hd))]
      refine ih _ (updG l i true) (updG vs i v) w2 (by simpa using hL) ?_ ?_ ?_ (hEt _ _ _ hE hE2) ?_
      · intro m hm
        unfold updG
        by_cases h : m = i
        · subst h
          rw [if_pos rfl]
          simp [Array.getD_eq_getD_getElem?, show m < L.size by omega]
        · rw [if_neg h, getD_set_ne false (Ne.symm h)]
          exact hl m hm
      · intro m om hom hlm j hj
        by_cases h : m = i
        · subst h
          rw [ho] at hom
          cases hom
          unfold updG
          split
          · rfl
          · exact hed j hj
        · unfold updG at hlm ⊢
          rw [if_neg h] at hlm
          split
          · rfl
          · exact hcl m om hom hlm j hj
      · rw [cntTo_updG l i ops.size hin h1]
        omega
      · intro m hm hlm
        by_cases h : m = i
        · subst h
          unfold updG
          rw [if_pos rfl]
          exact hF2
        · unfold updG at hlm ⊢
          rw [if_neg h] at hlm ⊢
          exact hst m _ _ _ hE2 (hF m hm hlm)
    unfold wpOp
    rw [ho]
    simp only []
    rw [hw]
    cases hwd : Region.wanted o (yielded ops (actsTo ops a (fun _ => true) vs ops.size).tmps) with
    | true =>
      rw [if_pos rfl]
      refine .inl ?_
      have hg2 : Gives P o (actsTo ops a l vs ops.size).eval w1 fun v w2 => E w1 w2 ∧ F i v w2 := by
        have hg := (hg.1 hwd).out
        refine ⟨?_⟩
        unfold GivesM at hg ⊢
        rw [execOp_congr o (hk.sel i o ho) hev]
        exact hg
      exact hg2.wp fun v w2 ⟨hE2, hF2⟩ => next v w2 hE2 hF2
    | false =>
      rw [if_neg (by simp)]
      have hg3 := hg.2 hwd
      exact next undef w1 hg3.1 hg3.2

/-- THE LAW. -/
theorem region_freeG {id : Nat} {a : Act} {w : World} (hm : P.follows .mixedOrders = true) (hk : freeOk ops = true) (E : World → World → Prop) (hE0 : E w w.drew) (hEt : ∀ x y z, E x y → E y z → E x z)
    (F : Nat → Value → World → Prop) (hst : ∀ i v x y, E x y → F i v x → F i v y)
    (hU : ∀ (i : Nat) (o : Oper), ops[i]? = some o → ∀ vs w1, E w w1 → (∀ j, j ∈ edgesOf o → F j (vs j) w1) → StepG P ops o (actsTo ops a (fun _ => true) vs ops.size) w1 fun v w2 => E w1 w2 ∧ F i v w2)
    (hrest : ∀ vs w1, E w w1 → (∀ i, i < ops.size → F i (vs i) w1) → Q .normal (actsTo ops a (fun _ => true) vs ops.size) w1) :
    (Code.region id ops true).wp P Q a w := by
  refine wp_region_any hm ?_
  have h0 : actsTo ops a (fun _ => false) (fun _ => undef) ops.size = a := by
    have : ∀ k, actsTo ops a (fun _ => false) (fun _ => undef) k = a := by
      intro k
      induction k with
      | zero => rfl
      | succ k ih => unfold actsTo; simpa using ih
    exact this _
  have hc0 : cntTo (fun _ => false) ops.size = 0 := by
    have : ∀ k, cntTo (fun _ => false) k = 0 := by
      intro k
      induction k with
      | zero => rfl
      | succ k ih => unfold cntTo; simpa using ih
    exact this _
  have := free_walk (Q := Q) (freeOk_spec hk) a w E hEt F hst hU hrest ops.size (Array.replicate ops.size false) (fun _ => false) (fun _ => undef) w.drew (by simp) (fun i hi => by simp [hi]) (fun _ _ _ h => by cases h)
    (by omega) hE0 (fun _ _ h => by cases h)
  rwa [h0] at this
end

/-- Only new memory. -/
def Ex (w w' : World) : Prop := Below w.heap.size w w'
theorem Ex.trans {a b c : World} (h : Ex a b) (k : Ex b c) : Ex a c := Below.trans h (Below.mono k h.size)
theorem Ex.drew (w : World) : Ex w w.drew := (Below.refl _ w).drew
theorem Ex.refl (w : World) : Ex w w := Below.refl _ w
theorem Ex.alloc (w : World) (o : Obj) : Ex w (w.alloc o) := (Below.refl _ w).alloc (Nat.le_refl _) o

/-- What is known of a value, in a world and in all that have more memory. -/
structure Fact where
  holds : Value → World → Prop
  ext : ∀ v x y, Ex x y → holds v x → holds v y
def Fact.any : Fact := ⟨fun _ _ => True, fun _ _ _ _ _ => trivial⟩
def Fact.val (x : Value) : Fact := ⟨fun v _ => v = x, fun _ _ _ _ h => h⟩
def Fact.bsl (xs : List UInt8) : Fact := ⟨fun v w => BSl w v xs, fun _ _ _ he h => h.fresh he⟩
/-- A pair of a slice and a number. -/
def Fact.told (xs : List UInt8) (n : Int) : Fact := ⟨fun v w => ∃ u, v = .tuple #[u, .int .i64 n] ∧ BSl w u xs, fun _ _ _ he ⟨u, h1, h2⟩ => ⟨u, h1, h2.fresh he⟩⟩

/-- What each of a list of operations must show. -/
def eachF (p : Nat → Oper → Prop) : Nat → List Oper → Prop
  | _, [] => True
  | i, o :: r => p i o ∧ eachF p (i + 1) r
theorem eachF_at {p : Nat → Oper → Prop} : ∀ (l : List Oper) (k : Nat), eachF p k l → ∀ (i : Nat) (o : Oper), l[i]? = some o → p (k + i) o
  | [], k, _, i, o, h => by simp at h
  | x :: r, k, hl, 0, o, h => by simp at h; subst h; exact hl.1
  | x :: r, k, hl, i + 1, o, h => by
    have := eachF_at r (k + 1) hl.2 i o (by simpa using h)
    rwa [show k + 1 + i = k + (i + 1) by omega] at this
/-- What operation i of a region must show. -/
def ReqF (l : List Oper) (fs : List Fact) (a : Act) (w : World) (i : Nat) (o : Oper) : Prop :=
  ∀ vs w1, Ex w w1 → (∀ j, (edgesOf o).contains j = true → (fs.getD j .any).holds (vs j) w1) → StepG Try.prog l.toArray o (actsTo l.toArray a (fun _ => true) vs l.length) w1 fun v w2 => Ex w1 w2 ∧ (fs.getD i .any).holds v w2
theorem region_free {id : Nat} {l : List Oper} {Q : Exit → Act → World → Prop} {a : Act} {w : World} (fs : List Fact) (hk : freeOk l.toArray = true)
    (hU : eachF (ReqF l fs a w) 0 l)
    (hrest : ∀ vs w1, Ex w w1 → (∀ i, i < l.length → (fs.getD i .any).holds (vs i) w1) → Q .normal (actsTo l.toArray a (fun _ => true) vs l.length) w1) :
    (Code.region id l.toArray true).wp Try.prog Q a w := by
  refine region_freeG (by kernel_rfl) hk Ex (Ex.drew w) (fun _ _ _ => Ex.trans) (fun i => (fs.getD i .any).holds) (fun i => (fs.getD i .any).ext) (fun i o ho vs w1 he hd => ?_) (fun vs w1 he hF => ?_)
  · have := eachF_at l 0 hU i o (by simpa using ho) vs w1 he (fun j hjc => hd j (by simpa using hjc))
    rw [Nat.zero_add] at this
    exact this
  · exact hrest vs w1 he (fun i hi => hF i (by simpa using hi))

section
variable {o : Oper} {ρ : Operand → Value} {w : World} {x y z : Operand} {Φ : Value → World → Prop} {v vx vy vz : Value}
theorem gives_move (ho : o.op = .move x) (hx : ρ x = v) (h : Φ v w) : Gives Try.prog o ρ w Φ := by
  refine Gives.value (w' := w) (v := v) ?_ h
  unfold execOp
  simp only [ho, hx]
  rfl
theorem gives_assign (ho : o.op = .assign x) (hx : ρ x = v) (h : Φ v w) : Gives Try.prog o ρ w Φ := by
  refine Gives.value (w' := w) (v := v) ?_ h
  unfold execOp
  simp only [ho, hx]
  rfl
theorem gives_pick_t (ho : o.op = .pick x y z) (hx : ρ x = .bool true) (hy : ρ y = v) (h : Φ v w) : Gives Try.prog o ρ w Φ := by
  refine Gives.value (w' := w) (v := v) ?_ h
  unfold execOp
  simp [ho, hx, hy, asBool]
theorem gives_pick_f (ho : o.op = .pick x y z) (hx : ρ x = .bool false) (hz : ρ z = v) (h : Φ v w) : Gives Try.prog o ρ w Φ := by
  refine Gives.value (w' := w) (v := v) ?_ h
  unfold execOp
  simp [ho, hx, hz, asBool]
theorem gives_len {ty : TypeId} {ao : Option Addr} {n cap : Nat} (ho : o.op = .call { callee := .builtin .len, args := #[x], argTypes := #[ty] }) (hx : ρ x = .slice ao n cap) (hu : ∃ e, Try.prog.underlying ty = some (.slice e)) (h : Φ (.int .i64 n) w) : Gives Try.prog o ρ w Φ := by
  obtain ⟨e, hu⟩ := hu
  refine Gives.value (w' := w) (v := .int .i64 n) ?_ h
  unfold execOp
  simp only [ho]
  simp [resolve, invoke, builtin, Builtin.len_, hx, run_underlying hu, goInt]
theorem gives_lenB {xs : List UInt8} {n : Nat} (ho : o.op = .call { callee := .builtin .len, args := #[x], argTypes := #[30] }) (hx : ρ x = v) (hv : BSl w v xs) (hn : xs.length = n) (h : Φ (.int .i64 n) w) : Gives Try.prog o ρ w Φ := by
  obtain ⟨ao, cap, rfl⟩ := hv.len
  rw [hn] at hx
  exact gives_len ho hx ⟨_, Try.underlying30⟩ h
theorem gives_str {xs : List UInt8} (ho : o.op = .convert 30 9 x) (hx : ρ x = v) (hv : BSl w v xs) (h : Φ (.string ⟨xs.toArray⟩) w) : Gives Try.prog o ρ w Φ := by
  refine Gives.value (w' := w) (v := .string ⟨xs.toArray⟩) ?_ h
  unfold execOp
  simp only [ho, hx]
  rw [Sem.run_bind, run_string hv]
  rfl
theorem enters_f {P : Program} {f : FuncId} {fn : Func} {c : Code} (hf : P.funcs[f]? = some fn) (hname : (fn.name == "runtime.NumGoroutine") = false) (hb : fn.body = some c) (args : Array Value) (w : World) : (callFunc f args).run P w = .ok (.enter f args) w := by
  have h1 : fn.name ≠ "runtime.NumGoroutine" := by simpa using hname
  simp [callFunc, hf, h1, hb, mark]
theorem gives_call {f : FuncId} {xs : Array Operand} {ts : Array TypeId} {vs : Array Value} {fn : Func} (ho : o.op = .call { callee := .value (.func f), args := xs, argTypes := ts }) (hρ : ρ (.func f) = .func (.func f) #[] #[])
    (hv : xs.map ρ = vs) (hf : Try.prog.funcs[f]? = some fn) (hname : (fn.name == "runtime.NumGoroutine") = false) (hb : fn.body.isSome = true) (h : Calls Try.prog f vs w fun e w' => ∃ v, e = .returned v ∧ Φ v w') : Gives Try.prog o ρ w Φ := by
  obtain ⟨c, hb⟩ := Option.isSome_iff_exists.1 hb
  refine Gives.enter (w' := w) (f := f) (args := vs) ?_ h
  unfold execOp
  simp only [ho]
  simp [resolve, hρ, hv, Deferred.ofValue, invoke, enters_f hf hname hb]
theorem gives_eqS {xs ys : List UInt8} {r : Bool} (ho : o.op = .binOp .eql 9 x y 9) (hx : ρ x = .string ⟨xs.toArray⟩) (hy : ρ y = .string ⟨ys.toArray⟩) (hr : (xs == ys) = r) (h : Φ (.bool r) w) : Gives Try.prog o ρ w Φ := by
  refine Gives.value (w' := w) (v := .bool r) ?_ h
  unfold execOp
  simp only [ho, hx, hy]
  simp [eqGuard, binOp, Op.stringOp, ByteArray.toList_mk, hr]
theorem gives_neS {xs ys : List UInt8} {r : Bool} (ho : o.op = .binOp .neq 9 x y 9) (hx : ρ x = .string ⟨xs.toArray⟩) (hy : ρ y = .string ⟨ys.toArray⟩) (hr : (!(xs == ys)) = r) (h : Φ (.bool r) w) : Gives Try.prog o ρ w Φ := by
  refine Gives.value (w' := w) (v := .bool r) ?_ h
  unfold execOp
  simp only [ho, hx, hy]
  simp [eqGuard, binOp, Op.stringOp, ByteArray.toList_mk, ← hr]
theorem gives_eqI {t : TypeId} {k : IntKind} {a b : Int} {r : Bool} (ho : o.op = .binOp .eql t x y t) (hx : ρ x = .int k a) (hy : ρ y = .int k b) (hr : (a == b) = r) (h : Φ (.bool r) w) : Gives Try.prog o ρ w Φ := by
  refine Gives.value (w' := w) (v := .bool r) ?_ h
  unfold execOp
  simp only [ho, hx, hy]
  simp [eqGuard, binOp, Op.intCmp, hr]
theorem gives_neI {t : TypeId} {k : IntKind} {a b : Int} {r : Bool} (ho : o.op = .binOp .neq t x y t) (hx : ρ x = .int k a) (hy : ρ y = .int k b) (hr : (a != b) = r) (h : Φ (.bool r) w) : Gives Try.prog o ρ w Φ := by
  refine Gives.value (w' := w) (v := .bool r) ?_ h
  unfold execOp
  simp only [ho, hx, hy]
  simp [eqGuard, binOp, Op.intCmp, hr]
theorem gives_gtI {t : TypeId} {k : IntKind} {a b : Int} {r : Bool} (ho : o.op = .binOp .gtr t x y t) (hx : ρ x = .int k a) (hy : ρ y = .int k b) (hr : decide (b < a) = r) (h : Φ (.bool r) w) : Gives Try.prog o ρ w Φ := by
  refine Gives.value (w' := w) (v := .bool r) ?_ h
  unfold execOp
  simp only [ho, hx, hy]
  simp [eqGuard, binOp, Op.intCmp, ← hr]
theorem gives_addI {t : TypeId} {a b c : Int} (ho : o.op = .binOp .add t x y t) (hx : ρ x = .int .i64 a) (hy : ρ y = .int .i64 b) (hr : IntKind.i64.wrap (a + b) = c) (h : Φ (.int .i64 c) w) : Gives Try.prog o ρ w Φ := by
  refine Gives.value (w' := w) (v := .int .i64 c) ?_ h
  unfold execOp
  simp only [ho, hx, hy]
  simp [eqGuard, binOp, Op.intArith, ← hr]
theorem gives_subI {t : TypeId} {a b c : Int} (ho : o.op = .binOp .sub t x y t) (hx : ρ x = .int .i64 a) (hy : ρ y = .int .i64 b) (hr : IntKind.i64.wrap (a - b) = c) (h : Φ (.int .i64 c) w) : Gives Try.prog o ρ w Φ := by
  refine Gives.value (w' := w) (v := .int .i64 c) ?_ h
  unfold execOp
  simp only [ho, hx, hy]
  simp [eqGuard, binOp, Op.intArith, ← hr]
theorem gives_conv {s d : TypeId} (ho : o.op = .convert s d x) (hx : ρ x = vx) (hr : (convert s d vx).run Try.prog w = .ok v w) (h : Φ v w) : Gives Try.prog o ρ w Φ := by
  refine Gives.value (w' := w) (v := v) ?_ h
  unfold execOp
  simp only [ho, hx]
  rw [Sem.run_bind, hr]
  rfl
theorem gives_slice {t : TypeId} {lo hi mx : Option Operand} (ho : o.op = .slice t x lo hi mx) (hr : (Instr.sliceAt t (ρ x) (lo.map ρ) (hi.map ρ) (mx.map ρ)).run Try.prog w = .ok v w) (h : Φ v w) : Gives Try.prog o ρ w Φ := by
  refine Gives.value (w' := w) (v := v) ?_ h
  unfold execOp
  simp only [ho]
  rw [Sem.run_bind, hr]
  rfl
end
/-- One operation of the list. -/
theorem req_cons {l : List Oper} {fs : List Fact} {a : Act} {w : World} {i : Nat} {o : Oper} {r : List Oper} (f : Fact) (hf : fs.getD i .any = f)
    (h : ∀ vs w1, Ex w w1 → (∀ j (f : Fact), (edgesOf o).contains j = true → fs.getD j .any = f → f.holds (vs j) w1) → StepG Try.prog l.toArray o (actsTo l.toArray a (fun _ => true) vs l.length) w1 fun v w2 => Ex w1 w2 ∧ f.holds v w2)
    (t : eachF (ReqF l fs a w) (i + 1) r) : eachF (ReqF l fs a w) i (o :: r) := by
  refine ⟨fun vs w1 he hd => ?_, t⟩
  rw [hf]
  exact h vs w1 he fun j f h2 h3 => by have := hd j h2; rwa [h3] at this
theorem req_nil {l : List Oper} {fs : List Fact} {a : Act} {w : World} {i : Nat} : eachF (ReqF l fs a w) i [] := trivial
theorem told_at {fs : List Fact} {vs : Nat → Value} {w : World} {n : Nat} (h : ∀ i, i < n → (fs.getD i .any).holds (vs i) w) (i : Nat) (f : Fact) (hi : i < n) (hf : fs.getD i .any = f) : f.holds (vs i) w := by
  have := h i hi
  rwa [hf] at this
/-- A call that answers new bytes. -/
theorem told_bytes {xs : List UInt8} {w : World} {f : FuncId} {args : Array Value} (h : Calls Try.prog f args w fun e w' => Fresh w xs e w') : Calls Try.prog f args w fun e w' => ∃ v, e = .returned v ∧ Ex w w' ∧ (Fact.bsl xs).holds v w' :=
  h.mono fun _ _ ⟨v, h1, h2, h3⟩ => ⟨v, h1, h3, BSl.ofRow h2⟩
theorem told_true {w : World} {f : FuncId} {args : Array Value} (h : Calls Try.prog f args w fun e w' => e = .returned (.bool true) ∧ Below w.heap.size w w') : Calls Try.prog f args w fun e w' => ∃ v, e = .returned v ∧ Ex w w' ∧ (Fact.val (.bool true)).holds v w' :=
  h.mono fun _ _ ⟨h1, h2⟩ => ⟨_, h1, h2, rfl⟩

end Go.Proofs.Ytnigfnikajejaaa
