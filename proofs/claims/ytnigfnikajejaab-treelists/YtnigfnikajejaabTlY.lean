/- Rows of texts: appends in a region that draws its order. -/
import Derived.Test.YtnigfnikajejaabPaA
import Derived.Test.YtnigfnikajejaabKpW
import Derived.Test.YtnigfnikajejaabWrE
import Derived.OrdersHeld
import Derived.Tactics
import Derived.Great.BuildSlice
import Derived.Test.YtnigfnikajejaabTlX
import Derived.Deep.CutRange
import Derived.Deep.RegionLaw
namespace Go.Proofs.Ytnigfnikajejaab
open Go Go.RowKit

theorem SOwn.len {w : World} {base : Nat} {v : Value} {ss : List ByteArray} (h : SOwn w base v ss) : ∃ ao cap, v = .slice ao ss.length cap := by
  obtain ⟨ao, cap, e⟩ := ownsRow_shape h
  exact ⟨ao, cap, e⟩
/-- Append onto a row of texts of one's own, at a step of a region that draws its order. -/
theorem step_str {ops : Array Oper} {o : Oper} {a : Act} {W : World} {K : Act → World → Prop} {Q : Exit → Act → World → Prop} {E : Prop} (hgd : o.guard = none) (s xo : Operand)
    (ho : o.op = .call { callee := .builtin .append, args := #[s, xo], argTypes := #[25, 25] })
    (w0 : World) (B : Nat) (v : Value) (xs : List ByteArray) (hsv : a.eval s = v) (hown : SOwn W B v xs) (hb : Below B w0 W) (hB : B ≤ w0.heap.size)
    (x : Value) (ys : List ByteArray) (hx : a.eval xo = x) (hs : Src Try.prog 1 25 x ys.length (ys.map Value.string) W)
    (hl : xs.length + ys.length ≤ 100000)
    (h : ∀ ao n c w', n = (xs ++ ys).length → SOwn w' B (.slice ao n c) (xs ++ ys) → Below B w0 w' → W.grownBy w' v.ownBlock → K (a.put o.dst (.slice ao n c)) w') :
    if Region.wanted o (yielded ops a.tmps) = true then Oper.wp Try.prog o a W K Q else E := by
  obtain ⟨i0, hi, hz0, hz1, hz2⟩ := info_parts Try.infoStr
  refine step_append_src W hgd s xo 25 25 ho B 9 i0 _ 16 Try.underlying25 hi hz0 hz1 hz2 rfl v xs.length _ hsv hown x ys.length _ hx hs (by unfold maxLen; omega) (by omega) (Nat.le_trans hB hb.size) W.heap.size rfl ?_
  intro v' w' h1 h2 _ _
  have h3 : SOwn w' B v' (xs ++ ys) := by
    unfold SOwn
    rw [List.length_append, List.map_append]
    exact h1
  obtain ⟨ao, cap, rfl⟩ := h3.len
  exact h ao _ cap w' rfl h3 (hb.grown h2 (Nat.le_trans hB hb.size) (fun g hg => (hown.lt g hg).1)) h2
theorem own_at {W : World} {B g : Nat} (hB : B ≤ g) (hh : W.heap[g]? = some (.cells #[] 9 (0, 0))) : SOwn W B (.slice (some ⟨g, 0, none⟩) 0 0) [] :=
  ⟨rfl, .inr ⟨g, 0, #[], rfl, hB, hh, Nat.le_refl _, by simp [maxLen], rfl, rfl⟩⟩
theorem SOwn.alloc {w : World} {base : Nat} {v : Value} {ss : List ByteArray} (h : SOwn w base v ss) (o : Obj) : SOwn (w.alloc o) base v ss := World.ownsRow.alloc h o
theorem heap_new_at {w : World} {o : Obj} {k : Nat} (h : k = w.heap.size) : (w.alloc o).heap[k]? = some o := by subst h; exact heap_alloc_new w o
theorem heap_old {w : World} {o p : Obj} {k : Nat} (h : w.heap[k]? = some p) : (w.alloc o).heap[k]? = some p := by
  rw [Below.heap_alloc w o k (Array.getElem?_eq_some_iff.1 h).1]; exact h
theorem SOwn.fresh {w w' : World} {base : Nat} {v : Value} {ss : List ByteArray} (h : SOwn w base v ss) (hb : Below w.heap.size w w') : SOwn w' base v ss :=
  (Keeps.ofFresh (S := fun _ => False) hb).row h fun _ _ h => h
open Go

section
variable {P : Program} {ops : Array Oper} {Q : Exit → Act → World → Prop}

/-- The operation, run where its operands read as ρ says, gives such a value in such a world. -/
def GivesM (P : Program) (o : Oper) (ρ : Operand → Value) (w : World) (Φ : Value → World → Prop) : Prop :=
  match (execOp ρ o).run P w with
  | .ok (.value v) w' => Φ v w'
  | .ok .skip w' => Φ undef w'
  | .ok (.enter f args) w' => Calls P f args w' fun e w'' => ∃ v, e = .returned v ∧ Φ v w''
  | _ => False
structure Gives (P : Program) (o : Oper) (ρ : Operand → Value) (w : World) (Φ : Value → World → Prop) : Prop where
  out : GivesM P o ρ w Φ
theorem Gives.value {o : Oper} {ρ : Operand → Value} {w w' : World} {v : Value} {Φ : Value → World → Prop} (hr : (execOp ρ o).run P w = .ok (.value v) w') (h : Φ v w') : Gives P o ρ w Φ := by
  refine ⟨?_⟩
  unfold GivesM
  rw [hr]
  exact h
theorem Gives.enter {o : Oper} {ρ : Operand → Value} {w w' : World} {f : FuncId} {args : Array Value} {Φ : Value → World → Prop} (hr : (execOp ρ o).run P w = .ok (.enter f args) w') (h : Calls P f args w' fun e w'' => ∃ v, e = .returned v ∧ Φ v w'') : Gives P o ρ w Φ := by
  refine ⟨?_⟩
  unfold GivesM
  rw [hr]
  exact h
theorem Gives.wp {o : Oper} {a : Act} {w : World} {Φ : Value → World → Prop} {K : Act → World → Prop} (h : Gives P o a.eval w Φ) (hK : ∀ v w', Φ v w' → K (a.put o.dst v) w') : o.wp P a w K Q := by
  have h := h.out
  unfold GivesM at h
  unfold Oper.wp
  cases hr : (execOp a.eval o).run P w with
  | ok n w1 =>
    rw [hr] at h
    cases n <;> simp only [Oper.upon] at h ⊢
    case value v => exact hK _ _ h
    case skip => exact hK _ _ h
    case enter f args => exact Calls.mono h fun e w'' ⟨v, hv, h2⟩ => by subst hv; exact hK _ _ h2
  | halt x w1 => rw [hr] at h; exact h.elim

def dstOf (ops : Array Oper) (k : Nat) : Option Tmp := (ops[k]?).bind (·.dst)
/-- The frame behind the operations that are listed. -/
def actsTo (ops : Array Oper) (a : Act) (listed : Nat → Bool) (vs : Nat → Value) : Nat → Act
  | 0 => a
  | k + 1 => if listed k then (actsTo ops a listed vs k).put (dstOf ops k) (vs k) else actsTo ops a listed vs k
theorem put_size (a : Act) (d : Option Tmp) (v : Value) : (a.put d v).tmps.size = a.tmps.size := by cases d <;> simp [Act.put]
theorem actsTo_size (a : Act) (listed : Nat → Bool) (vs : Nat → Value) (k : Nat) : (actsTo ops a listed vs k).tmps.size = a.tmps.size := by
  induction k with
  | zero => rfl
  | succ k ih =>
    unfold actsTo
    split
    · rw [put_size, ih]
    · exact ih
theorem actsTo_congr (a : Act) {l l' : Nat → Bool} {vs vs' : Nat → Value} (k : Nat) (h : ∀ j, j < k → l j = l' j ∧ vs j = vs' j) : actsTo ops a l vs k = actsTo ops a l' vs' k := by
  induction k with
  | zero => rfl
  | succ k ih =>
    unfold actsTo
    rw [(h k (by omega)).1, (h k (by omega)).2, ih (fun j hj => h j (by omega))]
def updG {α : Type} (f : Nat → α) (i : Nat) (x : α) : Nat → α := fun j => if j = i then x else f j
theorem actsTo_set (a : Act) (l : Nat → Bool) (vs : Nat → Value) (i : Nat) (v : Value) (hl : l i = false) (n : Nat) (hi : i < n)
    (hd : ∀ k, k < n → k ≠ i → ∀ d, dstOf ops i = some d → dstOf ops k ≠ some d) :
    actsTo ops a (updG l i true) (updG vs i v) n = (actsTo ops a l vs n).put (dstOf ops i) v := by
  induction n with
  | zero => omega
  | succ k ih =>
    unfold actsTo
    by_cases hk : k = i
    · subst hk
      have e : actsTo ops a (updG l k true) (updG vs k v) k = actsTo ops a l vs k := actsTo_congr a k fun j hj => by
        unfold updG
        rw [if_neg (by omega), if_neg (by omega)]
        exact ⟨rfl, rfl⟩
      rw [e, hl]
      simp [updG]
    · have h1 : updG l i true k = l k := by unfold updG; rw [if_neg hk]
      have h2 : updG vs i v k = vs k := by unfold updG; rw [if_neg hk]
      rw [h1, h2, ih (by omega) (fun j hj => hd j (by omega))]
      split
      · exact Act.put_comm _ _ _ (hd k (by omega) hk)
      · rfl
theorem eval_put_tmp (a : Act) (d : Option Tmp) (v : Value) (t : Tmp) : (a.put d v).eval (.tmp t) = if d = some t ∧ t < a.tmps.size then v else a.eval (.tmp t) := by
  cases d with
  | none => simp [Act.put]
  | some d =>
    by_cases h : d = t
    · subst h
      by_cases h2 : d < a.tmps.size
      · simp [Act.put, Act.eval, h2]
      · simp [Act.put, Act.eval, h2]
    · have : ¬ (some d = some t ∧ t < a.tmps.size) := by simp [h]
      rw [if_neg this]
      exact Act.eval_put fun d' hd' hx => by cases hd'; cases hx; exact h rfl
theorem actsTo_eval (a : Act) (l : Nat → Bool) (vs : Nat → Value) (n : Nat) (x : Operand) (h : ∀ j, j < n → ∀ t, x = .tmp t → dstOf ops j = some t → l j = true) :
    (actsTo ops a l vs n).eval x = (actsTo ops a (fun _ => true) vs n).eval x := by
  cases x with
  | tmp t =>
    induction n with
    | zero => rfl
    | succ k ih =>
      have ih' := ih (fun j hj => h j (by omega))
      unfold actsTo
      rw [if_pos rfl]
      by_cases hl : l k = true
      · rw [if_pos hl, eval_put_tmp, eval_put_tmp, actsTo_size, actsTo_size, ih']
      · rw [if_neg hl, eval_put_tmp, if_neg, ih']
        intro e
        exact hl (h k (by omega) t rfl e.1)
  | _ => rfl

/-- The operations that must come ahead of one. -/
def edgesOf (o : Oper) : List Nat := (o.after.toList.filter (Region.binds .any)).map (·.on)
/-- Does j come ahead of i, by at most so many edges? -/
def under (ops : Array Oper) : Nat → Nat → Nat → Bool
  | 0, _, _ => false
  | f + 1, i, j => match ops[i]? with
    | some o => (edgesOf o).any fun m => m == j || under ops f m j
    | none => false
def growOk (ops : Array Oper) (U : Nat) : Bool :=
  decide (U ≤ ops.size) &&
  (List.range ops.size).all (fun i => match ops[i]? with
    | some o => o.guard.isNone && (match o.op with | .select .. => false | _ => true) && (edgesOf o).all (· < i) &&
      (if i < U then
        (List.range U).all (fun j => (match dstOf ops j with
          | some d => (!(o.looksAt ops).contains d || (edgesOf o).contains j) && (j == i || o.dst != some d)
          | none => true))
       else (List.range U).all (fun j => under ops ops.size i j))
    | none => false)

structure GrowOk (ops : Array Oper) (U : Nat) : Prop where
  le : U ≤ ops.size
  guard : ∀ (i : Nat) (o : Oper), ops[i]? = some o → o.guard = none
  sel : ∀ (i : Nat) (o : Oper), ops[i]? = some o → ∀ cs b, o.op ≠ .select cs b
  down : ∀ (i : Nat) (o : Oper), ops[i]? = some o → ∀ j ∈ edgesOf o, j < i
  look : ∀ (i : Nat) (o : Oper), ops[i]? = some o → i < U → ∀ j, j < U → ∀ d, dstOf ops j = some d → d ∈ o.looksAt ops → j ∈ edgesOf o
  dst : ∀ (i : Nat) (o : Oper), ops[i]? = some o → i < U → ∀ j, j < U → j ≠ i → ∀ d, dstOf ops j = some d → o.dst ≠ some d
  late : ∀ (i : Nat) (o : Oper), ops[i]? = some o → U ≤ i → ∀ j, j < U → under ops ops.size i j = true
theorem growOk_spec {U : Nat} (h : growOk ops U = true) : GrowOk ops U := by
  unfold growOk at h
  rw [Bool.and_eq_true, decide_eq_true_eq, List.all_eq_true] at h
  obtain ⟨h0, h1⟩ := h
  have hi : ∀ (i : Nat) (o : Oper), ops[i]? = some o → i ∈ List.range ops.size := fun i o e => List.mem_range.2 (Array.getElem?_eq_some_iff.1 e).1
  have each := fun (i : Nat) (o : Oper) (e : ops[i]? = some o) => by
    have := h1 i (hi i o e)
    rw [e] at this
    simp only [Bool.and_eq_true, List.all_eq_true, decide_eq_true_eq] at this
    exact this
  refine ⟨h0, fun i o e => by simpa using (each i o e).1.1.1, fun i o e cs b hs => ?_, fun i o e j hj => (each i o e).1.2 j hj, fun i o e hU j hj d hd ho => ?_, fun i o e hU j hj hne d hd ho => ?_, fun i o e hU j hj => ?_⟩
  · have := (each i o e).1.1.2
    rw [hs] at this
    simp at this
  · have := (each i o e).2
    rw [if_pos hU, List.all_eq_true] at this
    have := this j (List.mem_range.2 hj)
    rw [hd] at this
    simp only [Bool.and_eq_true, Bool.or_eq_true, Bool.not_eq_true'] at this
    rcases this.1 with h2 | h2
    · have h3 : (o.looksAt ops).contains d = true := by simpa using ho
      rw [h3] at h2
      cases h2
    · simpa using h2
  · have := (each i o e).2
    rw [if_pos hU, List.all_eq_true] at this
    have := this j (List.mem_range.2 hj)
    rw [hd] at this
    simp only [Bool.and_eq_true, Bool.or_eq_true] at this
    rcases this.2 with h2 | h2
    · exact hne (by simpa using h2)
    · rw [ho] at h2
      simp at h2
  · have := (each i o e).2
    rw [if_neg (by omega), List.all_eq_true] at this
    exact this j (List.mem_range.2 hj)
theorem under_listed {l : Nat → Bool} (hc : ∀ (i : Nat) (o : Oper), ops[i]? = some o → l i = true → ∀ j ∈ edgesOf o, l j = true) : ∀ (f i j : Nat) (o : Oper), ops[i]? = some o → (∀ m ∈ edgesOf o, l m = true) → under ops f i j = true → l j = true
  | 0, i, j, o, _, _, h => by simp [under] at h
  | f + 1, i, j, o, ho, hm, h => by
    unfold under at h
    rw [ho] at h
    simp only [List.any_eq_true, Bool.or_eq_true, beq_iff_eq] at h
    obtain ⟨m, hme, h⟩ := h
    rcases h with rfl | h
    · exact hm m hme
    · cases hom : ops[m]? with
      | none =>
        cases f with
        | zero => simp [under] at h
        | succ f => unfold under at h; rw [hom] at h; simp at h
      | some om => exact under_listed hc f m j om hom (hc m om hom (hm m hme)) h

/-- How many of the first are listed. -/
def cntTo (l : Nat → Bool) : Nat → Nat
  | 0 => 0
  | k + 1 => cntTo l k + (if l k then 1 else 0)
theorem cntTo_le (l : Nat → Bool) (k : Nat) : cntTo l k ≤ k := by
  induction k with
  | zero => exact Nat.le_refl _
  | succ k ih => unfold cntTo; split <;> omega
theorem cntTo_updG_out (l : Nat → Bool) (i k : Nat) (h : k ≤ i) : cntTo (updG l i true) k = cntTo l k := by
  induction k with
  | zero => rfl
  | succ k ih =>
    have e : updG l i true k = l k := by unfold updG; rw [if_neg (by omega)]
    unfold cntTo
    rw [ih (by omega), e]
theorem cntTo_updG (l : Nat → Bool) (i k : Nat) (hi : i < k) (hl : l i = false) : cntTo (updG l i true) k = cntTo l k + 1 := by
  induction k with
  | zero => omega
  | succ k ih =>
    unfold cntTo
    by_cases h : k = i
    · subst h
      rw [cntTo_updG_out l k k (Nat.le_refl _), hl]
      simp [updG]
    · have e : updG l i true k = l k := by unfold updG; rw [if_neg h]
      rw [ih (by omega), e]
      omega
theorem cntTo_all (l : Nat → Bool) (k : Nat) (h : ∀ j, j < k → l j = true) : cntTo l k = k := by
  induction k with
  | zero => rfl
  | succ k ih =>
    unfold cntTo
    rw [ih (fun j hj => h j (by omega)), h k (by omega)]
    simp
theorem exists_least (l : Nat → Bool) : ∀ k, (∃ j, j < k ∧ l j = false) → ∃ i, i < k ∧ l i = false ∧ ∀ j, j < i → l j = true
  | 0, ⟨j, hj, _⟩ => by omega
  | k + 1, ⟨j, hj, hl⟩ => by
    by_cases h : ∃ j, j < k ∧ l j = false
    · obtain ⟨i, hi, h1, h2⟩ := exists_least l k h
      exact ⟨i, by omega, h1, h2⟩
    · refine ⟨j, hj, hl, fun m hm => ?_⟩
      cases hlm : l m with
      | true => rfl
      | false => exact absurd ⟨m, by omega, hlm⟩ h

/-- The first U are listed. -/
def listedU (n U : Nat) : Array Bool := (Array.range n).map fun i => decide (i < U)

theorem grow_walk {U : Nat} (hk : GrowOk ops U) (a : Act) (w0 : World) (E : World → World → Prop) (hEt : ∀ x y z, E x y → E y z → E x z)
    (F : Nat → Value → World → Prop) (hst : ∀ i v x y, E x y → F i v x → F i v y) (Sep : Nat → Value → Nat → Value → Prop)
    (hU : ∀ (i : Nat) (o : Oper), ops[i]? = some o → i < U → ∀ vs w1, E w0 w1 → (∀ j, j < U → j ∈ edgesOf o → F j (vs j) w1) → Gives P o (actsTo ops a (fun _ => true) vs U).eval w1 fun v w2 => E w1 w2 ∧ F i v w2 ∧ ∀ j u, j < U → F j u w1 → Sep j u i v)
    (hrest : ∀ vs w1, E w0 w1 → (∀ i, i < U → F i (vs i) w1) → (∀ i j, i < U → j < U → i ≠ j → Sep i (vs i) j (vs j) ∨ Sep j (vs j) i (vs i)) → wpAny P .any ops Q (ops.size - U) (listedU ops.size U) (actsTo ops a (fun _ => true) vs U) w1) :
    ∀ (fuel : Nat) (L : Array Bool) (l : Nat → Bool) (vs : Nat → Value) (w1 : World), L.size = ops.size → (∀ i, i < ops.size → L.getD i false = l i) → (∀ i, U ≤ i → l i = false) → (∀ (i : Nat) (o : Oper), ops[i]? = some o → l i = true → ∀ j ∈ edgesOf o, l j = true) →
      fuel + cntTo l U = ops.size → E w0 w1 → (∀ i, i < U → l i = true → F i (vs i) w1) → (∀ i j, i < U → j < U → i ≠ j → l i = true → l j = true → Sep i (vs i) j (vs j) ∨ Sep j (vs j) i (vs i)) →
      wpAny P .any ops Q fuel L (actsTo ops a l vs U) w1 := by
  intro fuel
  induction fuel with
  | zero =>
    intro L l vs w1 hL hl hlU hcl hf hE hF hS
    have hle := cntTo_le l U
    have hUn : U = ops.size := by have := hk.le; omega
    have hall : ∀ j, j < U → l j = true := by
      intro j hj
      cases h : l j with
      | true => rfl
      | false =>
        have h1 := cntTo_updG l j U hj h
        have h2 := cntTo_le (updG l j true) U
        omega
    have e1 : actsTo ops a l vs U = actsTo ops a (fun _ => true) vs U := actsTo_congr a U fun j hj => ⟨hall j hj, rfl⟩
    have e2 : L = listedU ops.size U := by
      apply Array.ext
      · simp [listedU, hL]
      · intro i h1 h2
        have := hl i (by omega)
        rw [hall i (by omega)] at this
        simp only [Array.getD_eq_getD_getElem?, Array.getElem?_eq_getElem h1, Option.getD_some] at this
        rw [this]
        simp [listedU]
        omega
    have := hrest vs w1 hE (fun i hi => hF i hi (hall i hi)) (fun i j hi hj hn => hS i j hi hj hn (hall i hi) (hall j hj))
    rw [e1, e2]
    rwa [show ops.size - U = 0 by omega] at this
  | succ fuel ih =>
    intro L l vs w1 hL hl hlU hcl hf hE hF hS
    have hle := cntTo_le l U
    by_cases hall : ∀ j, j < U → l j = true
    · have e1 : actsTo ops a l vs U = actsTo ops a (fun _ => true) vs U := actsTo_congr a U fun j hj => ⟨hall j hj, rfl⟩
      have e2 : L = listedU ops.size U := by
        apply Array.ext
        · simp [listedU, hL]
        · intro i h1 h2
          have := hl i (by omega)
          simp only [Array.getD_eq_getD_getElem?, Array.getElem?_eq_getElem h1, Option.getD_some] at this
          rw [this]
          by_cases hi : i < U
          · rw [hall i hi]; simp [listedU, hi]
          · rw [hlU i (by omega)]; simp [listedU, hi]
      have := hrest vs w1 hE (fun i hi => hF i hi (hall i hi)) (fun i j hi hj hn => hS i j hi hj hn (hall i hi) (hall j hj))
      have hc := cntTo_all l U hall
      rw [e1, e2]
      rwa [show ops.size - U = fuel + 1 by omega] at this
    · have hex : ∃ j, j < U ∧ l j = false := by
        refine Classical.byContradiction fun hn => hall fun j hj => ?_
        cases h : l j with
        | true => rfl
        | false => exact absurd ⟨j, hj, h⟩ hn
      have getT : ∀ i, i < ops.size → L.getD i true = l i := fun i hi => by
        rw [← hl i hi]
        simp [Array.getD_eq_getD_getElem?, Array.getElem?_eq_getElem (show i < L.size by omega)]
      refine ⟨fun h0 => ?_, fun i hi => ?_⟩
      · obtain ⟨i, hi, h1, h2⟩ := exists_least l U hex
        have hin : i < ops.size := by have := hk.le; omega
        have ho : ops[i]? = some ops[i] := Array.getElem?_eq_getElem hin
        have : i ∈ Region.ready .any ops L := mem_ready.2 ⟨by rw [getT i hin]; exact h1, ops[i], ho, fun e he hb => by
          have hd := hk.down i _ ho e.on (List.mem_map.2 ⟨e, List.mem_filter.2 ⟨by simpa using he, hb⟩, rfl⟩)
          rw [hl e.on (by omega)]
          exact h2 e.on hd⟩
        rw [h0] at this
        cases this
      · obtain ⟨h1, o, ho, h2⟩ := mem_ready.1 hi
        have hin : i < ops.size := (Array.getElem?_eq_some_iff.1 ho).1
        rw [getT i hin] at h1
        have hed : ∀ j ∈ edgesOf o, l j = true := fun j hj => by
          obtain ⟨e, he, rfl⟩ := List.mem_map.1 hj
          obtain ⟨he1, he2⟩ := List.mem_filter.1 he
          have hd := hk.down i o ho e.on hj
          rw [← hl e.on (by omega)]
          exact h2 e (by simpa using he1) he2
        have hiU : i < U := by
          refine Classical.byContradiction fun hn => ?_
          obtain ⟨j, hj, hlj⟩ := hex
          have := under_listed hcl ops.size i j o ho hed (hk.late i o ho (by omega) j hj)
          rw [this] at hlj
          cases hlj
        unfold wpOp
        rw [ho]
        simp only [Region.wanted, hk.guard i o ho, if_true]
        refine .inl ?_
        have hev : ∀ x ∈ o.op.operands, (actsTo ops a l vs U).eval x = (actsTo ops a (fun _ => true) vs U).eval x := fun x hx =>
          actsTo_eval a l vs U x fun j hj t ht hd => hed j (hk.look i o ho hiU j hj t hd (List.mem_append_left _ (List.mem_filterMap.2 ⟨.tmp t, by subst ht; simpa using hx, rfl⟩)))
        have hg := hU i o ho hiU vs w1 hE (fun j hj hje => hF j hj (hed j hje))
        have hg2 : Gives P o (actsTo ops a l vs U).eval w1 fun v w2 => E w1 w2 ∧ F i v w2 ∧ ∀ j u, j < U → F j u w1 → Sep j u i v := by
          have hg := hg.out
          refine ⟨?_⟩
          unfold GivesM at hg ⊢
          rw [execOp_congr o (hk.sel i o ho) hev]
          exact hg
        refine hg2.wp fun v w2 ⟨hE2, hF2, hS2⟩ => ?_
        have hdst : dstOf ops i = o.dst := by simp [dstOf, ho]
        rw [← hdst, ← actsTo_set a l vs i v h1 U hiU (fun k hk2 hne d hd hd2 => hk.dst i o ho hiU k hk2 hne d hd2 (by rw [← hdst]; exact hd))]
        refine ih _ (updG l i true) (updG vs i v) w2 (by simpa using hL) ?_ ?_ ?_ ?_ (hEt _ _ _ hE hE2) ?_ ?_
        · intro m hm
          unfold updG
          by_cases h : m = i
          · subst h
            rw [if_pos rfl]
            simp [Array.getD_eq_getD_getElem?, show m < L.size by omega]
          · rw [if_neg h, getD_set_ne false (Ne.symm h)]
            exact hl m hm
        · intro m hm
          unfold updG
          rw [if_neg (by omega)]
          exact hlU m hm
        · intro m om hom hlm j hj
          by_cases h : m = i
          · subst h
            rw [ho] at hom
            cases hom
            unfold updG
            split
            · rfl
            · exact hed j hj
          · unfold updG at hlm ⊢
            rw [if_neg h] at hlm
            split
            · rfl
            · exact hcl m om hom hlm j hj
        · rw [cntTo_updG l i U hiU h1]
          omega
        · intro m hm hlm
          by_cases h : m = i
          · subst h
            unfold updG
            rw [if_pos rfl]
            exact hF2
          · unfold updG at hlm ⊢
            rw [if_neg h] at hlm ⊢
            exact hst m _ _ _ hE2 (hF m hm hlm)
        · intro m j hm hj hne hlm hlj
          by_cases h : m = i
          · subst h
            have hjm : j ≠ m := Ne.symm hne
            unfold updG at hlj ⊢
            rw [if_neg hjm] at hlj ⊢
            rw [if_pos rfl]
            exact .inr (hS2 j _ hj (hF j hj hlj))
          · by_cases h' : j = i
            · subst h'
              unfold updG at hlm ⊢
              rw [if_neg h] at hlm ⊢
              rw [if_pos rfl]
              exact .inl (hS2 m _ hm (hF m hm hlm))
            · unfold updG at hlm hlj ⊢
              rw [if_neg h] at hlm ⊢
              rw [if_neg h'] at hlj ⊢
              exact hS m j hm hj hne hlm hlj

/-- THE LAW. -/
theorem region_grow {id : Nat} (U : Nat) {a : Act} {w : World} (hm : P.follows .mixedOrders = true) (hk : growOk ops U = true) (E : World → World → Prop) (hEr : E w w.drew) (hEt : ∀ x y z, E x y → E y z → E x z)
    (F : Nat → Value → World → Prop) (hst : ∀ i v x y, E x y → F i v x → F i v y) (Sep : Nat → Value → Nat → Value → Prop)
    (hU : ∀ (i : Nat) (o : Oper), ops[i]? = some o → i < U → ∀ vs w1, E w w1 → (∀ j, j < U → j ∈ edgesOf o → F j (vs j) w1) → Gives P o (actsTo ops a (fun _ => true) vs U).eval w1 fun v w2 => E w1 w2 ∧ F i v w2 ∧ ∀ j u, j < U → F j u w1 → Sep j u i v)
    (hrest : ∀ vs w1, E w w1 → (∀ i, i < U → F i (vs i) w1) → (∀ i j, i < U → j < U → i ≠ j → Sep i (vs i) j (vs j) ∨ Sep j (vs j) i (vs i)) → wpAny P .any ops Q (ops.size - U) (listedU ops.size U) (actsTo ops a (fun _ => true) vs U) w1) :
    (Code.region id ops true).wp P Q a w := by
  refine wp_region_any hm ?_
  have hg := growOk_spec hk
  have h0 : actsTo ops a (fun _ => false) (fun _ => undef) U = a := by
    have : ∀ k, actsTo ops a (fun _ => false) (fun _ => undef) k = a := by
      intro k
      induction k with
      | zero => rfl
      | succ k ih => unfold actsTo; simpa using ih
    exact this U
  have hc0 : cntTo (fun _ => false) U = 0 := by
    have : ∀ k, cntTo (fun _ => false) k = 0 := by
      intro k
      induction k with
      | zero => rfl
      | succ k ih => unfold cntTo; simpa using ih
    exact this U
  have := grow_walk (Q := Q) hg a w E hEt F hst Sep hU hrest ops.size (Array.replicate ops.size false) (fun _ => false) (fun _ => undef) w.drew (by simp) (fun i hi => by simp [hi]) (fun _ _ => rfl) (fun _ _ _ h => by cases h)
    (by omega) hEr (fun _ _ h => by cases h) (fun _ _ _ _ _ h => by cases h)
  rwa [h0] at this
end
open Go

section
variable {P : Program} {ops : Array Oper} {Q : Exit → Act → World → Prop}

/-- The operation, run or passed by, gives such a value in such a world. -/
def StepG (P : Program) (ops : Array Oper) (o : Oper) (b : Act) (w : World) (Φ : Value → World → Prop) : Prop :=
  (Region.wanted o (yielded ops b.tmps) = true → Gives P o b.eval w Φ) ∧ (Region.wanted o (yielded ops b.tmps) = false → Φ undef w)
theorem StepG.plain {o : Oper} {b : Act} {w : World} {Φ : Value → World → Prop} (hg : o.guard = none) (h : Gives P o b.eval w Φ) : StepG P ops o b w Φ :=
  ⟨fun _ => h, fun e => by simp [Region.wanted, hg] at e⟩
theorem StepG.on {o : Oper} {b : Act} {w : World} {Φ : Value → World → Prop} {g d : Nat} {x : Bool} {v : Value} (hg : o.guard = some (g, x)) (hd : dstOf ops g = some d) (ht : b.tmps[d]? = some v) (hv : v = .bool x) (h : Gives P o b.eval w Φ) : StepG P ops o b w Φ := by
  subst hv
  have hy : yielded ops b.tmps g = some x := by
    have hd' : (ops[g]?).bind (·.dst) = some d := hd
    simp [yielded, hd', ht]
  exact ⟨fun _ => h, fun e => by simp [Region.wanted, hg, hy] at e⟩
theorem StepG.off {o : Oper} {b : Act} {w : World} {Φ : Value → World → Prop} {g d : Nat} {x : Bool} {v : Value} (hg : o.guard = some (g, x)) (hd : dstOf ops g = some d) (ht : b.tmps[d]? = some v) (hv : v = .bool (!x) ∨ v = undef) (h : Φ undef w) : StepG P ops o b w Φ := by
  have hd' : (ops[g]?).bind (·.dst) = some d := hd
  refine ⟨fun e => ?_, fun _ => h⟩
  exfalso
  rcases hv with rfl | rfl
  · simp [Region.wanted, hg, yielded, hd', ht] at e
  · simp [Region.wanted, hg, yielded, hd', ht, undef] at e

def freeOk (ops : Array Oper) : Bool :=
  (List.range ops.size).all (fun i => match ops[i]? with
    | some o => (match o.op with | .select .. => false | _ => true) && (edgesOf o).all (· < i) &&
        (List.range ops.size).all (fun j => (match dstOf ops j with
          | some d => (!(o.looksAt ops).contains d || (edgesOf o).contains j) && (j == i || o.dst != some d)
          | none => true))
    | none => false)
structure FreeOk (ops : Array Oper) : Prop where
  sel : ∀ (i : Nat) (o : Oper), ops[i]? = some o → ∀ cs b, o.op ≠ .select cs b
  down : ∀ (i : Nat) (o : Oper), ops[i]? = some o → ∀ j ∈ edgesOf o, j < i
  look : ∀ (i : Nat) (o : Oper), ops[i]? = some o → ∀ j, j < ops.size → ∀ d, dstOf ops j = some d → d ∈ o.looksAt ops → j ∈ edgesOf o
  dst : ∀ (i : Nat) (o : Oper), ops[i]? = some o → ∀ j, j < ops.size → j ≠ i → ∀ d, dstOf ops j = some d → o.dst ≠ some d
theorem freeOk_spec (h : freeOk ops = true) : FreeOk ops := by
  unfold freeOk at h
  rw [List.all_eq_true] at h
  have hi : ∀ (i : Nat) (o : Oper), ops[i]? = some o → i ∈ List.range ops.size := fun i o e => List.mem_range.2 (Array.getElem?_eq_some_iff.1 e).1
  have each := fun (i : Nat) (o : Oper) (e : ops[i]? = some o) => by
    have := h i (hi i o e)
    rw [e] at this
    simp only [Bool.and_eq_true, List.all_eq_true, decide_eq_true_eq] at this
    exact this
  refine ⟨fun i o e cs b hs => ?_, fun i o e j hj => (each i o e).1.2 j hj, fun i o e j hj d hd ho => ?_, fun i o e j hj hne d hd ho => ?_⟩
  · have := (each i o e).1.1
    rw [hs] at this
    simp at this
  · have := (each i o e).2 j (List.mem_range.2 hj)
    rw [hd] at this
    simp only [Bool.and_eq_true, Bool.or_eq_true, Bool.not_eq_true'] at this
    rcases this.1 with h2 | h2
    · have h3 : (o.looksAt ops).contains d = true := by simpa using ho
      rw [h3] at h2
      cases h2
    · simpa using h2
  · have := (each i o e).2 j (List.mem_range.2 hj)
    rw [hd] at this
    simp only [Bool.and_eq_true, Bool.or_eq_true] at this
    rcases this.2 with h2 | h2
    · exact hne (by simpa using h2)
    · rw [ho] at h2
      simp at h2
theorem tmps_same {a b : Act} {d : Nat} (hs : a.tmps.size = b.tmps.size) (he : a.eval (.tmp d) = b.eval (.tmp d)) : a.tmps[d]? = b.tmps[d]? := by
  by_cases h : d < a.tmps.size
  · have h' : d < b.tmps.size := by omega
    simp [Act.eval, h, h'] at he
    rw [Array.getElem?_eq_getElem h, Array.getElem?_eq_getElem h', he]
  · rw [Array.getElem?_eq_none (by omega), Array.getElem?_eq_none (by omega)]

theorem free_walk (hk : FreeOk ops) (a : Act) (w0 : World) (E : World → World → Prop) (hEt : ∀ x y z, E x y → E y z → E x z)
    (F : Nat → Value → World → Prop) (hst : ∀ i v x y, E x y → F i v x → F i v y)
    (hU : ∀ (i : Nat) (o : Oper), ops[i]? = some o → ∀ vs w1, E w0 w1 → (∀ j, j ∈ edgesOf o → F j (vs j) w1) → StepG P ops o (actsTo ops a (fun _ => true) vs ops.size) w1 fun v w2 => E w1 w2 ∧ F i v w2)
    (hrest : ∀ vs w1, E w0 w1 → (∀ i, i < ops.size → F i (vs i) w1) → Q .normal (actsTo ops a (fun _ => true) vs ops.size) w1) :
    ∀ (fuel : Nat) (L : Array Bool) (l : Nat → Bool) (vs : Nat → Value) (w1 : World), L.size = ops.size → (∀ i, i < ops.size → L.getD i false = l i) → (∀ (i : Nat) (o : Oper), ops[i]? = some o → l i = true → ∀ j ∈ edgesOf o, l j = true) →
      fuel + cntTo l ops.size = ops.size → E w0 w1 → (∀ i, i < ops.size → l i = true → F i (vs i) w1) →
      wpAny P .any ops Q fuel L (actsTo ops a l vs ops.size) w1 := by
  have done : ∀ (l : Nat → Bool) (vs : Nat → Value) (w1 : World), (∀ j, j < ops.size → l j = true) → E w0 w1 → (∀ i, i < ops.size → l i = true → F i (vs i) w1) → Q .normal (actsTo ops a l vs ops.size) w1 := fun l vs w1 hall hE hF => by
    have e1 : actsTo ops a l vs ops.size = actsTo ops a (fun _ => true) vs ops.size := actsTo_congr a ops.size fun j hj => ⟨hall j hj, rfl⟩
    rw [e1]
    exact hrest vs w1 hE fun i hi => hF i hi (hall i hi)
  have none_ready : ∀ (L : Array Bool) (l : Nat → Bool), L.size = ops.size → (∀ i, i < ops.size → L.getD i false = l i) → Region.ready .any ops L = [] → ∀ j, j < ops.size → l j = true := fun L l hL hl h0 j hj => by
    refine Classical.byContradiction fun hn => ?_
    have hex : ∃ j, j < ops.size ∧ l j = false := ⟨j, hj, by simpa using hn⟩
    obtain ⟨i, hi, h1, h2⟩ := exists_least l ops.size hex
    have ho : ops[i]? = some ops[i] := Array.getElem?_eq_getElem hi
    have getT : ∀ i, i < ops.size → L.getD i true = l i := fun i hi => by
      rw [← hl i hi]
      simp [Array.getD_eq_getD_getElem?, Array.getElem?_eq_getElem (show i < L.size by omega)]
    have : i ∈ Region.ready .any ops L := mem_ready.2 ⟨by rw [getT i hi]; exact h1, ops[i], ho, fun e he hb => by
      have hd := hk.down i _ ho e.on (List.mem_map.2 ⟨e, List.mem_filter.2 ⟨by simpa using he, hb⟩, rfl⟩)
      rw [hl e.on (by omega)]
      exact h2 e.on hd⟩
    rw [h0] at this
    cases this
  intro fuel
  induction fuel with
  | zero =>
    intro L l vs w1 hL hl hcl hf hE hF
    have hall : ∀ j, j < ops.size → l j = true := by
      intro j hj
      cases h : l j with
      | true => rfl
      | false =>
        have h1 := cntTo_updG l j ops.size hj h
        have h2 := cntTo_le (updG l j true) ops.size
        omega
    refine ⟨?_, done l vs w1 hall hE hF⟩
    cases hr : Region.ready .any ops L with
    | nil => rfl
    | cons i r =>
      exfalso
      have hm : i ∈ Region.ready .any ops L := by rw [hr]; simp
      obtain ⟨h1, o, ho, _⟩ := mem_ready.1 hm
      have hin : i < ops.size := (Array.getElem?_eq_some_iff.1 ho).1
      have h3 := hl i hin
      rw [hall i hin] at h3
      simp only [Array.getD_eq_getD_getElem?, Array.getElem?_eq_getElem (show i < L.size by omega), Option.getD_some] at h1 h3
      rw [h1] at h3
      cases h3
  | succ fuel ih =>
    intro L l vs w1 hL hl hcl hf hE hF
    have getT : ∀ i, i < ops.size → L.getD i true = l i := fun i hi => by
      rw [← hl i hi]
      simp [Array.getD_eq_getD_getElem?, Array.getElem?_eq_getElem (show i < L.size by omega)]
    refine ⟨fun h0 => done l vs w1 (none_ready L l hL hl h0) hE hF, fun i hi => ?_⟩
    obtain ⟨h1, o, ho, h2⟩ := mem_ready.1 hi
    have hin : i < ops.size := (Array.getElem?_eq_some_iff.1 ho).1
    rw [getT i hin] at h1
    have hed : ∀ j ∈ edgesOf o, l j = true := fun j hj => by
      obtain ⟨e, he, rfl⟩ := List.mem_map.1 hj
      obtain ⟨he1, he2⟩ := List.mem_filter.1 he
      have hd := hk.down i o ho e.on hj
      rw [← hl e.on (by omega)]
      exact h2 e (by simpa using he1) he2
    have hlook : ∀ t, t ∈ o.looksAt ops → (actsTo ops a l vs ops.size).eval (.tmp t) = (actsTo ops a (fun _ => true) vs ops.size).eval (.tmp t) := fun t ht =>
      actsTo_eval a l vs ops.size (.tmp t) fun j hj t' ht' hd => hed j (hk.look i o ho j hj t' hd (by cases ht'; exact ht))
    have hev : ∀ x ∈ o.op.operands, (actsTo ops a l vs ops.size).eval x = (actsTo ops a (fun _ => true) vs ops.size).eval x := fun x hx => by
      cases x with
      | tmp t => exact hlook t (List.mem_append_left _ (List.mem_filterMap.2 ⟨.tmp t, by simpa using hx, rfl⟩))
      | _ => rfl
    have hw : Region.wanted o (yielded ops (actsTo ops a l vs ops.size).tmps) = Region.wanted o (yielded ops (actsTo ops a (fun _ => true) vs ops.size).tmps) := by
      unfold Region.wanted
      cases hg : o.guard with
      | none => rfl
      | some p =>
        obtain ⟨g, x⟩ := p
        simp only []
        have : yielded ops (actsTo ops a l vs ops.size).tmps g = yielded ops (actsTo ops a (fun _ => true) vs ops.size).tmps g := by
          unfold yielded
          cases hd : (ops[g]?).bind (·.dst) with
          | none => rfl
          | some d =>
            simp only [Option.bind_some]
            rw [tmps_same (by rw [actsTo_size, actsTo_size]) (hlook d (List.mem_append_right _ (by simp [hg, hd])))]
        rw [this]
    have hg := hU i o ho vs w1 hE (fun j hje => hF j (by have := hk.down i o ho j hje; omega) (hed j hje))
    have hdst : dstOf ops i = o.dst := by simp [dstOf, ho]
    have next : ∀ v w2, E w1 w2 → F i v w2 → wpAny P .any ops Q fuel (L.setIfInBounds i true) ((actsTo ops a l vs ops.size).put o.dst v) w2 := fun v w2 hE2 hF2 => by
      rw [← hdst, ← actsTo_set a l vs i v h1 ops.size hin (fun k hk2 hne d hd hd2 => hk.dst i o ho k hk2 hne d hd2 (by rw [← hdst]; exact hd))]
      refine ih _ (updG l i true) (updG vs i v) w2 (by simpa using hL) ?_ ?_ ?_ (hEt _ _ _ hE hE2) ?_
      · intro m hm
        unfold updG
        by_cases h : m = i
        · subst h
          rw [if_pos rfl]
          simp [Array.getD_eq_getD_getElem?, show m < L.size by omega]
        · rw [if_neg h, getD_set_ne false (Ne.symm h)]
          exact hl m hm
      · intro m om hom hlm j hj
        by_cases h : m = i
        · subst h
          rw [ho] at hom
          cases hom
          unfold updG
          split
          · rfl
          · exact hed j hj
        · unfold updG at hlm ⊢
          rw [if_neg h] at hlm
          split
          · rfl
          · exact hcl m om hom hlm j hj
      · rw [cntTo_updG l i ops.size hin h1]
        omega
      · intro m hm hlm
        by_cases h : m = i
        · subst h
          unfold updG
          rw [if_pos rfl]
          exact hF2
        · unfold updG at hlm ⊢
          rw [if_neg h] at hlm ⊢
          exact hst m _ _ _ hE2 (hF m hm hlm)
    unfold wpOp
    rw [ho]
    simp only []
    rw [hw]
    cases hwd : Region.wanted o (yielded ops (actsTo ops a (fun _ => true) vs ops.size).tmps) with
    | true =>
      rw [if_pos rfl]
      refine .inl ?_
      have hg2 : Gives P o (actsTo ops a l vs ops.size).eval w1 fun v w2 => E w1 w2 ∧ F i v w2 := by
        have hg := (hg.1 hwd).out
        refine ⟨?_⟩
        unfold GivesM at hg ⊢
        rw [execOp_congr o (hk.sel i o ho) hev]
        exact hg
      exact hg2.wp fun v w2 ⟨hE2, hF2⟩ => next v w2 hE2 hF2
    | false =>
      rw [if_neg (by simp)]
      have hg3 := hg.2 hwd
      exact next undef w1 hg3.1 hg3.2

/-- THE LAW. -/
theorem region_freeG {id : Nat} {a : Act} {w : World} (hm : P.follows .mixedOrders = true) (hk : freeOk ops = true) (E : World → World → Prop) (hE0 : E w w.drew) (hEt : ∀ x y z, E x y → E y z → E x z)
    (F : Nat → Value → World → Prop) (hst : ∀ i v x y, E x y → F i v x → F i v y)
    (hU : ∀ (i : Nat) (o : Oper), ops[i]? = some o → ∀ vs w1, E w w1 → (∀ j, j ∈ edgesOf o → F j (vs j) w1) → StepG P ops o (actsTo ops a (fun _ => true) vs ops.size) w1 fun v w2 => E w1 w2 ∧ F i v w2)
    (hrest : ∀ vs w1, E w w1 → (∀ i, i < ops.size → F i (vs i) w1) → Q .normal (actsTo ops a (fun _ => true) vs ops.size) w1) :
    (Code.region id ops true).wp P Q a w := by
  refine wp_region_any hm ?_
  have h0 : actsTo ops a (fun _ => false) (fun _ => undef) ops.size = a := by
    have : ∀ k, actsTo ops a (fun _ => false) (fun _ => undef) k = a := by
      intro k
      induction k with
      | zero => rfl
      | succ k ih => unfold actsTo; simpa using ih
    exact this _
  have hc0 : cntTo (fun _ => false) ops.size = 0 := by
    have : ∀ k, cntTo (fun _ => false) k = 0 := by
      intro k
      induction k with
      | zero => rfl
      | succ k ih => unfold cntTo; simpa using ih
    exact this _
  have := free_walk (Q := Q) (freeOk_spec hk) a w E hEt F hst hU hrest ops.size (Array.replicate ops.size false) (fun _ => false) (fun _ => undef) w.drew (by simp) (fun i hi => by simp [hi]) (fun _ _ _ h => by cases h)
    (by omega) hE0 (fun _ _ h => by cases h)
  rwa [h0] at this
end

/-- Only new memory. -/
def Ex (w w' : World) : Prop := Below w.heap.size w w'
theorem Ex.trans {a b c : World} (h : Ex a b) (k : Ex b c) : Ex a c := Below.trans h (Below.mono k h.size)
theorem Ex.drew (w : World) : Ex w w.drew := (Below.refl _ w).drew
theorem Ex.refl (w : World) : Ex w w := Below.refl _ w
theorem Ex.alloc (w : World) (o : Obj) : Ex w (w.alloc o) := (Below.refl _ w).alloc (Nat.le_refl _) o

/-- What is known of a value, in a world and in all that have more memory. -/
structure Fact where
  holds : Value → World → Prop
  ext : ∀ v x y, Ex x y → holds v x → holds v y
def Fact.any : Fact := ⟨fun _ _ => True, fun _ _ _ _ _ => trivial⟩
def Fact.val (x : Value) : Fact := ⟨fun v _ => v = x, fun _ _ _ _ h => h⟩
def Fact.bsl (xs : List UInt8) : Fact := ⟨fun v w => BSl w v xs, fun _ _ _ he h => h.fresh he⟩
/-- A pair of a slice and a number. -/
def Fact.told (xs : List UInt8) (n : Int) : Fact := ⟨fun v w => ∃ u, v = .tuple #[u, .int .i64 n] ∧ BSl w u xs, fun _ _ _ he ⟨u, h1, h2⟩ => ⟨u, h1, h2.fresh he⟩⟩

/-- What each of a list of operations must show. -/
def eachF (p : Nat → Oper → Prop) : Nat → List Oper → Prop
  | _, [] => True
  | i, o :: r => p i o ∧ eachF p (i + 1) r
theorem eachF_at {p : Nat → Oper → Prop} : ∀ (l : List Oper) (k : Nat), eachF p k l → ∀ (i : Nat) (o : Oper), l[i]? = some o → p (k + i) o
  | [], k, _, i, o, h => by simp at h
  | x :: r, k, hl, 0, o, h => by simp at h; subst h; exact hl.1
  | x :: r, k, hl, i + 1, o, h => by
    have := eachF_at r (k + 1) hl.2 i o (by simpa using h)
    rwa [show k + 1 + i = k + (i + 1) by omega] at this
/-- What operation i of a region must show. -/
def ReqF (l : List Oper) (fs : List Fact) (a : Act) (w : World) (i : Nat) (o : Oper) : Prop :=
  ∀ vs w1, Ex w w1 → (∀ j, (edgesOf o).contains j = true → (fs.getD j .any).holds (vs j) w1) → StepG Try.prog l.toArray o (actsTo l.toArray a (fun _ => true) vs l.length) w1 fun v w2 => Ex w1 w2 ∧ (fs.getD i .any).holds v w2
theorem region_free {id : Nat} {l : List Oper} {Q : Exit → Act → World → Prop} {a : Act} {w : World} (fs : List Fact) (hk : freeOk l.toArray = true)
    (hU : eachF (ReqF l fs a w) 0 l)
    (hrest : ∀ vs w1, Ex w w1 → (∀ i, i < l.length → (fs.getD i .any).holds (vs i) w1) → Q .normal (actsTo l.toArray a (fun _ => true) vs l.length) w1) :
    (Code.region id l.toArray true).wp Try.prog Q a w := by
  refine region_freeG (by kernel_rfl) hk Ex (Ex.drew w) (fun _ _ _ => Ex.trans) (fun i => (fs.getD i .any).holds) (fun i => (fs.getD i .any).ext) (fun i o ho vs w1 he hd => ?_) (fun vs w1 he hF => ?_)
  · have := eachF_at l 0 hU i o (by simpa using ho) vs w1 he (fun j hjc => hd j (by simpa using hjc))
    rw [Nat.zero_add] at this
    exact this
  · exact hrest vs w1 he (fun i hi => hF i (by simpa using hi))

section
variable {o : Oper} {ρ : Operand → Value} {w : World} {x y z : Operand} {Φ : Value → World → Prop} {v vx vy vz : Value}
theorem gives_move (ho : o.op = .move x) (hx : ρ x = v) (h : Φ v w) : Gives Try.prog o ρ w Φ := by
  refine Gives.value (w' := w) (v := v) ?_ h
  unfold execOp
  simp only [ho, hx]
  rfl
theorem gives_assign (ho : o.op = .assign x) (hx : ρ x = v) (h : Φ v w) : Gives Try.prog o ρ w Φ := by
  refine Gives.value (w' := w) (v := v) ?_ h
  unfold execOp
  simp only [ho, hx]
  rfl
theorem gives_pick_t (ho : o.op = .pick x y z) (hx : ρ x = .bool true) (hy : ρ y = v) (h : Φ v w) : Gives Try.prog o ρ w Φ := by
  refine Gives.value (w' := w) (v := v) ?_ h
  unfold execOp
  simp [ho, hx, hy, asBool]
theorem gives_pick_f (ho : o.op = .pick x y z) (hx : ρ x = .bool false) (hz : ρ z = v) (h : Φ v w) : Gives Try.prog o ρ w Φ := by
  refine Gives.value (w' := w) (v := v) ?_ h
  unfold execOp
  simp [ho, hx, hz, asBool]
theorem gives_len {ty : TypeId} {ao : Option Addr} {n cap : Nat} (ho : o.op = .call { callee := .builtin .len, args := #[x], argTypes := #[ty] }) (hx : ρ x = .slice ao n cap) (hu : ∃ e, Try.prog.underlying ty = some (.slice e)) (h : Φ (.int .i64 n) w) : Gives Try.prog o ρ w Φ := by
  obtain ⟨e, hu⟩ := hu
  refine Gives.value (w' := w) (v := .int .i64 n) ?_ h
  unfold execOp
  simp only [ho]
  simp [resolve, invoke, builtin, Builtin.len_, hx, run_underlying hu, goInt]
theorem gives_lenB {xs : List UInt8} {n : Nat} (ho : o.op = .call { callee := .builtin .len, args := #[x], argTypes := #[28] }) (hx : ρ x = v) (hv : BSl w v xs) (hn : xs.length = n) (h : Φ (.int .i64 n) w) : Gives Try.prog o ρ w Φ := by
  obtain ⟨ao, cap, rfl⟩ := hv.len
  rw [hn] at hx
  exact gives_len ho hx ⟨_, Try.underlying28⟩ h
theorem gives_str {xs : List UInt8} (ho : o.op = .convert 28 9 x) (hx : ρ x = v) (hv : BSl w v xs) (h : Φ (.string ⟨xs.toArray⟩) w) : Gives Try.prog o ρ w Φ := by
  refine Gives.value (w' := w) (v := .string ⟨xs.toArray⟩) ?_ h
  unfold execOp
  simp only [ho, hx]
  rw [Sem.run_bind, run_string hv]
  rfl
theorem enters_f {P : Program} {f : FuncId} {fn : Func} {c : Code} (hf : P.funcs[f]? = some fn) (hname : (fn.name == "runtime.NumGoroutine") = false) (hb : fn.body = some c) (args : Array Value) (w : World) : (callFunc f args).run P w = .ok (.enter f args) w := by
  have h1 : fn.name ≠ "runtime.NumGoroutine" := by simpa using hname
  simp [callFunc, hf, h1, hb, mark]
theorem gives_call {f : FuncId} {xs : Array Operand} {ts : Array TypeId} {vs : Array Value} {fn : Func} (ho : o.op = .call { callee := .value (.func f), args := xs, argTypes := ts }) (hρ : ρ (.func f) = .func (.func f) #[] #[])
    (hv : xs.map ρ = vs) (hf : Try.prog.funcs[f]? = some fn) (hname : (fn.name == "runtime.NumGoroutine") = false) (hb : fn.body.isSome = true) (h : Calls Try.prog f vs w fun e w' => ∃ v, e = .returned v ∧ Φ v w') : Gives Try.prog o ρ w Φ := by
  obtain ⟨c, hb⟩ := Option.isSome_iff_exists.1 hb
  refine Gives.enter (w' := w) (f := f) (args := vs) ?_ h
  unfold execOp
  simp only [ho]
  simp [resolve, hρ, hv, Deferred.ofValue, invoke, enters_f hf hname hb]
theorem gives_eqS {xs ys : List UInt8} {r : Bool} (ho : o.op = .binOp .eql 9 x y 9) (hx : ρ x = .string ⟨xs.toArray⟩) (hy : ρ y = .string ⟨ys.toArray⟩) (hr : (xs == ys) = r) (h : Φ (.bool r) w) : Gives Try.prog o ρ w Φ := by
  refine Gives.value (w' := w) (v := .bool r) ?_ h
  unfold execOp
  simp only [ho, hx, hy]
  simp [eqGuard, binOp, Op.stringOp, ByteArray.toList_mk, hr]
theorem gives_neS {xs ys : List UInt8} {r : Bool} (ho : o.op = .binOp .neq 9 x y 9) (hx : ρ x = .string ⟨xs.toArray⟩) (hy : ρ y = .string ⟨ys.toArray⟩) (hr : (!(xs == ys)) = r) (h : Φ (.bool r) w) : Gives Try.prog o ρ w Φ := by
  refine Gives.value (w' := w) (v := .bool r) ?_ h
  unfold execOp
  simp only [ho, hx, hy]
  simp [eqGuard, binOp, Op.stringOp, ByteArray.toList_mk, ← hr]
theorem gives_eqI {t : TypeId} {k : IntKind} {a b : Int} {r : Bool} (ho : o.op = .binOp .eql t x y t) (hx : ρ x = .int k a) (hy : ρ y = .int k b) (hr : (a == b) = r) (h : Φ (.bool r) w) : Gives Try.prog o ρ w Φ := by
  refine Gives.value (w' := w) (v := .bool r) ?_ h
  unfold execOp
  simp only [ho, hx, hy]
  simp [eqGuard, binOp, Op.intCmp, hr]
theorem gives_neI {t : TypeId} {k : IntKind} {a b : Int} {r : Bool} (ho : o.op = .binOp .neq t x y t) (hx : ρ x = .int k a) (hy : ρ y = .int k b) (hr : (a != b) = r) (h : Φ (.bool r) w) : Gives Try.prog o ρ w Φ := by
  refine Gives.value (w' := w) (v := .bool r) ?_ h
  unfold execOp
  simp only [ho, hx, hy]
  simp [eqGuard, binOp, Op.intCmp, hr]
theorem gives_gtI {t : TypeId} {k : IntKind} {a b : Int} {r : Bool} (ho : o.op = .binOp .gtr t x y t) (hx : ρ x = .int k a) (hy : ρ y = .int k b) (hr : decide (b < a) = r) (h : Φ (.bool r) w) : Gives Try.prog o ρ w Φ := by
  refine Gives.value (w' := w) (v := .bool r) ?_ h
  unfold execOp
  simp only [ho, hx, hy]
  simp [eqGuard, binOp, Op.intCmp, ← hr]
theorem gives_addI {t : TypeId} {a b c : Int} (ho : o.op = .binOp .add t x y t) (hx : ρ x = .int .i64 a) (hy : ρ y = .int .i64 b) (hr : IntKind.i64.wrap (a + b) = c) (h : Φ (.int .i64 c) w) : Gives Try.prog o ρ w Φ := by
  refine Gives.value (w' := w) (v := .int .i64 c) ?_ h
  unfold execOp
  simp only [ho, hx, hy]
  simp [eqGuard, binOp, Op.intArith, ← hr]
theorem gives_subI {t : TypeId} {a b c : Int} (ho : o.op = .binOp .sub t x y t) (hx : ρ x = .int .i64 a) (hy : ρ y = .int .i64 b) (hr : IntKind.i64.wrap (a - b) = c) (h : Φ (.int .i64 c) w) : Gives Try.prog o ρ w Φ := by
  refine Gives.value (w' := w) (v := .int .i64 c) ?_ h
  unfold execOp
  simp only [ho, hx, hy]
  simp [eqGuard, binOp, Op.intArith, ← hr]
theorem gives_conv {s d : TypeId} (ho : o.op = .convert s d x) (hx : ρ x = vx) (hr : (convert s d vx).run Try.prog w = .ok v w) (h : Φ v w) : Gives Try.prog o ρ w Φ := by
  refine Gives.value (w' := w) (v := v) ?_ h
  unfold execOp
  simp only [ho, hx]
  rw [Sem.run_bind, hr]
  rfl
theorem gives_slice {t : TypeId} {lo hi mx : Option Operand} (ho : o.op = .slice t x lo hi mx) (hr : (Instr.sliceAt t (ρ x) (lo.map ρ) (hi.map ρ) (mx.map ρ)).run Try.prog w = .ok v w) (h : Φ v w) : Gives Try.prog o ρ w Φ := by
  refine Gives.value (w' := w) (v := v) ?_ h
  unfold execOp
  simp only [ho]
  rw [Sem.run_bind, hr]
  rfl
end
/-- One operation of the list. -/
theorem req_cons {l : List Oper} {fs : List Fact} {a : Act} {w : World} {i : Nat} {o : Oper} {r : List Oper} (f : Fact) (hf : fs.getD i .any = f)
    (h : ∀ vs w1, Ex w w1 → (∀ j (f : Fact), (edgesOf o).contains j = true → fs.getD j .any = f → f.holds (vs j) w1) → StepG Try.prog l.toArray o (actsTo l.toArray a (fun _ => true) vs l.length) w1 fun v w2 => Ex w1 w2 ∧ f.holds v w2)
    (t : eachF (ReqF l fs a w) (i + 1) r) : eachF (ReqF l fs a w) i (o :: r) := by
  refine ⟨fun vs w1 he hd => ?_, t⟩
  rw [hf]
  exact h vs w1 he fun j f h2 h3 => by have := hd j h2; rwa [h3] at this
theorem req_nil {l : List Oper} {fs : List Fact} {a : Act} {w : World} {i : Nat} : eachF (ReqF l fs a w) i [] := trivial
theorem told_at {fs : List Fact} {vs : Nat → Value} {w : World} {n : Nat} (h : ∀ i, i < n → (fs.getD i .any).holds (vs i) w) (i : Nat) (f : Fact) (hi : i < n) (hf : fs.getD i .any = f) : f.holds (vs i) w := by
  have := h i hi
  rwa [hf] at this
/-- A call that answers new bytes. -/
theorem told_bytes {xs : List UInt8} {w : World} {f : FuncId} {args : Array Value} (h : Calls Try.prog f args w fun e w' => Fresh w xs e w') : Calls Try.prog f args w fun e w' => ∃ v, e = .returned v ∧ Ex w w' ∧ (Fact.bsl xs).holds v w' :=
  h.mono fun _ _ ⟨v, h1, h2, h3⟩ => ⟨v, h1, h3, BSl.ofRow h2⟩
theorem told_true {w : World} {f : FuncId} {args : Array Value} (h : Calls Try.prog f args w fun e w' => e = .returned (.bool true) ∧ Below w.heap.size w w') : Calls Try.prog f args w fun e w' => ∃ v, e = .returned v ∧ Ex w w' ∧ (Fact.val (.bool true)).holds v w' :=
  h.mono fun _ _ ⟨h1, h2⟩ => ⟨_, h1, h2, rfl⟩
open Go

section
variable {P : Program} {ops : Array Oper} {Q : Exit → Act → World → Prop}
set_option maxRecDepth 100000 in
theorem inv_walk (hk : FreeOk ops) (a : Act) (Inv : (Nat → Bool) → (Nat → Value) → World → Prop)
    (hU : ∀ (i : Nat) (o : Oper), ops[i]? = some o → ∀ l vs w1, Inv l vs w1 → l i = false → (∀ (m : Nat) (om : Oper), ops[m]? = some om → l m = true → ∀ j ∈ edgesOf om, l j = true) → (∀ j, j ∈ edgesOf o → l j = true) → StepG P ops o (actsTo ops a (fun _ => true) vs ops.size) w1 fun v w2 => Inv (updG l i true) (updG vs i v) w2)
    (hrest : ∀ l vs w1, (∀ j, j < ops.size → l j = true) → Inv l vs w1 → Q .normal (actsTo ops a (fun _ => true) vs ops.size) w1) :
    ∀ (fuel : Nat) (L : Array Bool) (l : Nat → Bool) (vs : Nat → Value) (w1 : World), L.size = ops.size → (∀ i, i < ops.size → L.getD i false = l i) → (∀ (i : Nat) (o : Oper), ops[i]? = some o → l i = true → ∀ j ∈ edgesOf o, l j = true) →
      fuel + cntTo l ops.size = ops.size → Inv l vs w1 →
      wpAny P .any ops Q fuel L (actsTo ops a l vs ops.size) w1 := by
  have done : ∀ (l : Nat → Bool) (vs : Nat → Value) (w1 : World), (∀ j, j < ops.size → l j = true) → Inv l vs w1 → Q .normal (actsTo ops a l vs ops.size) w1 := fun l vs w1 hall hI => by
    have e1 : actsTo ops a l vs ops.size = actsTo ops a (fun _ => true) vs ops.size := actsTo_congr a ops.size fun j hj => ⟨hall j hj, rfl⟩
    rw [e1]
    exact hrest l vs w1 hall hI
  have none_ready : ∀ (L : Array Bool) (l : Nat → Bool), L.size = ops.size → (∀ i, i < ops.size → L.getD i false = l i) → Region.ready .any ops L = [] → ∀ j, j < ops.size → l j = true := fun L l hL hl h0 j hj => by
    refine Classical.byContradiction fun hn => ?_
    have hex : ∃ j, j < ops.size ∧ l j = false := ⟨j, hj, by simpa using hn⟩
    obtain ⟨i, hi, h1, h2⟩ := exists_least l ops.size hex
    have ho : ops[i]? = some ops[i] := Array.getElem?_eq_getElem hi
    have getT : ∀ i, i < ops.size → L.getD i true = l i := fun i hi => by
      rw [← hl i hi]
      simp [Array.getD_eq_getD_getElem?, Array.getElem?_eq_getElem (show i < L.size by omega)]
    have : i ∈ Region.ready .any ops L := mem_ready.2 ⟨by rw [getT i hi]; exact h1, ops[i], ho, fun e he hb => by
      have hd := hk.down i _ ho e.on (List.mem_map.2 ⟨e, List.mem_filter.2 ⟨by simpa using he, hb⟩, rfl⟩)
      rw [hl e.on (by omega)]
      exact h2 e.on hd⟩
    rw [h0] at this
    cases this
  intro fuel
  induction fuel with
  | zero =>
    intro L l vs w1 hL hl hcl hf hI
    have hall : ∀ j, j < ops.size → l j = true := by
      intro j hj
      cases h : l j with
      | true => rfl
      | false =>
        have h1 := cntTo_updG l j ops.size hj h
        have h2 := cntTo_le (updG l j true) ops.size
        omega
    refine ⟨?_, done l vs w1 hall hI⟩
    cases hr : Region.ready .any ops L with
    | nil => rfl
    | cons i r =>
      exfalso
      have hm : i ∈ Region.ready .any ops L := by rw [hr]; simp
      obtain ⟨h1, o, ho, _⟩ := mem_ready.1 hm
      have hin : i < ops.size := (Array.getElem?_eq_some_iff.1 ho).1
      have h3 := hl i hin
      rw [hall i hin] at h3
      simp only [Array.getD_eq_getD_getElem?, Array.getElem?_eq_getElem (show i < L.size by omega), Option.getD_some] at h1 h3
      rw [h1] at h3
      cases h3
  | succ fuel ih =>
    intro L l vs w1 hL hl hcl hf hI
    have getT : ∀ i, i < ops.size → L.getD i true = l i := fun i hi => by
      rw [← hl i hi]
      simp [Array.getD_eq_getD_getElem?, Array.getElem?_eq_getElem (show i < L.size by omega)]
    refine ⟨fun h0 => done l vs w1 (none_ready L l hL hl h0) hI, fun i hi => ?_⟩
    obtain ⟨h1, o, ho, h2⟩ := mem_ready.1 hi
    have hin : i < ops.size := (Array.getElem?_eq_some_iff.1 ho).1
    rw [getT i hin] at h1
    have hed : ∀ j ∈ edgesOf o, l j = true := fun j hj => by
      obtain ⟨e, he, rfl⟩ := List.mem_map.1 hj
      obtain ⟨he1, he2⟩ := List.mem_filter.1 he
      have hd := hk.down i o ho e.on hj
      rw [← hl e.on (by omega)]
      exact h2 e (by simpa using he1) he2
    have hlook : ∀ t, t ∈ o.looksAt ops → (actsTo ops a l vs ops.size).eval (.tmp t) = (actsTo ops a (fun _ => true) vs ops.size).eval (.tmp t) := fun t ht =>
      actsTo_eval a l vs ops.size (.tmp t) fun j hj t' ht' hd => hed j (hk.look i o ho j hj t' hd (by cases ht'; exact ht))
    have hev : ∀ x ∈ o.op.operands, (actsTo ops a l vs ops.size).eval x = (actsTo ops a (fun _ => true) vs ops.size).eval x := fun x hx => by
      cases x with
      | tmp t => exact hlook t (List.mem_append_left _ (List.mem_filterMap.2 ⟨.tmp t, by simpa using hx, rfl⟩))
      | _ => rfl
    have hw : Region.wanted o (yielded ops (actsTo ops a l vs ops.size).tmps) = Region.wanted o (yielded ops (actsTo ops a (fun _ => true) vs ops.size).tmps) := by
      unfold Region.wanted
      cases hg : o.guard with
      | none => rfl
      | some p =>
        obtain ⟨g, x⟩ := p
        simp only []
        have : yielded ops (actsTo ops a l vs ops.size).tmps g = yielded ops (actsTo ops a (fun _ => true) vs ops.size).tmps g := by
          unfold yielded
          cases hd : (ops[g]?).bind (·.dst) with
          | none => rfl
          | some d =>
            simp only [Option.bind_some]
            rw [tmps_same (by rw [actsTo_size, actsTo_size]) (hlook d (List.mem_append_right _ (by simp [hg, hd])))]
        rw [this]
    have hg := hU i o ho l vs w1 hI h1 hcl hed
    have hdst : dstOf ops i = o.dst := by simp [dstOf, ho]
    have next : ∀ v w2, Inv (updG l i true) (updG vs i v) w2 → wpAny P .any ops Q fuel (L.setIfInBounds i true) ((actsTo ops a l vs ops.size).put o.dst v) w2 := fun v w2 hI2 => by
      rw [← hdst, ← actsTo_set a l vs i v h1 ops.size hin (fun k hk2 hne d hd hd2 => hk.dst i o ho k hk2 hne d hd2 (by rw [← hdst]; exact hd))]
      refine ih _ (updG l i true) (updG vs i v) w2 (by simpa using hL) ?_ ?_ ?_ hI2
      · intro m hm
        unfold updG
        by_cases h : m = i
        · subst h
          rw [if_pos rfl]
          simp [Array.getD_eq_getD_getElem?, show m < L.size by omega]
        · rw [if_neg h, getD_set_ne false (Ne.symm h)]
          exact hl m hm
      · intro m om hom hlm j hj
        by_cases h : m = i
        · subst h
          rw [ho] at hom
          cases hom
          unfold updG
          split
          · rfl
          · exact hed j hj
        · unfold updG at hlm ⊢
          rw [if_neg h] at hlm
          split
          · rfl
          · exact hcl m om hom hlm j hj
      · rw [cntTo_updG l i ops.size hin h1]
        omega
    unfold wpOp
    rw [ho]
    simp only []
    rw [hw]
    cases hwd : Region.wanted o (yielded ops (actsTo ops a (fun _ => true) vs ops.size).tmps) with
    | true =>
      rw [if_pos rfl]
      refine .inl ?_
      have hg2 : Gives P o (actsTo ops a l vs ops.size).eval w1 fun v w2 => Inv (updG l i true) (updG vs i v) w2 := by
        have hg := (hg.1 hwd).out
        refine ⟨?_⟩
        unfold GivesM at hg ⊢
        rw [execOp_congr o (hk.sel i o ho) hev]
        exact hg
      exact hg2.wp fun v w2 hI2 => next v w2 hI2
    | false =>
      rw [if_neg (by simp)]
      exact next undef w1 (hg.2 hwd)

set_option maxRecDepth 100000 in
/-- THE LAW. -/
theorem region_inv {id : Nat} {a : Act} {w : World} (hm : P.follows .mixedOrders = true) (hk : freeOk ops = true) (Inv : (Nat → Bool) → (Nat → Value) → World → Prop)
    (h0 : Inv (fun _ => false) (fun _ => undef) w.drew)
    (hU : ∀ (i : Nat) (o : Oper), ops[i]? = some o → ∀ l vs w1, Inv l vs w1 → l i = false → (∀ (m : Nat) (om : Oper), ops[m]? = some om → l m = true → ∀ j ∈ edgesOf om, l j = true) → (∀ j, j ∈ edgesOf o → l j = true) → StepG P ops o (actsTo ops a (fun _ => true) vs ops.size) w1 fun v w2 => Inv (updG l i true) (updG vs i v) w2)
    (hrest : ∀ l vs w1, (∀ j, j < ops.size → l j = true) → Inv l vs w1 → Q .normal (actsTo ops a (fun _ => true) vs ops.size) w1) :
    (Code.region id ops true).wp P Q a w := by
  refine wp_region_any hm ?_
  have ha : actsTo ops a (fun _ => false) (fun _ => undef) ops.size = a := by
    have : ∀ k, actsTo ops a (fun _ => false) (fun _ => undef) k = a := by
      intro k
      induction k with
      | zero => rfl
      | succ k ih => unfold actsTo; simpa using ih
    exact this _
  have hc0 : cntTo (fun _ => false) ops.size = 0 := by
    have : ∀ k, cntTo (fun _ => false) k = 0 := by
      intro k
      induction k with
      | zero => rfl
      | succ k ih => unfold cntTo; simpa using ih
    exact this _
  have := inv_walk (Q := Q) (freeOk_spec hk) a Inv hU hrest ops.size (Array.replicate ops.size false) (fun _ => false) (fun _ => undef) w.drew (by simp) (fun i hi => by simp [hi]) (fun _ _ _ h => by cases h)
    (by omega) h0
  rwa [ha] at this
end

set_option maxRecDepth 100000 in
theorem zeroCells_bytesG (m : Nat) : (Builtin.zeroCells #[Value.int .u8 0] m).toList = bcells (List.replicate m 0) := by
  apply List.ext_getElem
  · simp [Builtin.zeroCells, bcells]
  · intro i h1 h2
    simp [Builtin.zeroCells, bcells, Nat.mod_one]

set_option maxRecDepth 100000 in
theorem run_append_zeros (w : World) (base g n cap m : Nat) (xs : List UInt8) (ty : TypeId) (hown : w.ownsRow base 5 1 (.slice (some ⟨g, 0, none⟩) n cap) n (bcells xs)) (hm : 0 < m) (hnm : n + m ≤ 1000000) (hbase : base ≤ w.heap.size) :
    ∃ v' w', (Builtin.append_ #[28, 3] ty #[.slice (some ⟨g, 0, none⟩) n cap, .int .i64 (m : Int)]).run Try.prog w = .ok v' w' ∧ w'.ownsRow base 5 1 v' (n + m) (bcells (xs ++ List.replicate m 0)) ∧ w.grownBy w' (some g) := by
  obtain ⟨i, hi, hz, hz1, hz2⟩ := info_parts Try.infoU8
  have hl : xs.length = n := by have := hown.1; rw [bcells_length] at this; omega
  have hlen : (bcells (xs ++ List.replicate m 0)).length = (n + m) * 1 := by rw [bcells_length, List.length_append, List.length_replicate]; omega
  have hw : IntKind.i64.wrap (m : Int) = m := by rw [IntKind.wrap_i64]; omega
  have hneg : ¬ ((m : Int) < 0) := by omega
  have hm0 : ¬ m = 0 := by omega
  have h48i : ¬ (281474976710656 < (m : Int)) := by omega
  rcases hown.2 with ⟨h, _⟩ | ⟨g', cap', cur, e, hbg, hg, hnc, hcm, hcs, htake⟩
  · cases h
  · cases e
    by_cases hroom : n + m ≤ cap
    · have hfit : n * 1 + (bcells (List.replicate m 0)).length ≤ cur.size := by rw [bcells_length, List.length_replicate, hcs]; omega
      have hst := run_storeCells_at Try.prog g (n * 1) 5 (bcells (List.replicate m 0)) 0 cur w hg (by simpa using hfit) bcells_one
      simp only [Nat.add_zero, Nat.mul_one] at hst
      refine ⟨.slice (some ⟨g, 0, none⟩) (n + m) cap, w.setRow g (cur.toList.take n ++ bcells (List.replicate m 0) ++ cur.toList.drop (n + (bcells (List.replicate m 0)).length)).toArray, ?_, ⟨hlen, .inr ⟨g, cap, _, rfl, hbg, setRow_heap w g cur _ _ _ hg, hroom, hcm, ?_, ?_⟩⟩, ⟨rfl, rfl, rfl, by simp, fun k _ hk => setRow_other w g k _ (fun e => hk (by rw [e]))⟩⟩
      · simp [Builtin.append_, run_underlying Try.underlying28, run_underlying Try.underlying3, sizeOf, typeInfo, zeroValue, hi, hz, hz1, hz2, asInt, asIntOf, hw, hneg, hm0, h48i, hroom, Addr.add_lit]
        rw [show (Value.int IntKind.u8 0).cells = #[Value.int .u8 0] from rfl, zeroCells_bytesG, hst]
        simp [List.append_assoc]
      · simp only [List.size_toArray, List.length_append, List.length_take, List.length_drop, Array.length_toList, bcells_length, List.length_replicate]
        omega
      · simp only [Nat.mul_one] at htake ⊢
        rw [htake, bcells_append]
        have : (bcells xs ++ bcells (List.replicate m 0)).length = n + m := by simp [bcells_length, hl]
        rw [← this]
        exact List.take_left
    · have holds : ∀ j u, (bcells xs)[j]? = some u → w.cell? ((⟨g, 0, none⟩ : Addr).add j) = some u := hown.cells (g := g) rfl
      have hold := run_firstCells_some (P := Try.prog) w.drew 1 n ⟨g, 0, none⟩ n cap (bcells xs) hown.1 (by simpa using holds)
      have hfit : Builtin.nextslicecap (n + m) cap * 1 ≤ 281474976710656 := growslice_fits (by omega) (by omega)
      have h48' : ¬ (281474976710656 < Builtin.nextslicecap (n + m) cap) := by omega
      have h63' : ¬ (9223372036854775807 < ((n : Int) + (m : Int))) := by omega
      have hge := grownCap_ge w (n + m) cap 5
      have hcm : grownCap w (n + m) cap 5 ≤ maxLen := grownCap_le_maxLen w (n + m) cap _ (by unfold maxLen; omega)
      refine ⟨.slice (some ⟨w.heap.size, 0, none⟩) (n + m) (grownCap w (n + m) cap 5), w.drew.alloc (.cells ((bcells (xs ++ List.replicate m 0)).toArray ++ Builtin.zeroCells #[Value.int .u8 0] (grownCap w (n + m) cap 5 - (n + m))) 5), ?_, ⟨hlen, .inr ⟨w.heap.size, _, _, rfl, hbase, heap_alloc_new w.drew _, hge, hcm, ?_, ?_⟩⟩, ⟨rfl, rfl, rfl, by simp, fun k hk _ => Below.heap_alloc w.drew _ k hk⟩⟩
      · simp [Builtin.append_, run_underlying Try.underlying28, run_underlying Try.underlying3, sizeOf, typeInfo, zeroValue, hi, hz, hz1, hz2, asInt, asIntOf, hw, hneg, hm0, h48i, hroom, h48', h63', Question.forced, hold, newRow, grownCap]
        rw [show (Value.int IntKind.u8 0).cells = #[Value.int .u8 0] from rfl, bcells_append, ← zeroCells_bytesG m, ← Array.append_assoc]
        congr 2
        congr 1
        apply Array.ext'
        simp
      · simp only [Array.size_append, List.size_toArray, size_zeroCells, hlen]
        simp
        omega
      · simp only [Array.toList_append]
        rw [← hlen]
        exact List.take_left

structure FactB where
  holds : Value → World → Prop
  blk : Value → Option Nat
  keep : ∀ (S : Nat → Prop) v x y, Keeps S x y → (∀ k, blk v = some k → ¬ S k) → holds v x → holds v y
  lt : ∀ v x k, holds v x → blk v = some k → k < x.heap.size
def FactB.any : FactB := ⟨fun _ _ => True, fun _ => none, fun _ _ _ _ _ _ _ => trivial, fun _ _ _ _ h => by cases h⟩
def FactB.val (x : Value) : FactB := ⟨fun v _ => v = x, fun _ => none, fun _ _ _ _ _ _ h => h, fun _ _ _ _ h => by cases h⟩
def FactB.bsl (xs : List UInt8) : FactB := ⟨fun v w => BSl w v xs, fun v => if xs = [] then none else v.ownBlock, fun S v x y hk hn h => by
    by_cases hx : xs = []
    · subst hx
      obtain ⟨ao, cap, e, h1, h2, h3, _⟩ := h
      exact ⟨ao, cap, e, h1, h2, h3, fun ad _ hne => absurd rfl hne⟩
    · rw [if_neg hx] at hn
      exact h.keep hk hn,
  fun v x k h hb => by
    by_cases hx : xs = []
    · rw [if_pos hx] at hb; cases hb
    · rw [if_neg hx] at hb
      obtain ⟨b, o, cap, rfl, hl⟩ := h.nonnil hx
      cases hb
      exact hl⟩
/-- A row of one's own, from base on, that is not nil. -/
def FactB.own (base : Nat) (xs : List UInt8) : FactB := ⟨fun v w => v ≠ .slice none 0 0 ∧ w.ownsRow base 5 1 v xs.length (bcells xs), fun v => v.ownBlock,
  fun _ _ _ _ hk hn h => ⟨h.1, hk.row h.2 hn⟩, fun _ _ k h hb => (h.2.lt k hb).2⟩

def live (cons : List (Option Nat)) (l : Nat → Bool) (i : Nat) : Prop := ∀ c, cons.getD i none = some c → l c = false
structure InvR (w : World) (fs : List FactB) (rt : List Nat) (cons : List (Option Nat)) (l : Nat → Bool) (vs : Nat → Value) (w1 : World) : Prop where
  ex : Below w.heap.size w w1
  hold : ∀ i, l i = true → live cons l i → (fs.getD i .any).holds (vs i) w1
  sep : ∀ i j, l i = true → l j = true → live cons l i → live cons l j → rt.getD i 0 ≠ rt.getD j 0 → ∀ k, (fs.getD i .any).blk (vs i) = some k → (fs.getD j .any).blk (vs j) ≠ some k
section
variable {w w1 w2 : World} {fs : List FactB} {rt : List Nat} {cons : List (Option Nat)} {l : Nat → Bool} {vs : Nat → Value} {i : Nat} {v : Value}
set_option maxRecDepth 100000 in
theorem live_upd {m : Nat} (h : live cons (updG l i true) m) : live cons l m := fun c hc => by
  have := h c hc
  unfold updG at this
  split at this
  · cases this
  · exact this
set_option maxRecDepth 100000 in
theorem InvR.plain (h : InvR w fs rt cons l vs w1) (he : Ex w1 w2) (hv : (fs.getD i .any).holds v w2)
    (hb : ∀ k, (fs.getD i .any).blk v = some k → w1.heap.size ≤ k ∨ ∃ j, l j = true ∧ live cons l j ∧ rt.getD j 0 = rt.getD i 0 ∧ (fs.getD j .any).blk (vs j) = some k) : InvR w fs rt cons (updG l i true) (updG vs i v) w2 := by
  have apart : ∀ j, l j = true → live cons l j → rt.getD i 0 ≠ rt.getD j 0 → ∀ k, (fs.getD i .any).blk v = some k → (fs.getD j .any).blk (vs j) ≠ some k := fun j hj hlj hr k hk hk2 => by
    rcases hb k hk with h1 | ⟨m, hm, hlm, hrm, hbm⟩
    · have := (fs.getD j .any).lt _ _ _ (h.hold j hj hlj) hk2
      omega
    · exact h.sep m j hm hj hlm hlj (by rw [hrm]; exact hr) k hbm hk2
  refine ⟨h.ex.trans (Below.mono he h.ex.size), fun m hm hlm => ?_, fun m j hm hj hlm hlj hr k hk hk2 => ?_⟩
  · by_cases e : m = i
    · subst e
      simpa [updG] using hv
    · have h1 := h.hold m (by simpa [updG, e] using hm) (live_upd hlm)
      simpa [updG, e] using (fs.getD m .any).keep (fun _ => False) _ _ _ (Keeps.ofFresh he) (fun _ _ h => h) h1
  · have el := live_upd hlm
    have el2 := live_upd hlj
    by_cases e : m = i
    · by_cases e2 : j = i
      · subst e e2; exact hr rfl
      · subst e
        simp only [updG, e2, if_true, if_false] at hm hj hk hk2
        exact apart j hj el2 hr k hk hk2
    · by_cases e2 : j = i
      · subst e2
        simp only [updG, e, if_true, if_false] at hm hj hk hk2
        exact apart m hm el (Ne.symm hr) k hk2 hk
      · simp only [updG, e, e2, if_false] at hm hj hk hk2
        exact h.sep m j hm hj el el2 hr k hk hk2
set_option maxRecDepth 100000 in
theorem InvR.inplace {j0 : Nat} (h : InvR w fs rt cons l vs w1) (hj0 : l j0 = true) (hl0 : live cons l j0) (hr0 : rt.getD j0 0 = rt.getD i 0)
    (hdead : ∀ m, m ≠ i → l m = true → rt.getD m 0 = rt.getD i 0 → ¬ live cons (updG l i true) m)
    (hk : Keeps (fun k => (fs.getD j0 .any).blk (vs j0) = some k) w1 w2) (hbase : ∀ k, (fs.getD j0 .any).blk (vs j0) = some k → w.heap.size ≤ k) (hv : (fs.getD i .any).holds v w2)
    (hb : ∀ k, (fs.getD i .any).blk v = some k → w1.heap.size ≤ k ∨ (fs.getD j0 .any).blk (vs j0) = some k) : InvR w fs rt cons (updG l i true) (updG vs i v) w2 := by
  have apart : ∀ j, l j = true → live cons l j → rt.getD i 0 ≠ rt.getD j 0 → ∀ k, (fs.getD i .any).blk v = some k → (fs.getD j .any).blk (vs j) ≠ some k := fun j hj hlj hr k hk hk2 => by
    rcases hb k hk with h1 | hbm
    · have := (fs.getD j .any).lt _ _ _ (h.hold j hj hlj) hk2
      omega
    · exact h.sep j0 j hj0 hj hl0 hlj (by rw [hr0]; exact hr) k hbm hk2
  refine ⟨h.ex.trans (hk.below h.ex.size hbase), fun m hm hlm => ?_, fun m j hm hj hlm hlj hr k hk hk2 => ?_⟩
  · by_cases e : m = i
    · subst e
      simpa [updG] using hv
    · have hm' : l m = true := by simpa [updG, e] using hm
      have h1 := h.hold m hm' (live_upd hlm)
      have hrm : rt.getD m 0 ≠ rt.getD i 0 := fun e3 => hdead m e hm' e3 hlm
      have := (fs.getD m .any).keep _ _ _ _ hk (fun k hk1 hk2 => h.sep m j0 hm' hj0 (live_upd hlm) hl0 (by rw [hr0]; exact hrm) k hk1 hk2) h1
      simpa [updG, e] using this
  · have el := live_upd hlm
    have el2 := live_upd hlj
    by_cases e : m = i
    · by_cases e2 : j = i
      · subst e e2; exact hr rfl
      · subst e
        simp only [updG, e2, if_true, if_false] at hm hj hk hk2
        exact apart j hj el2 hr k hk hk2
    · by_cases e2 : j = i
      · subst e2
        simp only [updG, e, if_true, if_false] at hm hj hk hk2
        exact apart m hm el (Ne.symm hr) k hk2 hk
      · simp only [updG, e, e2, if_false] at hm hj hk hk2
        exact h.sep m j hm hj el el2 hr k hk hk2
end

set_option maxRecDepth 100000 in
theorem run_append_zeros2 (w : World) (base g n cap m : Nat) (xs : List UInt8) (ty : TypeId) (hown : w.ownsRow base 5 1 (.slice (some ⟨g, 0, none⟩) n cap) n (bcells xs)) (hm : 0 < m) (hnm : n + m ≤ 1000000) (hbase : base ≤ w.heap.size) :
    ∃ v' w', (Builtin.append_ #[28, 3] ty #[.slice (some ⟨g, 0, none⟩) n cap, .int .i64 (m : Int)]).run Try.prog w = .ok v' w' ∧ w'.ownsRow base 5 1 v' (n + m) (bcells (xs ++ List.replicate m 0)) ∧ w.grownBy w' (some g) ∧ (v'.ownBlock = some g ∨ v'.ownBlock = some w.heap.size) := by
  obtain ⟨i, hi, hz, hz1, hz2⟩ := info_parts Try.infoU8
  have hl : xs.length = n := by have := hown.1; rw [bcells_length] at this; omega
  have hlen : (bcells (xs ++ List.replicate m 0)).length = (n + m) * 1 := by rw [bcells_length, List.length_append, List.length_replicate]; omega
  have hw : IntKind.i64.wrap (m : Int) = m := by rw [IntKind.wrap_i64]; omega
  have hneg : ¬ ((m : Int) < 0) := by omega
  have hm0 : ¬ m = 0 := by omega
  have h48i : ¬ (281474976710656 < (m : Int)) := by omega
  rcases hown.2 with ⟨h, _⟩ | ⟨g', cap', cur, e, hbg, hg, hnc, hcm, hcs, htake⟩
  · cases h
  · cases e
    by_cases hroom : n + m ≤ cap
    · have hfit : n * 1 + (bcells (List.replicate m 0)).length ≤ cur.size := by rw [bcells_length, List.length_replicate, hcs]; omega
      have hst := run_storeCells_at Try.prog g (n * 1) 5 (bcells (List.replicate m 0)) 0 cur w hg (by simpa using hfit) bcells_one
      simp only [Nat.add_zero, Nat.mul_one] at hst
      refine ⟨.slice (some ⟨g, 0, none⟩) (n + m) cap, w.setRow g (cur.toList.take n ++ bcells (List.replicate m 0) ++ cur.toList.drop (n + (bcells (List.replicate m 0)).length)).toArray, ?_, ⟨hlen, .inr ⟨g, cap, _, rfl, hbg, setRow_heap w g cur _ _ _ hg, hroom, hcm, ?_, ?_⟩⟩, ⟨rfl, rfl, rfl, by simp, fun k _ hk => setRow_other w g k _ (fun e => hk (by rw [e]))⟩, .inl rfl⟩
      · simp [Builtin.append_, run_underlying Try.underlying28, run_underlying Try.underlying3, sizeOf, typeInfo, zeroValue, hi, hz, hz1, hz2, asInt, asIntOf, hw, hneg, hm0, h48i, hroom, Addr.add_lit]
        rw [show (Value.int IntKind.u8 0).cells = #[Value.int .u8 0] from rfl, zeroCells_bytesG, hst]
        simp [List.append_assoc]
      · simp only [List.size_toArray, List.length_append, List.length_take, List.length_drop, Array.length_toList, bcells_length, List.length_replicate]
        omega
      · simp only [Nat.mul_one] at htake ⊢
        rw [htake, bcells_append]
        have : (bcells xs ++ bcells (List.replicate m 0)).length = n + m := by simp [bcells_length, hl]
        rw [← this]
        exact List.take_left
    · have holds : ∀ j u, (bcells xs)[j]? = some u → w.cell? ((⟨g, 0, none⟩ : Addr).add j) = some u := hown.cells (g := g) rfl
      have hold := run_firstCells_some (P := Try.prog) w.drew 1 n ⟨g, 0, none⟩ n cap (bcells xs) hown.1 (by simpa using holds)
      have hfit : Builtin.nextslicecap (n + m) cap * 1 ≤ 281474976710656 := growslice_fits (by omega) (by omega)
      have h48' : ¬ (281474976710656 < Builtin.nextslicecap (n + m) cap) := by omega
      have h63' : ¬ (9223372036854775807 < ((n : Int) + (m : Int))) := by omega
      have hge := grownCap_ge w (n + m) cap 5
      have hcm : grownCap w (n + m) cap 5 ≤ maxLen := grownCap_le_maxLen w (n + m) cap _ (by unfold maxLen; omega)
      refine ⟨.slice (some ⟨w.heap.size, 0, none⟩) (n + m) (grownCap w (n + m) cap 5), w.drew.alloc (.cells ((bcells (xs ++ List.replicate m 0)).toArray ++ Builtin.zeroCells #[Value.int .u8 0] (grownCap w (n + m) cap 5 - (n + m))) 5), ?_, ⟨hlen, .inr ⟨w.heap.size, _, _, rfl, hbase, heap_alloc_new w.drew _, hge, hcm, ?_, ?_⟩⟩, ⟨rfl, rfl, rfl, by simp, fun k hk _ => Below.heap_alloc w.drew _ k hk⟩, .inr rfl⟩
      · simp [Builtin.append_, run_underlying Try.underlying28, run_underlying Try.underlying3, sizeOf, typeInfo, zeroValue, hi, hz, hz1, hz2, asInt, asIntOf, hw, hneg, hm0, h48i, hroom, h48', h63', Question.forced, hold, newRow, grownCap]
        rw [show (Value.int IntKind.u8 0).cells = #[Value.int .u8 0] from rfl, bcells_append, ← zeroCells_bytesG m, ← Array.append_assoc]
        congr 2
        congr 1
        apply Array.ext'
        simp
      · simp only [Array.size_append, List.size_toArray, size_zeroCells, hlen]
        simp
        omega
      · simp only [Array.toList_append]
        rw [← hlen]
        exact List.take_left

/-- What operation i of a region must show. -/
def ReqR (l : List Oper) (fs : List FactB) (rt : List Nat) (cons : List (Option Nat)) (a : Act) (w : World) (i : Nat) (o : Oper) : Prop :=
  ∀ L vs w1, InvR w fs rt cons L vs w1 → L i = false → (∀ (m : Nat) (om : Oper), l[m]? = some om → L m = true → ∀ j ∈ edgesOf om, L j = true) → (∀ j, j ∈ edgesOf o → L j = true) →
    StepG Try.prog l.toArray o (actsTo l.toArray a (fun _ => true) vs l.length) w1 fun v w2 => InvR w fs rt cons (updG L i true) (updG vs i v) w2
set_option maxRecDepth 100000 in
theorem region_rows {id : Nat} {l : List Oper} {Q : Exit → Act → World → Prop} {a : Act} {w : World} (fs : List FactB) (rt : List Nat) (cons : List (Option Nat)) (hk : freeOk l.toArray = true)
    (hU : eachF (ReqR l fs rt cons a w) 0 l)
    (hrest : ∀ vs w1, Ex w w1 → (∀ i, i < l.length → cons.getD i none = none → (fs.getD i .any).holds (vs i) w1) → Q .normal (actsTo l.toArray a (fun _ => true) vs l.length) w1) :
    (Code.region id l.toArray true).wp Try.prog Q a w := by
  refine region_inv (by kernel_rfl) hk (InvR w fs rt cons) ⟨Ex.drew w, (fun _ h => by cases h), (fun _ _ h => by cases h)⟩ (fun i o ho L vs w1 hI hL hc he => ?_) (fun L vs w1 hall hI => ?_)
  · have := eachF_at l 0 hU i o (by simpa using ho) L vs w1 hI (by rw [Nat.zero_add]; exact hL) (fun m om hm => hc m om (by simpa using hm)) he
    rw [Nat.zero_add] at this
    exact this
  · exact hrest vs w1 hI.ex (fun i hi hn => hI.hold i (hall i (by simpa using hi)) (fun c hc => by rw [hn] at hc; cases hc))
set_option maxRecDepth 100000 in
theorem StepG.mono {P : Program} {ops : Array Oper} {o : Oper} {b : Act} {w : World} {Φ Ψ : Value → World → Prop} (h : StepG P ops o b w Φ) (hm : ∀ v w', Φ v w' → Ψ v w') : StepG P ops o b w Ψ := by
  refine ⟨fun e => ⟨?_⟩, fun e => hm _ _ (h.2 e)⟩
  have h1 := (h.1 e).out
  unfold GivesM at h1 ⊢
  split at h1
  · exact hm _ _ h1
  · exact hm _ _ h1
  · exact h1.mono fun e w'' ⟨v, h2, h3⟩ => ⟨v, h2, hm _ _ h3⟩
  · exact h1
set_option maxRecDepth 100000 in
theorem rows_cons {l : List Oper} {fs : List FactB} {rt : List Nat} {cons : List (Option Nat)} {a : Act} {w : World} {i : Nat} {o : Oper} {r : List Oper} (f : FactB) (hf : fs.getD i .any = f)
    (h : ∀ vs w1, Ex w w1 → (∀ j (f : FactB), (edgesOf o).contains j = true → fs.getD j .any = f → (cons.getD j none).all (· == i) = true → f.holds (vs j) w1) → StepG Try.prog l.toArray o (actsTo l.toArray a (fun _ => true) vs l.length) w1 fun v w2 => Ex w1 w2 ∧ f.holds v w2 ∧ ∀ k, f.blk v = some k → w1.heap.size ≤ k)
    (t : eachF (ReqR l fs rt cons a w) (i + 1) r) : eachF (ReqR l fs rt cons a w) i (o :: r) := by
  refine ⟨fun L vs w1 hI hL hc he => ?_, t⟩
  refine (h vs w1 hI.ex fun j f h2 h3 h4 => ?_).mono fun v w2 ⟨h5, h6, h7⟩ => hI.plain h5 (by rw [hf]; exact h6) (fun k hk => .inl (h7 k (by rw [← hf]; exact hk)))
  have := hI.hold j (he j (by simpa using h2)) (fun c hcc => by rw [hcc] at h4; simp at h4; rw [h4]; exact hL)
  rwa [h3] at this
def deadOk (l : List Oper) (rt : List Nat) (cons : List (Option Nat)) (i : Nat) (o : Oper) : Bool :=
  rt.getD i 0 != 0 && (List.range rt.length).all fun m => m == i || rt.getD m 0 != rt.getD i 0 || (match cons.getD m none with | some c => c == i || (edgesOf o).contains c | none => false) || (match l[m]? with | some om => (edgesOf om).contains i | none => false)
set_option maxRecDepth 100000 in
theorem rows_app {l : List Oper} {fs : List FactB} {rt : List Nat} {cons : List (Option Nat)} {a : Act} {w : World} {i : Nat} {o : Oper} {r : List Oper} (j0 : Nat) (xs ys : List UInt8) (hf0 : fs.getD j0 .any = .own w.heap.size xs) (hf : fs.getD i .any = .own w.heap.size ys)
    (hj0 : (edgesOf o).contains j0 = true) (hc0 : cons.getD j0 none = some i) (hr0 : rt.getD j0 0 = rt.getD i 0) (hd : deadOk l rt cons i o = true)
    (h : ∀ vs w1, Ex w w1 → (∀ j (f : FactB), (edgesOf o).contains j = true → fs.getD j .any = f → (cons.getD j none).all (· == i) = true → f.holds (vs j) w1) → StepG Try.prog l.toArray o (actsTo l.toArray a (fun _ => true) vs l.length) w1 fun v w2 => w1.grownBy w2 (vs j0).ownBlock ∧ (FactB.own w.heap.size ys).holds v w2 ∧ (v.ownBlock = (vs j0).ownBlock ∨ v.ownBlock = some w1.heap.size))
    (t : eachF (ReqR l fs rt cons a w) (i + 1) r) : eachF (ReqR l fs rt cons a w) i (o :: r) := by
  refine ⟨fun L vs w1 hI hL hc he => ?_, t⟩
  have hLj : L j0 = true := he j0 (by simpa using hj0)
  have hlj : live cons L j0 := fun c hcc => by rw [hc0] at hcc; cases hcc; exact hL
  have h0 := hI.hold j0 hLj hlj
  rw [hf0] at h0
  refine (h vs w1 hI.ex fun j f h2 h3 h4 => ?_).mono fun v w2 ⟨h5, h6, h7⟩ => ?_
  · have := hI.hold j (he j (by simpa using h2)) (fun c hcc => by rw [hcc] at h4; simp at h4; rw [h4]; exact hL)
    rwa [h3] at this
  · unfold deadOk at hd
    rw [Bool.and_eq_true, List.all_eq_true] at hd
    refine hI.inplace (j0 := j0) hLj hlj hr0 (fun m hm hLm hrm hlive => ?_) ?_ ?_ (by rw [hf]; exact h6) ?_
    · have hlt : m < rt.length := by
        refine Nat.lt_of_not_le fun hn => ?_
        have h8 : rt.getD m 0 = 0 := by simp [List.getD_eq_getElem?_getD, List.getElem?_eq_none hn]
        rw [h8] at hrm
        have := hd.1
        rw [← hrm] at this
        simp at this
      have h8 := hd.2 m (List.mem_range.2 hlt)
      simp only [Bool.or_eq_true, beq_iff_eq, bne_iff_ne, ne_eq] at h8
      rcases h8 with ((h8 | h8) | h8) | h8
      · exact hm h8
      · exact h8 hrm
      · split at h8
        · rename_i c hcm
          have h9 := hlive c hcm
          simp only [Bool.or_eq_true, beq_iff_eq] at h8
          rcases h8 with h8 | h8
          · rw [h8] at h9; simp [updG] at h9
          · have := he c (by simpa using h8)
            unfold updG at h9
            split at h9
            · cases h9
            · rw [this] at h9; cases h9
        · cases h8
      · split at h8
        · rename_i om hom
          have := hc m om hom hLm i (by simpa using h8)
          rw [this] at hL
          cases hL
        · cases h8
    · rw [hf0]
      exact Keeps.ofGrown h5 fun k e => e
    · rw [hf0]
      exact fun k hk => (h0.2.lt k hk).1
    · rw [hf, hf0]
      intro k hk
      rcases h7 with h7 | h7
      · exact .inr (h7.symm.trans hk)
      · have hk' : v.ownBlock = some k := hk
        rw [h7] at hk'
        cases hk'
        exact .inl (Nat.le_refl _)
set_option maxRecDepth 100000 in
theorem rows_nil {l : List Oper} {fs : List FactB} {rt : List Nat} {cons : List (Option Nat)} {a : Act} {w : World} {i : Nat} : eachF (ReqR l fs rt cons a w) i [] := trivial
set_option maxRecDepth 100000 in
theorem toldR_at {fs : List FactB} {vs : Nat → Value} {w : World} {n : Nat} {cons : List (Option Nat)} (h : ∀ i, i < n → cons.getD i none = none → (fs.getD i .any).holds (vs i) w) (i : Nat) (f : FactB) (hi : i < n) (hc : cons.getD i none = none) (hf : fs.getD i .any = f) : f.holds (vs i) w := by
  have := h i hi hc
  rwa [hf] at this
set_option maxRecDepth 100000 in
/-- What a value that is no slice of the region's own gives. -/
theorem same_val {w : World} {x : Value} : Ex w w ∧ (FactB.val x).holds x w ∧ ∀ k, (FactB.val x).blk x = some k → w.heap.size ≤ k := ⟨Ex.refl w, rfl, fun _ h => by cases h⟩
set_option maxRecDepth 100000 in
theorem toldR_bytes {xs : List UInt8} {w : World} {f : FuncId} {args : Array Value} (h : Calls Try.prog f args w fun e w' => Fresh w xs e w') : Calls Try.prog f args w fun e w' => ∃ v, e = .returned v ∧ Ex w w' ∧ (FactB.bsl xs).holds v w' ∧ ∀ k, (FactB.bsl xs).blk v = some k → w.heap.size ≤ k :=
  h.mono fun _ _ ⟨v, h1, h2, h3⟩ => ⟨v, h1, h3, BSl.ofRow h2, fun k hk => by
    have hk' : (if xs = [] then none else v.ownBlock) = some k := hk
    split at hk'
    · cases hk'
    · exact (h2.lt k hk').1⟩
set_option maxRecDepth 100000 in
theorem toldR_val {w : World} {x : Value} {f : FuncId} {args : Array Value} (h : Calls Try.prog f args w fun e w' => e = .returned x ∧ Below w.heap.size w w') : Calls Try.prog f args w fun e w' => ∃ v, e = .returned v ∧ Ex w w' ∧ (FactB.val x).holds v w' ∧ ∀ k, (FactB.val x).blk v = some k → w.heap.size ≤ k :=
  h.mono fun _ _ ⟨h1, h2⟩ => ⟨_, h1, h2, rfl, fun _ h => by cases h⟩
section
variable {o : Oper} {ρ : Operand → Value} {w w0 : World} {x y z : Operand} {v vx vy vz : Value}
set_option maxRecDepth 100000 in
theorem gives_build0 (ho : o.op = .buildSlice 28 0 #[]) (he : Ex w0 w) : Gives Try.prog o ρ w fun v w2 => Ex w w2 ∧ (FactB.own w0.heap.size []).holds v w2 ∧ ∀ k, (FactB.own w0.heap.size []).blk v = some k → w.heap.size ≤ k := by
  refine Gives.value (w' := w.alloc (.cells #[] 5)) (v := .slice (some ⟨w.heap.size, 0, none⟩) 0 0) ?_ ⟨Ex.alloc w _, ⟨by simp, ?_⟩, fun k hk => ?_⟩
  · unfold execOp
    simp only [ho]
    obtain ⟨i0, hi, hz0, hz1, hz2⟩ := info_parts Try.infoU8
    simp [Instr.buildSlice, run_underlying Try.underlying28, sizeOf, typeInfo, hi, newRow, Instr.fill]
    congr 2
    exact Array.eq_empty_of_size_eq_zero (by simp)
  · exact World.ownsRow_lit w #[] 0 he.size (by simp [maxLen]) rfl
  · have hk' : (Value.slice (some ⟨w.heap.size, 0, none⟩) 0 0).ownBlock = some k := hk
    cases hk'
    exact Nat.le_refl _
set_option maxRecDepth 100000 in
theorem gives_appO {tx : TypeId} {xs news : List UInt8} (ho : o.op = .call { callee := .builtin .append, args := #[x, y], argTypes := #[28, tx] }) (hx : ρ x = vx) (hy : ρ y = vy) (he : Ex w0 w) (h : (FactB.own w0.heap.size xs).holds vx w) (hs : Src Try.prog 1 tx vy news.length (bcells news) w) (hl : xs.length + news.length ≤ 140737488355328) :
    Gives Try.prog o ρ w fun v w2 => w.grownBy w2 vx.ownBlock ∧ (FactB.own w0.heap.size (xs ++ news)).holds v w2 ∧ (v.ownBlock = vx.ownBlock ∨ v.ownBlock = some w.heap.size) := by
  obtain ⟨i0, hi, hz0, hz1, hz2⟩ := info_parts Try.infoU8
  obtain ⟨v', w', hr, h2, h3, h4, h5⟩ := run_append_src (P := Try.prog) w w0.heap.size 28 tx o.type 5 i0 _ 1 Try.underlying28 hi hz0 hz1 hz2 rfl vx _ _ h.2 vy _ _ hs (by unfold maxLen; omega) (by omega) he.size
  refine Gives.value (w' := w') (v := v') ?_ ⟨h3, ⟨fun e => h.1 (h4.1 e).1, ?_⟩, h5⟩
  · unfold execOp
    simp only [ho, resolve, invoke, builtin, Sem.run_bind, Sem.run_pure, Result.andThen_ok, List.map_toArray, List.map_cons, List.map_nil, hx, hy, hr]
  · rw [List.length_append, bcells_append]
    exact h2
set_option maxRecDepth 100000 in
theorem gives_zerosO {xs : List UInt8} {m : Nat} (ho : o.op = .call { callee := .builtin .append, args := #[x, y], argTypes := #[28, 3] }) (hx : ρ x = vx) (hy : ρ y = .int .i64 m) (he : Ex w0 w) (h : (FactB.own w0.heap.size xs).holds vx w) (hl : xs.length + m ≤ 1000000) :
    Gives Try.prog o ρ w fun v w2 => w.grownBy w2 vx.ownBlock ∧ (FactB.own w0.heap.size (xs ++ List.replicate m 0)).holds v w2 ∧ (v.ownBlock = vx.ownBlock ∨ v.ownBlock = some w.heap.size) := by
  obtain ⟨g, cap, rfl⟩ : ∃ g cap, vx = .slice (some ⟨g, 0, none⟩) xs.length cap := by
    rcases h.2.2 with ⟨e, _⟩ | ⟨g, cap, _, e, _⟩
    · exact absurd e h.1
    · exact ⟨g, cap, e⟩
  have hown : w.ownsRow w0.heap.size 5 1 (.slice (some ⟨g, 0, none⟩) xs.length cap) xs.length (bcells xs) := h.2
  obtain ⟨v', w', hr, h2, h3, h4⟩ : ∃ v' w', (Builtin.append_ #[28, 3] o.type #[.slice (some ⟨g, 0, none⟩) xs.length cap, .int .i64 (m : Int)]).run Try.prog w = .ok v' w' ∧ w'.ownsRow w0.heap.size 5 1 v' (xs.length + m) (bcells (xs ++ List.replicate m 0)) ∧ w.grownBy w' (some g) ∧ (v'.ownBlock = some g ∨ v'.ownBlock = some w.heap.size) := by
    by_cases hm : m = 0
    · subst hm
      obtain ⟨i, hi, hz, hz1, hz2⟩ := info_parts Try.infoU8
      have hnc : xs.length ≤ cap := by
        rcases hown.2 with ⟨e, _⟩ | ⟨g', cap', cur, e, _, _, hnc, _⟩
        · cases e
        · cases e; exact hnc
      refine ⟨.slice (some ⟨g, 0, none⟩) xs.length cap, w, ?_, by simpa using hown, World.grownBy.refl w _, .inl rfl⟩
      have hw : IntKind.i64.wrap 0 = 0 := rfl
      simp [Builtin.append_, run_underlying Try.underlying28, run_underlying Try.underlying3, sizeOf, typeInfo, zeroValue, hi, hz, hz2, asInt, asIntOf, hw, hnc, storeCells]
      try rfl
    · exact run_append_zeros2 w w0.heap.size g xs.length cap m xs o.type hown (by omega) hl he.size
  refine Gives.value (w' := w') (v := v') ?_ ⟨h3, ⟨?_, ?_⟩, h4⟩
  · unfold execOp
    simp only [ho, resolve, invoke, builtin, Sem.run_bind, Sem.run_pure, Result.andThen_ok, List.map_toArray, List.map_cons, List.map_nil, hx, hy, hr]
  · rintro rfl
    rcases h4 with h4 | h4 <;> cases h4
  · rw [List.length_append, List.length_replicate]
    exact h2
end

set_option maxRecDepth 100000 in
theorem SSl.cut {w : World} {ao : Option Addr} {n cap l h : Nat} {ss : List ByteArray} (hs : SSl w (.slice ao n cap) ss) (hl : l ≤ h) (hh : h ≤ ss.length) : SSl w (sliced ao l h cap 1) ((ss.take h).drop l) := by
  obtain ⟨ao', cap', e, h1, h2, h3, h4⟩ := hs
  cases e
  have hlen : ((ss.take h).drop l).length = h - l := by simp; omega
  unfold sliced
  refine ⟨_, cap - l, by rw [hlen], by rw [hlen]; omega, by omega, ?_, ?_⟩
  · intro e
    split at e
    · rename_i hc
      subst e
      obtain ⟨rfl, rfl⟩ := h3 rfl
      exact ⟨by simp, by omega⟩
    · rename_i hc
      cases ao with
      | none => obtain ⟨rfl, rfl⟩ := h3 rfl; simp at hh; omega
      | some ad => simp at e
  · intro ad e hne
    have hlt : l < h := by
      refine Nat.lt_of_not_le fun hn => hne ?_
      exact List.eq_nil_of_length_eq_zero (by rw [hlen]; omega)
    rw [if_neg (by omega)] at e
    cases ao with
    | none => simp at e
    | some ad0 =>
      obtain ⟨b, off, rfl, hc⟩ := h4 ad0 rfl (by rintro rfl; simp at hh; omega)
      simp only [Option.map_some, Option.some.injEq, Nat.mul_one] at e
      rw [add_lit'] at e
      refine ⟨b, off + l, e.symm, fun j x hx => ?_⟩
      rw [List.getElem?_drop, List.getElem?_take] at hx
      split at hx
      · have := hc (l + j) x hx
        rwa [← Nat.add_assoc] at this
      · cases hx

/-- A literal list of texts, in a block of its own. -/
def FactB.ssl (ss : List ByteArray) : FactB := ⟨fun v w => ∃ g, v = .slice (some ⟨g, 0, none⟩) ss.length ss.length ∧ g < w.heap.size ∧ SSl w v ss, fun v => v.ownBlock,
  fun _ _ _ _ hk hn ⟨g, e, h1, h2⟩ => ⟨g, e, Nat.lt_of_lt_of_le h1 hk.size, h2.keep hk (fun k hk => hn k hk)⟩, fun _ _ k ⟨g, e, h1, _⟩ hb => by subst e; cases hb; exact h1⟩
/-- A place where a text stands. -/
def FactB.ptr (x : ByteArray) : FactB := ⟨fun v w => ∃ g i, v = .pointer (some ⟨g, i, none⟩) ∧ w.cell? ⟨g, i, none⟩ = some (.string x), fun v => match v with | .pointer (some a) => some a.block | _ => none,
  fun _ _ _ _ hk hn ⟨g, i, e, h⟩ => ⟨g, i, e, hk.cell h (hn g (by subst e; rfl))⟩, fun _ _ k ⟨g, i, e, h⟩ hb => by subst e; cases hb; exact World.block_lt_of_cell? _ _ h⟩
/-- A row of texts of one's own, from base on, that is not nil. -/
def FactB.ownS (base : Nat) (xs : List ByteArray) : FactB := ⟨fun v w => v ≠ .slice none 0 0 ∧ w.ownsRow base 9 1 v xs.length (xs.map Value.string), fun v => v.ownBlock,
  fun _ _ _ _ hk hn h => ⟨h.1, hk.row h.2 hn⟩, fun _ _ k h hb => (h.2.lt k hb).2⟩

def reach (l : List Oper) : Nat → Nat → Nat → Bool
  | 0, _, _ => false
  | f + 1, m, i => match l[m]? with
    | some om => (edgesOf om).any fun e => e == i || reach l f e i
    | none => false
set_option maxRecDepth 100000 in
theorem reach_done {l : List Oper} {L : Nat → Bool} (hc : ∀ (m : Nat) (om : Oper), l[m]? = some om → L m = true → ∀ j ∈ edgesOf om, L j = true) (i : Nat) : ∀ f m, reach l f m i = true → L m = true → L i = true
  | 0, _, h, _ => by simp [reach] at h
  | f + 1, m, h, hm => by
    rw [reach] at h
    split at h
    · rename_i om hom
      obtain ⟨e, he, h2⟩ := List.any_eq_true.1 h
      have h3 := hc m om hom hm e he
      rcases Bool.or_eq_true _ _ |>.mp h2 with h4 | h4
      · rw [← eq_of_beq h4]; exact h3
      · exact reach_done hc i f e h4 h3
    · cases h
def deadOkS (l : List Oper) (rt : List Nat) (cons : List (Option Nat)) (i : Nat) (o : Oper) : Bool :=
  rt.getD i 0 != 0 && (List.range rt.length).all fun m => m == i || rt.getD m 0 != rt.getD i 0 || (match cons.getD m none with | some c => c == i || ((edgesOf o).any fun e => e == c || reach l 8 e c) | none => false) || reach l 8 m i
set_option maxRecDepth 100000 in
theorem rows_appS {l : List Oper} {fs : List FactB} {rt : List Nat} {cons : List (Option Nat)} {a : Act} {w : World} {i : Nat} {o : Oper} {r : List Oper} (j0 : Nat) (xs ys : List ByteArray) (hf0 : fs.getD j0 .any = .ownS w.heap.size xs) (hf : fs.getD i .any = .ownS w.heap.size ys)
    (hj0 : (edgesOf o).contains j0 = true) (hc0 : cons.getD j0 none = some i) (hr0 : rt.getD j0 0 = rt.getD i 0) (hd : deadOkS l rt cons i o = true)
    (h : ∀ vs w1, Ex w w1 → (∀ j (f : FactB), (edgesOf o).contains j = true → fs.getD j .any = f → (cons.getD j none).all (· == i) = true → f.holds (vs j) w1) → StepG Try.prog l.toArray o (actsTo l.toArray a (fun _ => true) vs l.length) w1 fun v w2 => w1.grownBy w2 (vs j0).ownBlock ∧ (FactB.ownS w.heap.size ys).holds v w2 ∧ (v.ownBlock = (vs j0).ownBlock ∨ v.ownBlock = some w1.heap.size))
    (t : eachF (ReqR l fs rt cons a w) (i + 1) r) : eachF (ReqR l fs rt cons a w) i (o :: r) := by
  refine ⟨fun L vs w1 hI hL hc he => ?_, t⟩
  have hLj : L j0 = true := he j0 (by simpa using hj0)
  have hlj : live cons L j0 := fun c hcc => by rw [hc0] at hcc; cases hcc; exact hL
  have h0 := hI.hold j0 hLj hlj
  rw [hf0] at h0
  refine (h vs w1 hI.ex fun j f h2 h3 h4 => ?_).mono fun v w2 ⟨h5, h6, h7⟩ => ?_
  · have := hI.hold j (he j (by simpa using h2)) (fun c hcc => by rw [hcc] at h4; simp at h4; rw [h4]; exact hL)
    rwa [h3] at this
  · unfold deadOkS at hd
    rw [Bool.and_eq_true, List.all_eq_true] at hd
    refine hI.inplace (j0 := j0) hLj hlj hr0 (fun m hm hLm hrm hlive => ?_) ?_ ?_ (by rw [hf]; exact h6) ?_
    · have hlt : m < rt.length := by
        refine Nat.lt_of_not_le fun hn => ?_
        have h8 : rt.getD m 0 = 0 := by simp [List.getD_eq_getElem?_getD, List.getElem?_eq_none hn]
        rw [h8] at hrm
        have := hd.1
        rw [← hrm] at this
        simp at this
      have h8 := hd.2 m (List.mem_range.2 hlt)
      simp only [Bool.or_eq_true, beq_iff_eq, bne_iff_ne, ne_eq] at h8
      rcases h8 with ((h8 | h8) | h8) | h8
      · exact hm h8
      · exact h8 hrm
      · split at h8
        · rename_i c hcm
          have h9 := hlive c hcm
          simp only [Bool.or_eq_true, beq_iff_eq] at h8
          rcases h8 with h8 | h8
          · rw [h8] at h9; simp [updG] at h9
          · have : L c = true := by
              obtain ⟨e, hee, h10⟩ := List.any_eq_true.1 h8
              rcases Bool.or_eq_true _ _ |>.mp h10 with h11 | h11
              · rw [← eq_of_beq h11]; exact he e hee
              · exact reach_done hc c 8 e h11 (he e hee)
            unfold updG at h9
            split at h9
            · cases h9
            · rw [this] at h9; cases h9
        · cases h8
      · have := reach_done hc i 8 m h8 hLm
        rw [this] at hL
        cases hL
    · rw [hf0]
      exact Keeps.ofGrown h5 fun k e => e
    · rw [hf0]
      exact fun k hk => (h0.2.lt k hk).1
    · rw [hf, hf0]
      intro k hk
      rcases h7 with h7 | h7
      · exact .inr (h7.symm.trans hk)
      · have hk' : v.ownBlock = some k := hk
        rw [h7] at hk'
        cases hk'
        exact .inl (Nat.le_refl _)

set_option maxRecDepth 100000 in
theorem rows_pass {l : List Oper} {fs : List FactB} {rt : List Nat} {cons : List (Option Nat)} {a : Act} {w : World} {i : Nat} {o : Oper} {r : List Oper} (j0 : Nat) (f : FactB) (hf0 : fs.getD j0 .any = f) (hf : fs.getD i .any = f)
    (hj0 : (edgesOf o).contains j0 = true) (hc0 : cons.getD j0 none = some i) (hr0 : rt.getD j0 0 = rt.getD i 0)
    (h : ∀ vs w1, StepG Try.prog l.toArray o (actsTo l.toArray a (fun _ => true) vs l.length) w1 fun v w2 => v = vs j0 ∧ w2 = w1)
    (t : eachF (ReqR l fs rt cons a w) (i + 1) r) : eachF (ReqR l fs rt cons a w) i (o :: r) := by
  refine ⟨fun L vs w1 hI hL hc he => ?_, t⟩
  have hLj : L j0 = true := he j0 (by simpa using hj0)
  have hlj : live cons L j0 := fun c hcc => by rw [hc0] at hcc; cases hcc; exact hL
  have h0 := hI.hold j0 hLj hlj
  rw [hf0] at h0
  refine (h vs w1).mono fun v w2 ⟨h5, h6⟩ => ?_
  subst h6
  subst h5
  exact hI.plain (Ex.refl _) (by rw [hf]; exact h0) (fun k hk => .inr ⟨j0, hLj, hlj, hr0, by rw [hf0]; rw [hf] at hk; exact hk⟩)

set_option maxRecDepth 100000 in
theorem rows_via {l : List Oper} {fs : List FactB} {rt : List Nat} {cons : List (Option Nat)} {a : Act} {w : World} {i : Nat} {o : Oper} {r : List Oper} (j0 : Nat) (f0 f : FactB) (hf0 : fs.getD j0 .any = f0) (hf : fs.getD i .any = f)
    (hj0 : (edgesOf o).contains j0 = true) (hc0 : cons.getD j0 none = none) (hr0 : rt.getD j0 0 = rt.getD i 0)
    (h : ∀ vs w1, f0.holds (vs j0) w1 → (∀ j (f : FactB), (edgesOf o).contains j = true → fs.getD j .any = f → (cons.getD j none).all (· == i) = true → f.holds (vs j) w1) → StepG Try.prog l.toArray o (actsTo l.toArray a (fun _ => true) vs l.length) w1 fun v w2 => w2 = w1 ∧ f.holds v w2 ∧ f.blk v = f0.blk (vs j0))
    (t : eachF (ReqR l fs rt cons a w) (i + 1) r) : eachF (ReqR l fs rt cons a w) i (o :: r) := by
  refine ⟨fun L vs w1 hI hL hc he => ?_, t⟩
  have hLj : L j0 = true := he j0 (by simpa using hj0)
  have hlj : live cons L j0 := fun c hcc => by rw [hc0] at hcc; cases hcc
  have h0 := hI.hold j0 hLj hlj
  rw [hf0] at h0
  refine (h vs w1 h0 fun j f h2 h3 h4 => ?_).mono fun v w2 ⟨h5, h6, h7⟩ => ?_
  · have := hI.hold j (he j (by simpa using h2)) (fun c hcc => by rw [hcc] at h4; simp at h4; rw [h4]; exact hL)
    rwa [h3] at this
  · subst h5
    exact hI.plain (Ex.refl _) (by rw [hf]; exact h6) (fun k hk => .inr ⟨j0, hLj, hlj, hr0, by rw [hf0, ← h7]; rw [hf] at hk; exact hk⟩)
set_option maxRecDepth 100000 in
theorem elemStr : Try.prog.underlying 25 = some (.slice (Try.prog.elem 25)) := by kernel_rfl
set_option maxRecDepth 100000 in
theorem elemStrEq : Try.prog.elem 25 = 9 := by kernel_rfl
section
variable {o : Oper} {ρ : Operand → Value} {w w0 : World} {x y z : Operand} {v vx vy vz : Value}
set_option maxRecDepth 100000 in
theorem gives_litS (n : Nat) (parts : Array (Nat × Operand)) (xs : List ByteArray) (hn : xs.length = n) (hn2 : n ≤ 1000) (hn0 : 0 < n) (ho : o.op = .buildSlice 25 n parts) (hf : Instr.fill (fun i => some (i * 1, 1)) ((Array.range (n * 1)).map ((Value.string ⟨#[]⟩).cells[· % (Value.string ⟨#[]⟩).cells.size]!)) (parts.map fun (i, x) => (i, ρ x)).toList = some (xs.map Value.string).toArray) :
    ∀ {Φ : Value → World → Prop}, Φ (.slice (some ⟨w.heap.size, 0, none⟩) n n) (w.alloc (.cells (xs.map Value.string).toArray 9)) → Gives Try.prog o ρ w Φ := by
  intro Φ h
  obtain ⟨i0, hi, hz0, hz1, hz2⟩ := info_parts Try.infoStr
  refine Gives.value (w' := w.alloc (.cells (xs.map Value.string).toArray 9)) (v := .slice (some ⟨w.heap.size, 0, none⟩) n n) ?_ h
  unfold execOp
  simp only [ho]
  have hb := run_buildSlice (P := Try.prog) w 25 9 n (parts.map fun (i, x) => (i, ρ x)) (xs.map Value.string).toArray i0 (.string ⟨#[]⟩) Try.underlying25 hi hz0 (by rw [hz1]; omega) (by rw [hz1]; omega) (by rw [hz1]; exact hf)
  rw [Sem.run_bind, hb]
  rfl
set_option maxRecDepth 100000 in
theorem gives_litSS (n : Nat) (parts : Array (Nat × Operand)) (xs : List ByteArray) (hn : xs.length = n) (hn2 : n ≤ 1000) (hn0 : 0 < n) (ho : o.op = .buildSlice 25 n parts) (hf : Instr.fill (fun i => some (i * 1, 1)) ((Array.range (n * 1)).map ((Value.string ⟨#[]⟩).cells[· % (Value.string ⟨#[]⟩).cells.size]!)) (parts.map fun (i, x) => (i, ρ x)).toList = some (xs.map Value.string).toArray) :
    Gives Try.prog o ρ w fun v w2 => Ex w w2 ∧ (FactB.ssl xs).holds v w2 ∧ ∀ k, (FactB.ssl xs).blk v = some k → w.heap.size ≤ k := by
  refine gives_litS n parts xs hn hn2 hn0 ho hf ?_
  refine ⟨Ex.alloc w _, ⟨w.heap.size, by rw [hn], by simp, ?_⟩, fun k hk => ?_⟩
  · have := ssl_lit w xs (by omega)
    rwa [hn] at this
  · have hk' : (Value.slice (some ⟨w.heap.size, 0, none⟩) n n).ownBlock = some k := hk
    cases hk'
    exact Nat.le_refl _
set_option maxRecDepth 100000 in
theorem gives_lit1S {s : ByteArray} (ho : o.op = .buildSlice 25 1 #[(0, x)]) (hx : ρ x = .string s) :
    Gives Try.prog o ρ w fun v w2 => Ex w w2 ∧ (FactB.ssl [s]).holds v w2 ∧ ∀ k, (FactB.ssl [s]).blk v = some k → w.heap.size ≤ k := by
  refine gives_litSS 1 #[(0, x)] [s] rfl (by omega) (by omega) ho ?_
  simp only [List.map_toArray, List.map_cons, List.map_nil, hx]
  kernel_rfl
set_option maxRecDepth 100000 in
theorem gives_lit4S {a b c d : ByteArray} (ho : o.op = .buildSlice 25 4 #[(0, .const (.string a)), (1, .const (.string b)), (2, .const (.string c)), (3, .const (.string d))]) (hc : ∀ v, ρ (.const v) = v) :
    Gives Try.prog o ρ w fun v w2 => Ex w w2 ∧ (FactB.ssl [a, b, c, d]).holds v w2 ∧ ∀ k, (FactB.ssl [a, b, c, d]).blk v = some k → w.heap.size ≤ k := by
  refine gives_litSS 4 _ [a, b, c, d] rfl (by omega) (by omega) ho ?_
  simp only [List.map_toArray, List.map_cons, List.map_nil, hc]
  kernel_rfl
set_option maxRecDepth 100000 in
theorem gives_build0S (ho : o.op = .buildSlice 25 0 #[]) (he : Ex w0 w) : Gives Try.prog o ρ w fun v w2 => Ex w w2 ∧ (FactB.ownS w0.heap.size []).holds v w2 ∧ ∀ k, (FactB.ownS w0.heap.size []).blk v = some k → w.heap.size ≤ k := by
  refine Gives.value (w' := w.alloc (.cells #[] 9)) (v := .slice (some ⟨w.heap.size, 0, none⟩) 0 0) ?_ ⟨Ex.alloc w _, ⟨by simp, ?_⟩, fun k hk => ?_⟩
  · unfold execOp
    simp only [ho]
    obtain ⟨i0, hi, hz0, hz1, hz2⟩ := info_parts Try.infoStr
    simp [Instr.buildSlice, run_underlying Try.underlying25, sizeOf, typeInfo, hi, newRow, Instr.fill]
    congr 2
    exact Array.eq_empty_of_size_eq_zero (by simp)
  · exact World.ownsRow_lit w #[] 0 he.size (by simp [maxLen]) rfl
  · have hk' : (Value.slice (some ⟨w.heap.size, 0, none⟩) 0 0).ownBlock = some k := hk
    cases hk'
    exact Nat.le_refl _
set_option maxRecDepth 100000 in
theorem gives_appS {xs news : List ByteArray} (ho : o.op = .call { callee := .builtin .append, args := #[x, y], argTypes := #[25, 25] }) (hx : ρ x = vx) (hy : ρ y = vy) (he : Ex w0 w) (h : (FactB.ownS w0.heap.size xs).holds vx w) (hs : SSl w vy news) (hl : xs.length + news.length ≤ 1000000) :
    Gives Try.prog o ρ w fun v w2 => w.grownBy w2 vx.ownBlock ∧ (FactB.ownS w0.heap.size (xs ++ news)).holds v w2 ∧ (v.ownBlock = vx.ownBlock ∨ v.ownBlock = some w.heap.size) := by
  obtain ⟨i0, hi, hz0, hz1, hz2⟩ := info_parts Try.infoStr
  obtain ⟨v', w', hr, h2, h3, h4, h5⟩ := run_append_src (P := Try.prog) w w0.heap.size 25 25 o.type 9 i0 _ 16 Try.underlying25 hi hz0 hz1 hz2 rfl vx _ _ h.2 vy _ _ hs.src (by unfold maxLen; omega) (by omega) he.size
  refine Gives.value (w' := w') (v := v') ?_ ⟨h3, ⟨fun e => h.1 (h4.1 e).1, ?_⟩, h5⟩
  · unfold execOp
    simp only [ho, resolve, invoke, builtin, Sem.run_bind, Sem.run_pure, Result.andThen_ok, List.map_toArray, List.map_cons, List.map_nil, hx, hy, hr]
  · rw [List.length_append, List.map_append]
    exact h2
set_option maxRecDepth 100000 in
theorem gives_sliceTo {ao : Option Addr} {n cap j : Nat} (hj : j ≤ cap) (ho : o.op = .slice 25 x none (some y) none) (hx : ρ x = .slice ao n cap) (hy : ρ y = .int .i64 (j : Int)) {Φ : Value → World → Prop} (h : Φ (sliced ao 0 j cap 1) w) : Gives Try.prog o ρ w Φ := by
  obtain ⟨i0, hi, hz0, hz1, hz2⟩ := info_parts Try.infoStr
  refine gives_slice (v := sliced ao 0 j cap 1) ho ?_ h
  simp only [hx, Option.map_none, Option.map_some, hy]
  rw [run_sliceAt_slice _ _ _ _ _ _ elemStr, run_slice_h _ _ _ _ _ elemStr _ _ (by omega) (by omega)]
  simp [elemStrEq, sizeOf, typeInfo, hi, hz1, Result.andThen]
set_option maxRecDepth 100000 in
theorem gives_sliceFrom {ao : Option Addr} {n cap j : Nat} (hj : j ≤ n) (ho : o.op = .slice 25 x (some y) none none) (hx : ρ x = .slice ao n cap) (hy : ρ y = .int .i64 (j : Int)) {Φ : Value → World → Prop} (h : Φ (sliced ao j n cap 1) w) : Gives Try.prog o ρ w Φ := by
  obtain ⟨i0, hi, hz0, hz1, hz2⟩ := info_parts Try.infoStr
  refine gives_slice (v := sliced ao j n cap 1) ho ?_ h
  simp only [hx, Option.map_none, Option.map_some, hy]
  rw [run_sliceAt_slice _ _ _ _ _ _ elemStr, run_slice_l _ _ _ _ _ elemStr _ _ (by omega) (by omega)]
  simp [elemStrEq, sizeOf, typeInfo, hi, hz1, Result.andThen]
set_option maxRecDepth 100000 in
theorem gives_remN {t : TypeId} {a b : Nat} (hb : b ≠ 0) (ho : o.op = .binOp .rem t x y t) (hx : ρ x = .int .i64 (a : Int)) (hy : ρ y = .int .i64 (b : Int)) {Φ : Value → World → Prop} (h : Φ (.int .i64 ((a % b : Nat) : Int)) w) : Gives Try.prog o ρ w Φ := by
  refine Gives.value (w' := w) (v := .int .i64 ((a % b : Nat) : Int)) ?_ h
  unfold execOp
  simp only [ho, hx, hy]
  have h2 : ((a : Int).tmod (b : Int)) = ((a % b : Nat) : Int) := rfl
  simp [eqGuard, binOp, Op.intDiv, hb, h2]
set_option maxRecDepth 100000 in
theorem gives_idxS {ss : List ByteArray} {i : Nat} {s : ByteArray} (hi : ss[i]? = some s) (ho : o.op = .indexAddr 25 x y) (hx : ρ x = vx) (hv : (FactB.ssl ss).holds vx w) (hy : ρ y = .int .i64 (i : Int)) :
    Gives Try.prog o ρ w fun v w2 => w2 = w ∧ (FactB.ptr s).holds v w2 ∧ (FactB.ptr s).blk v = vx.ownBlock := by
  obtain ⟨g, rfl, _, hs⟩ := hv
  obtain ⟨i0, hi0, hz0, hz1, hz2⟩ := info_parts Try.infoStr
  have hlt := (List.getElem?_eq_some_iff.1 hi).1
  have hc := hs.cellAt i hlt
  rw [Nat.zero_add] at hc
  have he : ss[i] = s := (List.getElem?_eq_some_iff.1 hi).2
  rw [he] at hc
  refine Gives.value (w' := w) (v := .pointer (some ⟨g, i, none⟩)) ?_ ⟨rfl, ⟨g, i, rfl, hc⟩, rfl⟩
  unfold execOp
  simp only [ho]
  rw [hx, hy]
  simp [run_indexAt_slice w _ _ _ _ _ _ elemStr, elemStrEq, sizeOf, typeInfo, hi0, hz1, add_lit', show (i : Int) < (ss.length : Int) by omega]
set_option maxRecDepth 100000 in
theorem gives_ldS {s : ByteArray} (ho : o.op = .load 9 x) (hx : ρ x = vx) (hv : (FactB.ptr s).holds vx w) {Φ : Value → World → Prop} (h : Φ (.string s) w) : Gives Try.prog o ρ w Φ := by
  obtain ⟨g, i, rfl, hc⟩ := hv
  refine Gives.value (w' := w) (v := .string s) ?_ h
  unfold execOp
  simp only [ho]
  rw [hx]
  simp [Instr.loadAt, loadVar, Instr.sureAddr, hc]
end
theorem elemNm : Try.prog.underlying 50 = some (.slice (Try.prog.elem 50)) := by kernel_rfl
theorem elemNmEq : Try.prog.elem 50 = 75 := by kernel_rfl
section
variable {o : Oper} {ρ : Operand → Value} {w w0 : World} {x y z : Operand} {v vx vy vz : Value} {Φ : Value → World → Prop}
theorem gives_idxN {g n cap k : Nat} {i : Int} (h0 : i.toNat = k) (h1 : 0 ≤ i) (h2 : i < (n : Int)) (ho : o.op = .indexAddr 50 x y) (hx : ρ x = .slice (some ⟨g, 0, none⟩) n cap) (hy : ρ y = .int .i64 i) (h : Φ (.pointer (some ⟨g, k * 8, none⟩)) w) : Gives Try.prog o ρ w Φ := by
  obtain ⟨i0, hi0, hz0, hz1, hz2⟩ := info_parts Try.infoName
  refine Gives.value (w' := w) (v := .pointer (some ⟨g, k * 8, none⟩)) ?_ h
  unfold execOp
  simp only [ho]
  rw [hx, hy]
  obtain ⟨m, rfl⟩ : ∃ m : Nat, i = (m : Int) := ⟨i.toNat, by omega⟩
  have e : m = k := by omega
  subst e
  simp [run_indexAt_slice w _ _ _ _ _ _ elemNm, elemNmEq, sizeOf, typeInfo, hi0, hz1, add_lit', show (m : Int) < (n : Int) by omega]
theorem gives_fieldN {g i : Nat} (ho : o.op = .fieldAddr 75 x 0) (hx : ρ x = .pointer (some ⟨g, i, none⟩)) (h : Φ (.pointer (some ⟨g, i, none⟩)) w) : Gives Try.prog o ρ w Φ := by
  refine Gives.value (w' := w) (v := .pointer (some ⟨g, i, none⟩)) ?_ h
  unfold execOp
  simp only [ho, hx]
  simp [Instr.fieldAt, run_underlying Try.underlying75, Instr.sureAddr, fieldPlace, Addr.add]
theorem gives_ldN {s : ByteArray} {g i : Nat} (ho : o.op = .load 9 x) (hx : ρ x = .pointer (some ⟨g, i, none⟩)) (hc : w.cell? ⟨g, i, none⟩ = some (.string s)) (h : Φ (.string s) w) : Gives Try.prog o ρ w Φ := by
  refine Gives.value (w' := w) (v := .string s) ?_ h
  unfold execOp
  simp only [ho]
  rw [hx]
  simp [Instr.loadAt, loadVar, Instr.sureAddr, hc]
end

theorem NRow.nlen {w : World} {v : Value} {L : List (Nm × At)} (h : NRow w v L) : ∃ ao cap, v = .slice ao L.length cap := by
  obtain ⟨ao, cap, e, _⟩ := h.shape
  exact ⟨ao, cap, e⟩
theorem dir_c {w : World} {R : Nat → Role} {a : Nat} {S : Tr} {B : Nat → Nat} {dv hv : Nat → Value} {tv : Value} {pa : Nat → Nat} {nm : Nat → Nm} (H : TXb w R a S B dv hv tv) (o : Ok S pa nm) (x : Th) (hx : x ∈ S.ths) :
    Calls Try.prog 31 #[.pointer (some ⟨a, 0, none⟩), .int .i64 x.id] w fun e w' => e = .returned (.bool x.dir) ∧ Below w.heap.size w w' := by
  have HF := hidden (find_c H o x.id)
  rw [findT_nat o.inc hx rfl, show ptrT B (some x) = .pointer (some ⟨B x.id, 0, none⟩) from rfl] at HF
  have HC : Hid (∀ {W : World}, Below w.heap.size w W → W.cell? ⟨B x.id, 1, none⟩ = some (.bool x.dir)) := fun {W} hb => ((H.fresh hb).th x hx).c1
  clear H
  go_enter Try.func31, Try.ntmps31
  go_wp2_with fail
  refine HF.out.mono ?_
  rintro e w1 ⟨rfl, hb⟩
  have k1 := HC.out hb
  go_wp2_with fail
  go_ret
  exact ⟨rfl, hb⟩

set_option maxHeartbeats 8000000 in
set_option maxRecDepth 100000 in
theorem lwalk_c {base a : Nat} {R : Nat → Role} {S : Tr} {pa : Nat → Nat} {nm : Nat → Nm} {dp : Nat → Nat} (o : Ok S pa nm) (d : Dep S pa dp) (n : Nat) : ∀ (deep : Nat), deep + n = 6 → ∀ (x : Th), x ∈ S.ths → ∀ (p : List Nm), p.length = deep → walkT S.ths 0 p = some x.id →
    ∀ (v : Value) (w : World), TS base w R a S → SSl w v p →
    Calls Try.prog 9 #[.pointer (some ⟨a, 0, none⟩), v, .int .i64 deep] w fun e w' => e = .returned (.tuple #[.int .i64 (cntO S.ths n x.id), .int .i64 (sumO S n x.id), .bool true]) ∧ Below w.heap.size w w' := by
  induction n with
  | zero =>
    intro deep hd x hx p hp hw
    have h1 := o.depth d hx hw
    have h2 := d.low x hx
    omega
  | succ n ih =>
    intro deep hd x hx p hp hw v w hT hv
    have HT := hidden hT
    have HV := hidden hv
    have HO := hidden o
    have HD := hidden d
    have HIH := hidden ih
    have HX := hidden hx
    have HW := hidden hw
    have hdl : ¬ (20 : Int) < (deep : Int) := by omega
    have hlk : lookT S p = (x.id, 0) := by rw [lookT, hw]
    have hat : attrsT S (x.id : Int) = (x.a, 0) := by rw [attrsT, findT_nat o.inc hx rfl]
    have has := (o.att x hx).2.2
    have hds := o.dsize hx
    have HDC : Hid (∀ W, TS base W R a S → Calls Try.prog 31 #[.pointer (some ⟨a, 0, none⟩), .int .i64 x.id] W fun e w' => e = .returned (.bool x.dir) ∧ Below W.heap.size W w') := fun W HW => by
      obtain ⟨⟨B, dv, hv', tv, hX⟩, _, _⟩ := HW
      exact dir_c hX o x hx
    have HLK := hidden (fun (W : World) (HW : TS base W R a S) (hs : SSl W v p) => look_t HW v p hs)
    rw [hlk] at HLK
    have HAT := hidden (fun (W : World) (HW : TS base W R a S) => attrs_t HW (x.id : Int))
    rw [hat] at HAT
    have HLS : Hid (x.dir = true → ∀ W, TS base W R a S → Calls Try.prog 19 #[.pointer (some ⟨a, 0, none⟩), .int .i64 x.id] W (ListPost W (x.h.map fun e => (e.1, attrsOf S e.2), 0))) := fun hdx W HW => by
      have h := list_t HW (x.id : Int)
      have e : listT S (x.id : Int) = (x.h.map fun e => (e.1, attrsOf S e.2), 0) := by rw [listT, findT_nat o.inc hx rfl]; simp only [hdx, if_true]
      rw [e] at h
      exact h
    have hfile : x.dir = false → cntO S.ths (n + 1) x.id = 1 ∧ sumO S (n + 1) x.id = x.d.length := fun h => o.cntO_file hx h n
    have hdir : x.dir = true → cntO S.ths (n + 1) x.id = 1 + cntH S.ths n x.h ∧ sumO S (n + 1) x.id = sumH S n x.h := fun h => ⟨o.cntO_eq hx n, o.sumO_dir hx h n⟩
    have hcl := o.cnt_le (n + 1) hx hw
    have HCL := hidden hcl
    generalize cntO S.ths (n + 1) x.id = cc at hfile hdir hcl HCL ⊢
    generalize sumO S (n + 1) x.id = ss at hfile hdir ⊢
    have HFILE := hidden hfile
    have HDIR := hidden hdir
    obtain ⟨vo, vc, rfl, hvc, hvm, _⟩ := hv
    unfold maxLen at hvm
    have HAS := hidden has
    have hp5 : p.length ≤ 5 := by have := HD.out.low x HX.out; have := HO.out.depth HD.out HX.out HW.out; omega
    have HPD := hidden hp
    have HDN := hidden hd
    clear hT o d ih hx hw hlk hat hfile hdir has hp hd
    generalize hpl : p.length = pl at HV HLK hvc hp5 HPD ⊢
    have HPL := hidden hpl
    have HP5 := hidden hp5
    clear hpl hp5
    go_enter Try.func9, Try.ntmps9
    go_wp2_with fail
    refine (HLK.out w HT.out HV.out).mono ?_
    rintro e w1 ⟨rfl, hb1⟩
    have HT1 := hidden (HT.out.fresh hb1)
    have HB1 := hidden hb1
    clear hb1
    go_wp2_with fail
    refine (HAT.out w1 HT1.out).mono ?_
    rintro e w2 ⟨rfl, hb2⟩
    have HT2 := hidden (HT1.out.fresh hb2)
    have HB2 := hidden (HB1.out.trans (hb2.mono HB1.out.size))
    clear hb2
    rw [show (x.a, 0).1.v = .agg #[.int .u32 x.a.f, .int .u64 x.a.s, .int .u32 x.a.u, .int .u32 x.a.g, .int .u32 x.a.m, .int .u32 x.a.a, .int .u32 x.a.t] from rfl]
    go_wp2_with fail
    have hkA := (Keeps.refl (fun _ => False) w2).alloc (.cells #[.int .u32 x.a.f, .int .u64 x.a.s, .int .u32 x.a.u, .int .u32 x.a.g, .int .u32 x.a.m, .int .u32 x.a.a, .int .u32 x.a.t] 30)
    have hblk := heap_alloc_new w2 (.cells #[.int .u32 x.a.f, .int .u64 x.a.s, .int .u32 x.a.u, .int .u32 x.a.g, .int .u32 x.a.m, .int .u32 x.a.a, .int .u32 x.a.t] 30)
    have HTA := hidden (HT2.out.still hkA)
    have HBA := hidden (HB2.out.alloc HB2.out.size (.cells #[.int .u32 x.a.f, .int .u64 x.a.s, .int .u32 x.a.u, .int .u32 x.a.g, .int .u32 x.a.m, .int .u32 x.a.a, .int .u32 x.a.t] 30))
    have hg0 := lt_of_block hblk
    generalize w2.alloc (.cells #[.int .u32 x.a.f, .int .u64 x.a.s, .int .u32 x.a.u, .int .u32 x.a.g, .int .u32 x.a.m, .int .u32 x.a.a, .int .u32 x.a.t] 30) = wA at hblk HTA HBA hg0 ⊢
    generalize w2.heap.size = gA at hblk hg0 ⊢
    clear hkA
    refine (HDC.out wA HTA.out).mono ?_
    rintro e w3 ⟨rfl, hb3⟩
    have HT3 := hidden (HTA.out.fresh hb3)
    have HB3 := hidden (HBA.out.trans (hb3.mono HBA.out.size))
    have hblk3 := (hb3.block _ hg0).trans hblk
    clear hb3 hblk
    cases hdx : x.dir with
    | false =>
      obtain ⟨c0, c1, c2, c3, c4, c5, c6, _⟩ := cells7 hblk3
      obtain ⟨f1, f2⟩ := HFILE.out hdx
      rw [HAS.out] at c1
      have hcv : IntKind.i64.wrap (x.d.length : Int) = (x.d.length : Int) := by rw [IntKind.wrap_i64]; omega
      go_wp2_with fail
      go_quiet (fail)
      go_wp2
      go_ret3
      exact ⟨by rw [f1, f2]; rfl, HB3.out.trans (Keeps.below ((Keeps.refl (fun _ => False) w3).drewN nq) HB3.out.size (fun _ h => h.elim))⟩
    | true =>
      obtain ⟨f1, f2⟩ := HDIR.out hdx
      go_wp2_with fail
      refine (HLS.out hdx w3 HT3.out).mono ?_
      rintro e w4 ⟨vl, rfl, hown, hb4⟩
      have HT4 := hidden (HT3.out.fresh hb4)
      have HB4 := hidden (HB3.out.trans (hb4.mono HB3.out.size))
      have HV4 := hidden (HV.out.fresh HB4.out)
      obtain ⟨L, hL⟩ : ∃ L : List (Nm × At), L = x.h.map fun e => (e.1, attrsOf S e.2) := ⟨_, rfl⟩
      rw [show (x.h.map fun e => (e.1, attrsOf S e.2), 0).1 = L from hL.symm] at hown
      have HN4 : Hid (NRow w4 vl L) := ⟨_, hown⟩
      have hLL : L.length = x.h.length := by rw [hL, List.length_map]
      have HLE : Hid (∀ (k : Nat) (hk : k < L.length) (hk2 : k < x.h.length), L[k] = ((x.h[k]).1, attrsOf S (x.h[k]).2)) := fun k hk hk2 => by simp [hL]
      obtain ⟨la, lc, rfl⟩ := ownsRow_shape hown
      rw [hLL]
      have hhl := HO.out.hlen HX.out
      have HLL := hidden hLL
      clear hown hb4 hL hLL hblk3
      go_wp2_with fail
      go_loopw [15, 16, 17] (fun nn sz c wr => ∃ k : Nat, c = .int .i64 k ∧ k ≤ x.h.length ∧ nn = .int .i64 (1 + cntH S.ths n (x.h.take k) : Nat) ∧ sz = .int .i64 (sumH S n (x.h.take k)) ∧ Below w4.heap.size w4 wr) (fun _ _ c _ => x.h.length - (intOf c).toNat)
      case atStart => exact ⟨0, rfl, Nat.zero_le _, rfl, rfl, Below.refl _ _⟩
      case round =>
        obtain ⟨k, rfl, hk, rfl, rfl, hb⟩ := hrel
        have HBR := hidden hb
        have HTR := hidden (HT4.out.fresh hb)
        have HVR := hidden (HV4.out.fresh hb)
        clear hb
        by_cases hlt : k < x.h.length
        · have hi1 : (k : Int) < (x.h.length : Int) := by omega
          have hkL : k < L.length := by rw [HLL.out]; exact hlt
          have hne : L ≠ [] := by rintro h; rw [h] at hkL; simp at hkL
          obtain ⟨lg, rfl⟩ : ∃ g, la = some ⟨g, 0, none⟩ := by
            obtain ⟨_, _, e, _, _, h⟩ := HN4.out.shape
            obtain ⟨g, hg⟩ := h hne
            cases e
            exact ⟨g, hg⟩
          have hcell := (HN4.out.fresh HBR.out).at k hkL
          rw [HLE.out k hkL hlt] at hcell
          obtain ⟨hch, hwk⟩ := HO.out.walk_held HX.out HW.out (List.getElem_mem hlt)
          have HCH := hidden hch
          have HWK := hidden hwk
          have HNS := hidden (HO.out.nsize HX.out (List.getElem_mem hlt))
          have HCT := hidden (cntH_take S.ths n x.h k hlt)
          have HST := hidden (sumH_take S n x.h k hlt)
          have hcmp : Hid (∀ (h0 : 0 < k) (wr' : World), Below wr.heap.size wr wr' → ∃ s0 : Nm, wr'.cell? ⟨lg, (k - 1) * 8, none⟩ = some (.string s0) ∧ nlt s0 (x.h[k]).1 = true) := fun h0 wr' hb' => by
            have hk1 : k - 1 < x.h.length := by omega
            have h1 := ((HN4.out.fresh HBR.out).fresh hb').at (k - 1) (by rw [HLL.out]; exact hk1)
            rw [HLE.out (k - 1) (by rw [HLL.out]; exact hk1) hk1] at h1
            exact ⟨_, h1.1, List.pairwise_iff_getElem.1 (HO.out.srt x HX.out) _ _ hk1 hlt (by omega)⟩
          have HEN : Hid (∃ y ∈ S.ths, y.id = (x.h[k]).2) := hch
          generalize x.h[k] = en at hcell HCH HWK HNS HCT HST hcmp HEN
          obtain ⟨c0, c1, c2, c3, c4, c5, c6, c7⟩ := hcell
          clear hch hwk hkL hne
          obtain ⟨ki, hki⟩ : ∃ ki : Int, (k : Int) = ki := ⟨_, rfl⟩
          rw [hki] at hi1 ⊢
          have hki0 : 0 ≤ ki := by omega
          have HKI := hidden hki
          clear hki
          go_upto_region 14 with fail
          go_cut [84] from 63 to 140 (fun c wx => c = .bool false ∧ Below wr.heap.size wr wx)
          case first =>
            by_cases hk0 : k = 0
            · have hk0i : ¬ (0 : Int) < ki := by have := HKI.out; omega
              clear hk0
              go_quiet (fail)
              go_wp2
              go_meet
              case rel => exact ⟨rfl, Keeps.below ((Keeps.refl (fun _ => False) wr).drewN nq) (Nat.le_refl _) (fun _ h => h.elim)⟩
            · have hk0i : (0 : Int) < ki := by have := HKI.out; omega
              obtain ⟨s0, d0, hs0⟩ := hcmp.out (by omega) wr (Below.refl _ _)
              obtain ⟨k1, hk1⟩ : ∃ k1, k1 = k - 1 := ⟨_, rfl⟩
              rw [← hk1] at d0
              have hkk : ki - 1 = (k1 : Int) := by have := HKI.out; omega
              have hk2 : (k1 : Int) < (x.h.length : Int) := by omega
              have hkt : ki.toNat = k := by have := HKI.out; omega
              have hnl : Op.bytesLess s0.data.toList en.1.data.toList = true := hs0
              clear hk0 hk1
              go_quiet (fail)
              go_wp2
              go_meet
              case rel => exact ⟨by rw [ByteArray.toList_eq, ByteArray.toList_eq, hnl]; rfl, Keeps.below ((Keeps.refl (fun _ => False) wr).drewN nq) (Nat.le_refl _) (fun _ h => h.elim)⟩
          case rest =>
            obtain ⟨hc1, hc2⟩ := hcut
            subst hc1
            obtain ⟨w5, e5⟩ : ∃ W, W = wc := ⟨_, rfl⟩
            subst e5
            have HB5 := hidden (HBR.out.trans (hc2.mono HBR.out.size))
            have HT5 := hidden (HTR.out.fresh hc2)
            have HV5 := hidden (HVR.out.fresh hc2)
            have HC0 : Hid (∀ W, Below w5.heap.size w5 W → W.cell? ⟨lg, k * 8, none⟩ = some (.string en.1) ∧ W.cell? ⟨lg, k * 8 + 1, none⟩ = some (.int .u32 (attrsOf S en.2).f) ∧ W.cell? ⟨lg, k * 8 + 2, none⟩ = some (.int .u64 (attrsOf S en.2).s) ∧ W.cell? ⟨lg, k * 8 + 3, none⟩ = some (.int .u32 (attrsOf S en.2).u) ∧ W.cell? ⟨lg, k * 8 + 4, none⟩ = some (.int .u32 (attrsOf S en.2).g) ∧ W.cell? ⟨lg, k * 8 + 5, none⟩ = some (.int .u32 (attrsOf S en.2).m) ∧ W.cell? ⟨lg, k * 8 + 6, none⟩ = some (.int .u32 (attrsOf S en.2).a) ∧ W.cell? ⟨lg, k * 8 + 7, none⟩ = some (.int .u32 (attrsOf S en.2).t)) := fun W hW => by
              have hkk : Keeps (fun _ => False) wr W := Keeps.ofFresh (hc2.trans (hW.mono hc2.size))
              exact ⟨hkk.cell c0 (fun h => h), hkk.cell c1 (fun h => h), hkk.cell c2 (fun h => h), hkk.cell c3 (fun h => h), hkk.cell c4 (fun h => h), hkk.cell c5 (fun h => h), hkk.cell c6 (fun h => h), hkk.cell c7 (fun h => h)⟩
            clear hc2 hcmp c0 c1 c2 c3 c4 c5 c6 c7
            go_upto_region 16 with fail
            go_cut [18] from 85 to 94 (fun v wx => SOwn wx w5.heap.size v (p ++ [en.1]) ∧ Below w5.heap.size w5 wx)
            case first =>
              have hkt : ki.toNat = k := by have := HKI.out; omega
              refine region_rows [(.ownS w5.heap.size ([])), (.val (.slice vo pl vc)), (.ownS w5.heap.size (p)), (.val (.slice (some ⟨lg, 0, none⟩) x.h.length lc)), (.val (.int .i64 ki)), (.val (.pointer (some ⟨lg, k * 8, none⟩))), (.val (.pointer (some ⟨lg, k * 8, none⟩))), (.val (.string en.1)), (.ssl [en.1]), (.ownS w5.heap.size (p ++ [en.1])), (.ownS w5.heap.size (p ++ [en.1]))] [1, 101, 1, 50, 51, 52, 53, 54, 60, 1, 1] [some 2, none, some 9, none, none, none, none, none, none, some 10, none] (by kernel_rfl) ?_ ?_
              · refine rows_cons (.ownS w5.heap.size ([])) (by kernel_rfl) (fun vs w1 he hd => StepG.plain (by kernel_rfl) (gives_build0S (by kernel_rfl) he)) ?_
                refine rows_cons (.val (.slice vo pl vc)) (by kernel_rfl) (fun vs w1 he hd => StepG.plain (by kernel_rfl) (gives_move (x := (.tmp 1)) (v := (.slice vo pl vc)) (by kernel_rfl) (by kernel_rfl) same_val)) ?_
                refine rows_appS 0 ([]) (p) (by kernel_rfl) (by kernel_rfl) (by kernel_rfl) (by kernel_rfl) (by kernel_rfl) (by kernel_rfl) (fun vs w1 he hd => StepG.plain (by kernel_rfl) (gives_appS (x := .tmp 85) (y := .tmp 86) (vx := vs 0) (vy := vs 1) (xs := []) (news := p) (by kernel_rfl) (by kernel_rfl) (by kernel_rfl) he (hd 0 (.ownS w5.heap.size ([])) (by kernel_rfl) (by kernel_rfl) (by kernel_rfl)) (by rw [show vs 1 = (.slice vo pl vc) from (hd 1 (.val (.slice vo pl vc)) (by kernel_rfl) (by kernel_rfl) (by kernel_rfl))]; exact HV5.out.fresh he) (by have := HP5.out; have := HPL.out; simp; omega))) ?_
                refine rows_cons (.val (.slice (some ⟨lg, 0, none⟩) x.h.length lc)) (by kernel_rfl) (fun vs w1 he hd => StepG.plain (by kernel_rfl) (gives_move (x := (.tmp 13)) (v := (.slice (some ⟨lg, 0, none⟩) x.h.length lc)) (by kernel_rfl) (by kernel_rfl) same_val)) ?_
                refine rows_cons (.val (.int .i64 ki)) (by kernel_rfl) (fun vs w1 he hd => StepG.plain (by kernel_rfl) (gives_move (x := (.tmp 17)) (v := (.int .i64 ki)) (by kernel_rfl) (by kernel_rfl) same_val)) ?_
                refine rows_cons (.val (.pointer (some ⟨lg, k * 8, none⟩))) (by kernel_rfl) (fun vs w1 he hd => StepG.plain (by kernel_rfl) (gives_idxN (x := .tmp 88) (y := .tmp 89) (g := lg) (n := x.h.length) (cap := lc) (k := k) (i := ki) hkt hki0 hi1 (by kernel_rfl) (Eq.trans (b := vs 3) (by kernel_rfl) (hd 3 (.val (.slice (some ⟨lg, 0, none⟩) x.h.length lc)) (by kernel_rfl) (by kernel_rfl) (by kernel_rfl))) (Eq.trans (b := vs 4) (by kernel_rfl) (hd 4 (.val (.int .i64 ki)) (by kernel_rfl) (by kernel_rfl) (by kernel_rfl))) same_val)) ?_
                refine rows_cons (.val (.pointer (some ⟨lg, k * 8, none⟩))) (by kernel_rfl) (fun vs w1 he hd => StepG.plain (by kernel_rfl) (gives_fieldN (x := .tmp 90) (g := lg) (i := k * 8) (by kernel_rfl) (Eq.trans (b := vs 5) (by kernel_rfl) (hd 5 (.val (.pointer (some ⟨lg, k * 8, none⟩))) (by kernel_rfl) (by kernel_rfl) (by kernel_rfl))) same_val)) ?_
                refine rows_cons (.val (.string en.1)) (by kernel_rfl) (fun vs w1 he hd => StepG.plain (by kernel_rfl) (gives_ldN (s := en.1) (x := .tmp 91) (g := lg) (i := k * 8) (by kernel_rfl) (Eq.trans (b := vs 6) (by kernel_rfl) (hd 6 (.val (.pointer (some ⟨lg, k * 8, none⟩))) (by kernel_rfl) (by kernel_rfl) (by kernel_rfl))) (HC0.out _ he).1 same_val)) ?_
                refine rows_cons (.ssl [en.1]) (by kernel_rfl) (fun vs w1 he hd => StepG.plain (by kernel_rfl) (gives_lit1S (s := en.1) (x := .tmp 92) (by kernel_rfl) (Eq.trans (b := vs 7) (by kernel_rfl) (hd 7 (.val (.string en.1)) (by kernel_rfl) (by kernel_rfl) (by kernel_rfl))))) ?_
                refine rows_appS 2 (p) (p ++ [en.1]) (by kernel_rfl) (by kernel_rfl) (by kernel_rfl) (by kernel_rfl) (by kernel_rfl) (by kernel_rfl) (fun vs w1 he hd => StepG.plain (by kernel_rfl) (gives_appS (x := .tmp 87) (y := .tmp 93) (vx := vs 2) (vy := vs 8) (xs := p) (news := [en.1]) (by kernel_rfl) (by kernel_rfl) (by kernel_rfl) he (hd 2 (.ownS w5.heap.size (p)) (by kernel_rfl) (by kernel_rfl) (by kernel_rfl)) ((by obtain ⟨_, _, _, h⟩ := (hd 8 (.ssl [en.1]) (by kernel_rfl) (by kernel_rfl) (by kernel_rfl)); exact h)) (by have := HP5.out; have := HPL.out; simp; omega))) ?_
                refine rows_pass 9 (.ownS w5.heap.size (p ++ [en.1])) (by kernel_rfl) (by kernel_rfl) (by kernel_rfl) (by kernel_rfl) (by kernel_rfl) (fun vs w1 => StepG.plain (by kernel_rfl) (gives_assign (x := .tmp 94) (v := vs 9) (by kernel_rfl) (by kernel_rfl) ⟨rfl, rfl⟩)) ?_
                exact rows_nil
              intro vs wR hx hF
              have e1 : vs 1 = (.slice vo pl vc) := toldR_at hF 1 (.val (.slice vo pl vc)) (by decide) (by kernel_rfl) (by kernel_rfl)
              have e3 : vs 3 = (.slice (some ⟨lg, 0, none⟩) x.h.length lc) := toldR_at hF 3 (.val (.slice (some ⟨lg, 0, none⟩) x.h.length lc)) (by decide) (by kernel_rfl) (by kernel_rfl)
              have e4 : vs 4 = (.int .i64 ki) := toldR_at hF 4 (.val (.int .i64 ki)) (by decide) (by kernel_rfl) (by kernel_rfl)
              have e5 : vs 5 = (.pointer (some ⟨lg, k * 8, none⟩)) := toldR_at hF 5 (.val (.pointer (some ⟨lg, k * 8, none⟩))) (by decide) (by kernel_rfl) (by kernel_rfl)
              have e6 : vs 6 = (.pointer (some ⟨lg, k * 8, none⟩)) := toldR_at hF 6 (.val (.pointer (some ⟨lg, k * 8, none⟩))) (by decide) (by kernel_rfl) (by kernel_rfl)
              have e7 : vs 7 = (.string en.1) := toldR_at hF 7 (.val (.string en.1)) (by decide) (by kernel_rfl) (by kernel_rfl)
              have hoA : SOwn wR w5.heap.size (vs 10) (p ++ [en.1]) := (toldR_at hF 10 (.ownS w5.heap.size (p ++ [en.1])) (by decide) (by kernel_rfl) (by kernel_rfl)).2
              simp only [List.length_cons, List.length_nil, actsTo, if_true, dstOf, List.getElem?_toArray, List.getElem?_cons_succ, List.getElem?_cons_zero, Option.bind_some, Act.put, List.setIfInBounds_toArray, List.set_cons_zero, List.set_cons_succ]
              simp only [e1, e3, e4, e5, e6, e7]
              generalize vs 0 = y0
              generalize vs 2 = y2
              generalize vs 8 = y8
              generalize vs 9 = y9
              generalize vs 10 = y10 at hoA ⊢
              clear hF e1 e3 e4 e5 e6 e7 vs
              go_wp2_with fail
              go_meet
              case rel => exact ⟨hoA, hx⟩
            case rest =>
              obtain ⟨hq1, hq2⟩ := hcut
              obtain ⟨w6, e6⟩ : ∃ W, W = wc := ⟨_, rfl⟩
              subst e6
              have HB6 := hidden (HB5.out.trans (hq2.mono HB5.out.size))
              have HT6 := hidden (HT5.out.fresh hq2)
              have HS6 : Hid (SSl w6 u18 (p ++ [en.1])) := hq1.ssl
              have HC6 : Hid (∀ W, Below w6.heap.size w6 W → W.cell? ⟨lg, k * 8 + 1, none⟩ = some (.int .u32 (attrsOf S en.2).f) ∧ W.cell? ⟨lg, k * 8 + 2, none⟩ = some (.int .u64 (attrsOf S en.2).s) ∧ W.cell? ⟨lg, k * 8 + 3, none⟩ = some (.int .u32 (attrsOf S en.2).u) ∧ W.cell? ⟨lg, k * 8 + 4, none⟩ = some (.int .u32 (attrsOf S en.2).g) ∧ W.cell? ⟨lg, k * 8 + 5, none⟩ = some (.int .u32 (attrsOf S en.2).m) ∧ W.cell? ⟨lg, k * 8 + 6, none⟩ = some (.int .u32 (attrsOf S en.2).a) ∧ W.cell? ⟨lg, k * 8 + 7, none⟩ = some (.int .u32 (attrsOf S en.2).t)) := fun W hW => (HC0.out W (hq2.trans (hW.mono hq2.size))).2
              have HLK2 := hidden (fun (W : World) (HW : TS base W R a S) (hs : SSl W u18 (p ++ [en.1])) => look_t HW u18 (p ++ [en.1]) hs)
              rw [show lookT S (p ++ [en.1]) = (en.2, 0) by rw [lookT, HWK.out]] at HLK2
              have HAT2 := hidden (fun (W : World) (HW : TS base W R a S) => attrs_t HW (en.2 : Int))
              have hat2 : attrsT S (en.2 : Int) = (attrsOf S en.2, 0) := by
                obtain ⟨y, hy, e⟩ := HEN.out
                rw [attrsT, attrsOf, findT_nat HO.out.inc hy e]
              rw [hat2] at HAT2
              have HREC : Hid (∀ (W : World), TS base W R a S → SSl W u18 (p ++ [en.1]) → Calls Try.prog 9 #[.pointer (some ⟨a, 0, none⟩), u18, .int .i64 ((deep : Int) + 1)] W fun e w' => e = .returned (.tuple #[.int .i64 (cntO S.ths n en.2), .int .i64 (sumO S n en.2), .bool true]) ∧ Below W.heap.size W w') := fun W h1 h2 => by
                obtain ⟨y, hy, e⟩ := HEN.out
                have h3 := HIH.out (deep + 1) (by have := HDN.out; omega) y hy (p ++ [en.1]) (by have := HPL.out; have := HPD.out; simp; omega) (by rw [HWK.out, e]) u18 W h1 h2
                rw [e] at h3
                exact h3
              clear hq1 hq2 hat2
              generalize attrsOf S en.2 = A at HC6 HAT2
              go_wp2_with fail
              refine (HLK2.out w6 HT6.out HS6.out).mono ?_
              rintro e w7 ⟨rfl, hb7⟩
              have HT7 := hidden (HT6.out.fresh hb7)
              have HB7 := hidden hb7
              clear hb7
              go_wp2_with fail
              refine (HAT2.out w7 HT7.out).mono ?_
              rintro e w8 ⟨rfl, hb8⟩
              have HT8 := hidden (HT7.out.fresh hb8)
              have HB8 := hidden (HB7.out.trans (hb8.mono HB7.out.size))
              clear hb8
              rw [show (A, 0).1.v = .agg #[.int .u32 A.f, .int .u64 A.s, .int .u32 A.u, .int .u32 A.g, .int .u32 A.m, .int .u32 A.a, .int .u32 A.t] from rfl]
              go_wp2_with fail
              have hkB := (Keeps.refl (fun _ => False) w8).alloc (.cells #[.int .u32 A.f, .int .u64 A.s, .int .u32 A.u, .int .u32 A.g, .int .u32 A.m, .int .u32 A.a, .int .u32 A.t] 30)
              have hblkB := heap_alloc_new w8 (.cells #[.int .u32 A.f, .int .u64 A.s, .int .u32 A.u, .int .u32 A.g, .int .u32 A.m, .int .u32 A.a, .int .u32 A.t] 30)
              have HTB := hidden (HT8.out.still hkB)
              have HBB := hidden (HB8.out.alloc HB8.out.size (.cells #[.int .u32 A.f, .int .u64 A.s, .int .u32 A.u, .int .u32 A.g, .int .u32 A.m, .int .u32 A.a, .int .u32 A.t] 30))
              have hgB := lt_of_block hblkB
              generalize w8.alloc (.cells #[.int .u32 A.f, .int .u64 A.s, .int .u32 A.u, .int .u32 A.g, .int .u32 A.m, .int .u32 A.a, .int .u32 A.t] 30) = wB at hblkB HTB HBB hgB ⊢
              generalize w8.heap.size = gB at hblkB hgB ⊢
              clear hkB
              refine (HREC.out wB HTB.out (HS6.out.fresh HBB.out)).mono ?_
              rintro e w9 ⟨rfl, hb9⟩
              have HT9 := hidden (HTB.out.fresh hb9)
              have HB9 := hidden (HBB.out.trans (hb9.mono HBB.out.size))
              have hblk9 := (hb9.block _ hgB).trans hblkB
              clear hb9 hblkB
              obtain ⟨l1, l2, l3, l4, l5, l6, l7⟩ := HC6.out w9 HB9.out
              obtain ⟨b0, b1, b2, b3, b4, b5, b6, _⟩ := cells7 hblk9
              have hcc : 1 + cntH S.ths n (x.h.take k) + cntO S.ths n en.2 ≤ 200 := by
                have h1 := cntH_take_le S.ths n x.h (k + 1)
                have h2 := HCT.out
                have h3 := HCL.out
                have h4 := (HDIR.out hdx).1
                omega
              have hss : sumH S n (x.h.take k) + sumO S n en.2 ≤ 209715200 := by
                have h1 := HO.out.sumH_le n (x.h.take (k + 1))
                have h2 := HST.out
                have h3 := HCT.out
                omega
              have hkt : ki.toNat = k := by have := HKI.out; omega
              have HKT := hidden hkt
              have HHL := hidden hhl
              clear hblk9
              generalize cntH S.ths n (x.h.take k) = c0 at HCT hcc ⊢
              generalize sumH S n (x.h.take k) = s0 at HST hss ⊢
              generalize cntO S.ths n en.2 = c1 at HCT hcc ⊢
              generalize sumO S n en.2 = s1 at HST hss ⊢
              go_upto_region 20 with fail
              go_quiet (fail)
              have HKN : Hid (ki + 1 = ((k + 1 : Nat) : Int)) := by have := HKI.out; exact (by omega : ki + 1 = ((k + 1 : Nat) : Int))
              clear hkt l1 l2 l3 l4 l5 l6 l7 b0 b1 b2 b3 b4 b5 b6
              go_wp2_with fail
              go_roundw
              case rel =>
                refine ⟨k + 1, ?_, hlt, ?_, ?_, ?_⟩
                · rw [← HKN.out]
                · rw [HCT.out]; congr 1; push_cast; omega
                · rw [HST.out]; congr 1
                · exact (HB6.out.trans (HB9.out.mono HB6.out.size)).trans (Keeps.below ((Keeps.refl (fun _ => False) w9).drewN nq) (HB6.out.trans (HB9.out.mono HB6.out.size)).size (fun _ h => h.elim))
              case measure => simp [intOf]; omega
        · have hkl : k = x.h.length := by omega
          rw [hkl]
          have hi1 : ¬ ((x.h.length : Nat) : Int) < (x.h.length : Int) := by omega
          obtain ⟨f1, f2⟩ := HDIR.out hdx
          go_wp2_with fail
          go_ret3
          have e1 : (cc : Int) = 1 + (cntH S.ths n x.h : Nat) := by rw [f1]; push_cast; rfl
          exact ⟨by show Ending.returned (.tuple #[.int .i64 (1 + (cntH S.ths n x.h : Nat)), .int .i64 (sumH S n x.h : Nat), .bool true]) = _; first | rfl | (rw [f2]; done) | (rw [f2, f1]; rfl), HB4.out.trans (HBR.out.mono HB4.out.size)⟩

set_option maxHeartbeats 8000000 in
set_option maxRecDepth 100000 in
theorem treeLists_c (v0 : Value) (qs : List AskD) (w : World) (h0 : ASl w v0 qs) :
    Calls Try.prog 3 #[v0] w fun e w' => e = .returned (.bool true) ∧ Below w.heap.size w w' := by
  have HA := hidden h0
  obtain ⟨ao, cap, rfl, hc0, hm0⟩ := h0.len
  unfold maxLen at hm0
  clear h0
  go_enter Try.func3, Try.ntmps3
  go_wp2_with fail
  refine (new_c w).mono ?_
  rintro e w1 ⟨R1, a, rfl, ht1, hb1⟩
  have HT1 := hidden ht1
  have HB1 := hidden hb1
  clear ht1 hb1
  go_wp2_with fail
  go_loopw [4] (fun c wr => ∃ (k : Nat) (R : Nat → Role) (S : Tr), c = .int .i64 k ∧ k ≤ 30 ∧ k ≤ qs.length ∧ TS w.heap.size wr R a S ∧ S.next ≤ k + 1 ∧ Tall S ∧ Below w.heap.size w wr) (fun c _ => 30 - (intOf c).toNat)
  case atStart => exact ⟨0, R1, newTr, rfl, by omega, by omega, HT1.out, by decide, tall_new, HB1.out⟩
  case round =>
    obtain ⟨k, R, S, rfl, hk20, hkl, hT, hnx, hta, hb⟩ := hrel
    have HTA := hidden hta
    clear hta
    have HT := hidden hT
    have HB := hidden hb
    clear hT hb
    by_cases hlt : k < qs.length ∧ k < 30
    · obtain ⟨hlt0, hlt1⟩ := hlt
      have q0 : (k : Int) < (qs.length : Int) := by omega
      have q1 : (k : Int) < 30 := by omega
      have hA := HA.out.fresh HB.out
      obtain ⟨eb, eo, rfl, d0, d1, d2, d3, d4, d5, d6, d7, d8, d9, d10, d11, d12, d13, d14⟩ := hA.at k hlt0
      have HG := hidden (HA.out.good (List.getElem_mem hlt0))
      have HGr := hidden (hA.good (List.getElem_mem hlt0))
      clear hA
      generalize qs[k] = en at d0 d1 d2 d3 d4 d5 d6 d7 d8 d9 d10 d11 d12 d13 d14 HG HGr
      obtain ⟨x, pv, tv, bv⟩ := en
      go_wp2_with fail
      obtain ⟨g1, g2, g3, g4, g5, g6⟩ := HGr.out
      refine (short_c x pv tv bv _ g1 g2 g3).mono ?_
      rintro e w2 ⟨pv', tv', bv', rfl, hp2, ht2, hb2, hob2, hbel2⟩
      have HP2 := hidden hp2
      have HBv2 := hidden hb2
      have HBO2 := hidden hob2
      have HB2 := hidden (HB.out.trans (hbel2.mono HB.out.size))
      have HT2 := hidden (HT.out.fresh hbel2)
      have hlp := World.ownsRow.lt hp2
      have hnoP : Hid (∀ k, pv'.ownBlock = some k → R k = .no) := fun k e => HT.out.lim k (hlp k e).1
      clear hp2 hb2 hob2 hbel2 hlp g1 g2 g3 g4 g5 g6 d0 d1 d2 d3 d4 d5 d6 d7 d8 d9 d10 d11 d12 d13 d14
      obtain ⟨a1, k1, rfl⟩ := ownsRow_shape HP2.out
      obtain ⟨at2, kt2, rfl⟩ := ownsRow_shape ht2
      have hbs0 := HBv2.out
      obtain ⟨m3, hm3⟩ : ∃ m, m = (shortA x).b.length := ⟨_, rfl⟩
      obtain ⟨a3, k3, hv3, _⟩ := hbs0
      rw [← hm3] at hv3
      subst hv3
      obtain ⟨m1, hm1⟩ : ∃ m, m = (shortA x).P.length := ⟨_, rfl⟩
      rw [← hm1] at HP2 hnoP ⊢
      rw [show askC (shortA x) (.slice a1 m1 k1) (.slice at2 (shortA x).To.length kt2) (.slice a3 m3 k3) = #[.int .i64 x.kind, .int .i64 x.id, .slice a1 m1 k1, .slice at2 (shortA x).To.length kt2, .bool x.dir, .int .u64 x.at_, .int .u32 x.n, .slice a3 m3 k3, .int .u32 x.a.f, .int .u64 x.a.s, .int .u32 x.a.u, .int .u32 x.a.g, .int .u32 x.a.m, .int .u32 x.a.a, .int .u32 x.a.t] from rfl]
      have HM1 := hidden hm1
      have HM3 := hidden hm3
      clear hm1 hm3 ht2
      go_wp2_with fail
      have hno : Hid ((shortA x).b ≠ [] → ∀ j, (Value.slice a3 m3 k3).ownBlock = some j → j < w.heap.size) := fun hne j e => by
        have hxb : x.b ≠ [] := by rintro h0; exact hne (by show x.b.take 200 = []; rw [h0]; rfl)
        rw [HBO2.out] at e
        have hg := HG.out.2.2.1
        rcases Nat.lt_or_ge j w.heap.size with h | h
        · exact h
        · exact absurd rfl (BSl.apartB hg h hxb j e)
      have hblk := heap_alloc_new w2 (.cells #[.int .i64 x.kind, .int .i64 x.id, .slice a1 m1 k1, .slice at2 (shortA x).To.length kt2, .bool x.dir, .int .u64 x.at_, .int .u32 x.n, .slice a3 m3 k3, .int .u32 x.a.f, .int .u64 x.a.s, .int .u32 x.a.u, .int .u32 x.a.g, .int .u32 x.a.m, .int .u32 x.a.a, .int .u32 x.a.t] 32)
      have hkA := (Keeps.refl (fun _ => False) w2).alloc (.cells #[.int .i64 x.kind, .int .i64 x.id, .slice a1 m1 k1, .slice at2 (shortA x).To.length kt2, .bool x.dir, .int .u64 x.at_, .int .u32 x.n, .slice a3 m3 k3, .int .u32 x.a.f, .int .u64 x.a.s, .int .u32 x.a.u, .int .u32 x.a.g, .int .u32 x.a.m, .int .u32 x.a.a, .int .u32 x.a.t] 32)
      have hbA : Below w.heap.size w (w2.alloc (.cells #[.int .i64 x.kind, .int .i64 x.id, .slice a1 m1 k1, .slice at2 (shortA x).To.length kt2, .bool x.dir, .int .u64 x.at_, .int .u32 x.n, .slice a3 m3 k3, .int .u32 x.a.f, .int .u64 x.a.s, .int .u32 x.a.u, .int .u32 x.a.g, .int .u32 x.a.m, .int .u32 x.a.a, .int .u32 x.a.t] 32)) := HB2.out.alloc HB2.out.size _
      generalize w2.alloc (.cells #[.int .i64 x.kind, .int .i64 x.id, .slice a1 m1 k1, .slice at2 (shortA x).To.length kt2, .bool x.dir, .int .u64 x.at_, .int .u32 x.n, .slice a3 m3 k3, .int .u32 x.a.f, .int .u64 x.a.s, .int .u32 x.a.u, .int .u32 x.a.g, .int .u32 x.a.m, .int .u32 x.a.a, .int .u32 x.a.t] 32) = wA at hblk hkA hbA ⊢
      have htA := HT2.out.still hkA
      have hssl : SSl wA (.slice a1 m1 k1) (shortA x).P := (SOwn.ssl (show SOwn w2 wr.heap.size (.slice a1 m1 k1) (shortA x).P by have h := HP2.out; rw [HM1.out] at h ⊢; exact h)).keep hkA fun _ _ h => h
      have hbsA := HBv2.out.keep hkA fun _ _ h => h
      refine (make_t htA hbA.size _ (shortA x).P hssl hnoP.out x.dir (by omega)).mono ?_
      rintro e w3 ⟨rfl, R3, ht3, hm3⟩
      have hw2no := HT2.out.lim w2.heap.size (Nat.le_refl _)
      have hblk3 := (hm3.keeps.block w2.heap.size (lt_of_block hblk) (fun h => h hw2no)).trans hblk
      obtain ⟨_, _, _, _, _, _, _, c7, _⟩ := cells15 hblk3
      have HBv3 := hidden (hbsA.keepE hm3.keeps fun hne j e h => h (HT2.out.2.2 j (hno.out hne j e)))
      have HT3 := hidden ht3
      have HB3 : Hid (Below w.heap.size w w3) := hbA.trans (hm3.below HT2.out.2.2 hbA.size)
      have HN3 := hidden (makeT_next S (shortA x).P x.dir)
      clear ht3 hm3 hblk hblk3 hkA hbA htA hssl hbsA hw2no
      go_wp2_with fail
      have hwr := write_t HT3.out HB3.out.size x.id (x.at_ % 500) (by omega) _ (shortA x).b HBv3.out (by show (x.b.take 200).length ≤ _; rw [List.length_take]; omega) (fun hne j e => HT3.out.2.2 j (hno.out hne j e))
      refine hwr.mono ?_
      rintro e w4 ⟨rfl, R4, ht4, hm4⟩
      have HT4 := hidden ht4
      have HB4 : Hid (Below w.heap.size w w4) := HB3.out.trans (hm4.below HT3.out.2.2 HB3.out.size)
      clear ht4 hm4 hwr c7
      go_wp2_with fail
      go_roundw
      case rel => exact ⟨k + 1, R4, _, by go_num, by omega, by omega, HT4.out, by rw [writeT_next]; have := HN3.out; omega, (HTA.out.make _ _ (fewL_length _ _ _)).write _ _ _, HB4.out⟩
      case measure => simp [intOf]; omega
    · have hcond : (¬ (k : Int) < (qs.length : Int)) ∨ ((k : Int) < (qs.length : Int) ∧ ¬ (k : Int) < 30) := by omega
      clear hlt hnx
      have hwh := HTA.out.whole (F := 6) (Nat.le_refl _)
      obtain ⟨pa, nm, dp, o, d⟩ := HTA.out
      obtain ⟨x0, hx0, hi0⟩ : ∃ x ∈ S.ths, x.id = 0 := o.rootMem
      have HWL := hidden (lwalk_c (base := w.heap.size) (a := a) (R := R) o d 6 0 rfl x0 hx0 [] rfl (by rw [hi0]; rfl) (.slice none 0 0) wr HT.out ⟨none, 0, rfl, by simp, by simp [maxLen], fun _ => ⟨rfl, rfl⟩, fun ad e => by cases e⟩)
      rw [hi0, hwh.1, hwh.2] at HWL
      have HCO := hidden (fun W (HW : TS w.heap.size W R a S) => count_c HW.1)
      have HBY := hidden (fun W (HW : TS w.heap.size W R a S) => bytes_c HW.1)
      clear hwh o d hx0 hi0
      generalize S.ths.length = n1 at HWL HCO
      generalize sizeT S.ths = n2 at HWL HBY
      rcases hcond with h | ⟨h, h'⟩
      all_goals
        go_wp2_with fail
        refine HWL.out.mono ?_
        rintro e w2 ⟨rfl, hb2⟩
        have HT2 := hidden (HT.out.fresh hb2)
        have HB2 := hidden (HB.out.trans (hb2.mono HB.out.size))
        clear hb2
        go_wp2_with fail
        refine (HCO.out w2 HT2.out).mono ?_
        rintro e w3 ⟨rfl, rfl⟩
        go_wp2_with fail
        refine (HBY.out w3 HT2.out).mono ?_
        rintro e w4 ⟨rfl, rfl⟩
        go_wp2_with fail
        refine (known_c w4).mono ?_
        rintro e w5 ⟨rfl, hb5⟩
        have HB5 := hidden (HB2.out.trans (hb5.mono HB2.out.size))
        go_wp2_with fail
        go_ret
        exact ⟨rfl, HB5.out⟩
end Go.Proofs.Ytnigfnikajejaab
