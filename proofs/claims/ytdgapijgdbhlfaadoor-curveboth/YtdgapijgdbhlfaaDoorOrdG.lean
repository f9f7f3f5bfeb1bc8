/- The law 'region_ord', with what only makes new memory among what may change places with reads: the reads are walked first. -/
import Derived.Test.YtdgapijgdbhlfaaDoorOrdC
import Derived.Extends
namespace Go.Proofs.YtdgapijgdbhlfaaDoor
open Go

section
variable {P : Program} {ops : Array Oper} {md : Region.Mode} {N : Exit → Act → World → Prop} {C : List (TypeId × TypeId)} {cm : Nat → Nat → Bool}

/-- Where it yields it leaves the world alone, and yields the same in every world that has more memory. -/
def MonoS {α : Type} (P : Program) (s : Sem α) : Prop := ∀ (w : World) (a : α) (w1 : World), s.run P w = .ok a w1 → w1 = w ∧ ∀ w', w.Extends w' → s.run P w' = .ok a w'
theorem PureS.monoS {α : Type} {s : Sem α} (h : PureS P s) : MonoS P s := fun w a w1 e => ⟨(h w a w1 e).1, fun w' _ => (h w a w1 e).2 w'⟩
theorem MonoS.quiet {α : Type} {s : Sem α} (h : MonoS P s) : QuietS P s := fun w a w1 e => (h w a w1 e).1
theorem monoS_bind {α β : Type} {s : Sem α} {f : α → Sem β} (hs : MonoS P s) (hf : ∀ a, MonoS P (f a)) : MonoS P (s >>= f) := fun w b w1 e => by
  rw [Sem.run_bind] at e
  cases hr : s.run P w with
  | ok a w2 =>
    rw [hr] at e
    obtain ⟨rfl, h1⟩ := hs w a w2 hr
    simp only [Result.andThen] at e
    obtain ⟨rfl, h2⟩ := hf a w2 b w1 e
    exact ⟨rfl, fun w' hx => by rw [Sem.run_bind, h1 w' hx]; exact h2 w' hx⟩
  | halt x w2 => rw [hr] at e; simp [Result.andThen] at e
theorem seen_block {w w' : World} {at_ : Addr} {u : TypeId} {k : Addr} {b : Bool} (h : w'.heap[at_.block]? = w.heap[at_.block]?) : w'.seen P at_ u k b = w.seen P at_ u k b := by
  unfold World.seen
  rw [h]
theorem cell_lt {w : World} {a : Addr} {v : Value} (h : w.cell? a = some v) : a.block < w.heap.size := by
  refine Nat.lt_of_not_le fun hn => ?_
  unfold World.cell? at h
  rw [Array.getElem?_eq_none hn] at h
  simp at h
theorem seen_none {w : World} {at_ : Addr} {u : TypeId} {k : Addr} {b : Bool} (h : w.heap[at_.block]? = none) : ∃ why, w.seen P at_ u k b = .error why := by
  cases hs : w.seen P at_ u k b with
  | error why => exact ⟨why, rfl⟩
  | ok r =>
    exfalso
    unfold World.seen at hs
    rw [h] at hs
    simp only [bind, Except.bind] at hs
    repeat' split at hs
    all_goals simp at hs
theorem far_ext {w w' : World} (hx : w.Extends w') {a : Addr} {b : Bool} {r : Value × List Addr} (h : w.farLoad P a b = .ok r) : w'.farLoad P a b = .ok r := by
  unfold World.farLoad at h ⊢
  split at h
  · rename_i at_ u hb
    have hlt : a.block < w.heap.size := by
      refine Nat.lt_of_not_le fun hn => ?_
      rw [Array.getElem?_eq_none hn] at hb
      cases hb
    rw [hx.block _ hlt, hb]
    simp only []
    have hv : w'.viewLoad P at_ u a b = w.viewLoad P at_ u a b := by
      unfold World.viewLoad
      by_cases h2 : at_.block < w.heap.size
      · rw [seen_block (hx.block _ h2)]
      · exfalso
        obtain ⟨why, hw⟩ := seen_none (P := P) (w := w) (at_ := at_) (u := u) (k := a) (b := b) (Array.getElem?_eq_none (by omega))
        unfold World.viewLoad at h
        rw [hw] at h
        simp [bind, Except.bind] at h
    rw [hv]
    exact h
  · cases h
theorem monoS_load (a : Addr) (m : Mode) : MonoS P (load a m) := fun w v w1 e => by
  unfold load at e ⊢
  simp only [Sem.run] at e ⊢
  split at e
  · rename_i x hc
    simp at e
    obtain ⟨rfl, rfl⟩ := e
    exact ⟨rfl, fun w' hx => by rw [hx.cell a (cell_lt hc), hc]⟩
  · rename_i hc
    split at e
    · rename_i x l hf
      simp at e
      obtain ⟨rfl, rfl⟩ := e
      refine ⟨rfl, fun w' hx => ?_⟩
      have hlt : a.block < w.heap.size := by
        refine Nat.lt_of_not_le fun hn => ?_
        unfold World.farLoad at hf
        rw [Array.getElem?_eq_none hn] at hf
        cases hf
      rw [hx.cell a hlt, hc]
      simp only []
      rw [far_ext hx hf]
    · simp at e
theorem monoS_loadCellsFrom (a : Addr) : ∀ (n i : Nat) (acc : Array Value), MonoS P (loadCellsFrom a i n acc)
  | 0, i, acc => by unfold loadCellsFrom; exact (pureS_pure _).monoS
  | n + 1, i, acc => by
    unfold loadCellsFrom
    exact monoS_bind (monoS_load _ _) fun v => monoS_loadCellsFrom a n (i + 1) _
theorem monoS_loadAt (t : TypeId) (v : Value) : MonoS P (Instr.loadAt t v) := by
  unfold Instr.loadAt
  refine monoS_bind (pureS_sureAddr v).monoS fun a => ?_
  unfold loadVar
  refine monoS_bind (pureS_isAgg t).monoS fun b => ?_
  split
  · refine monoS_bind (pureS_sizeOf t).monoS fun n => ?_
    exact monoS_bind (monoS_loadCellsFrom a n 0 #[]) fun _ => (pureS_pure _).monoS
  · exact monoS_load _ _
theorem monoS_forIn {α β : Type} (f : α → β → Sem (ForInStep β)) (hf : ∀ x b, MonoS P (f x b)) : ∀ (l : List α) (b : β), MonoS P (forIn l b f)
  | [], b => by rw [List.forIn_nil]; exact (pureS_pure _).monoS
  | x :: l, b => by
    rw [List.forIn_cons]
    refine monoS_bind (hf x b) fun r => ?_
    split
    · exact (pureS_pure _).monoS
    · exact monoS_forIn f hf l _
theorem monoS_loadCells (a : Addr) (n : Nat) : MonoS P (loadCells a n) := by
  unfold loadCells
  first | exact monoS_loadCellsFrom a n 0 #[] | exact monoS_loadCellsFrom a _ _ _
theorem monoS_bytesToString (v : Value) : MonoS P (Conv.bytesToString v) := by
  unfold Conv.bytesToString
  split
  · exact (pureS_pure _).monoS
  · refine monoS_bind (monoS_loadCells _ _) fun cs => ?_
    rw [← Array.forIn_toList]
    refine monoS_bind (monoS_forIn _ (fun x b => ?_) _ _) fun r => (pureS_pure _).monoS
    split
    · exact (pureS_pure _).monoS
    · exact (pureS_halt _).monoS
  · exact (pureS_halt _).monoS
/-- A byte slice as a string: memory is only read. -/
theorem monoS_bytes {s d e : TypeId} (hs : P.underlying s = some (.slice e)) (he : P.underlying e = some (.int .u8)) (hd : P.underlying d = some .string) (v : Value) : MonoS P (convert s d v) := by
  intro w a w1 h
  cases v
  case string x =>
    simp [convert, run_underlying hs, run_underlying hd] at h
    exact ⟨h.2.symm, fun w' _ => by simp [convert, run_underlying hs, run_underlying hd]; exact h.1⟩
  case int k n =>
    simp [convert, run_underlying hs, run_underlying hd, Conv.intToString] at h
    exact ⟨h.2.symm, fun w' _ => by simp [convert, run_underlying hs, run_underlying hd, Conv.intToString]; exact h.1⟩
  all_goals
    simp [convert, run_underlying hs, run_underlying hd, run_underlying he] at h
    obtain ⟨h1, h2⟩ := monoS_bytesToString _ w a w1 h
    exact ⟨h1, fun w' hx => by simp [convert, run_underlying hs, run_underlying hd, run_underlying he]; exact h2 w' hx⟩

def MonoOp (P : Program) (o : Oper) : Prop := ∀ (ρ : Operand → Value) (w : World) (n : Next) (w1 : World), (execOp ρ o).run P w = .ok n w1 → ∃ v, n = .value v ∧ w1 = w ∧ ∀ w', w.Extends w' → (execOp ρ o).run P w' = .ok (.value v) w'
def GrowOp (P : Program) (o : Oper) : Prop := ∀ (ρ : Operand → Value) (w : World) (n : Next) (w1 : World), (execOp ρ o).run P w = .ok n w1 → ∃ v, n = .value v ∧ w.Extends w1
theorem monoOp_of {o : Oper} (f : (Operand → Value) → Sem Value) (hf : ∀ ρ, MonoS P (f ρ)) (h : ∀ ρ, execOp ρ o = do pure (.value (← f ρ))) : MonoOp P o := fun ρ w n w1 e => by
  rw [h ρ, Sem.run_bind] at e
  cases hr : (f ρ).run P w with
  | ok a w2 =>
    rw [hr] at e
    obtain ⟨rfl, h1⟩ := hf ρ w a w2 hr
    simp [Result.andThen] at e
    obtain ⟨rfl, rfl⟩ := e
    exact ⟨a, rfl, rfl, fun w' hx => by rw [h ρ, Sem.run_bind, h1 w' hx]; simp [Result.andThen]⟩
  | halt x w2 => rw [hr] at e; simp [Result.andThen] at e
/-- Where it yields, memory has only grown. -/
def GrowS {α : Type} (P : Program) (s : Sem α) : Prop := ∀ (w : World) (a : α) (w1 : World), s.run P w = .ok a w1 → w.Extends w1
theorem QuietS.grow {α : Type} {s : Sem α} (h : QuietS P s) : GrowS P s := fun w a w1 e => by rw [h w a w1 e]; exact World.Extends.refl w
theorem growS_bind {α β : Type} {s : Sem α} {f : α → Sem β} (hs : GrowS P s) (hf : ∀ a, GrowS P (f a)) : GrowS P (s >>= f) := fun w b w1 e => by
  rw [Sem.run_bind] at e
  cases hr : s.run P w with
  | ok a w2 =>
    rw [hr] at e
    simp only [Result.andThen] at e
    exact (hs w a w2 hr).trans (hf a w2 b w1 e)
  | halt x w2 => rw [hr] at e; simp [Result.andThen] at e
theorem growOp_of {o : Oper} (f : (Operand → Value) → Sem Value) (hf : ∀ ρ, GrowS P (f ρ)) (h : ∀ ρ, execOp ρ o = do pure (.value (← f ρ))) : GrowOp P o := fun ρ w n w1 e => by
  rw [h ρ, Sem.run_bind] at e
  cases hr : (f ρ).run P w with
  | ok a w2 =>
    rw [hr] at e
    have hx := hf ρ w a w2 hr
    simp [Result.andThen] at e
    obtain ⟨rfl, rfl⟩ := e
    exact ⟨a, rfl, hx⟩
  | halt x w2 => rw [hr] at e; simp [Result.andThen] at e
theorem growS_never {α : Type} {s : Sem α} (h : ∀ w b w1, s.run P w ≠ .ok b w1) : GrowS P s := fun w b w1 e => absurd e (h w b w1)
theorem runtimePanic_never {α : Type} (m : String) : ∀ w (b : α) w1, (runtimePanic (.error m) : Sem α).run P w ≠ .ok b w1 := fun w b w1 e => by
  unfold runtimePanic at e
  rw [Sem.run_bind] at e
  simp [program, Sem.run, Result.andThen, goPanic] at e
theorem growS_newRow (t : TypeId) (cs : Array Value) : GrowS P (newRow t cs) := fun w a w1 e => by
  unfold newRow newObj at e
  rw [Sem.run_bind] at e
  simp [Sem.run, Result.andThen] at e
  rw [← e.2]
  exact (World.Extends.refl w).alloc _
theorem growS_zeroValue (t : TypeId) : GrowS P (zeroValue t) := by
  unfold zeroValue
  refine growS_bind (pureS_typeInfo t).quiet.grow fun i => ?_
  split
  · exact (pureS_pure _).quiet.grow
  · exact (pureS_halt _).quiet.grow
theorem growS_askRoom (n : Nat) : GrowS P (askRoom n) := by
  unfold askRoom
  split
  · intro w a w1 e
    simp [mark, Sem.run] at e
    rw [← e]
    exact World.Extends.refl w
  · exact (pureS_pure _).quiet.grow
theorem growS_asInt (v : Value) : GrowS P (asInt v) := by
  unfold asInt
  exact growS_bind (pureS_asIntOf v).quiet.grow fun _ => (pureS_pure _).quiet.grow
theorem growS_makeSlice (t : TypeId) (l c : Value) : GrowS P (Instr.makeSlice t l c) := by
  unfold Instr.makeSlice
  refine growS_bind (pureS_underlying t).quiet.grow fun d => ?_
  split
  · refine growS_bind (growS_asInt _) fun l => growS_bind (growS_asInt _) fun c => growS_bind (pureS_typeInfo _).quiet.grow fun i => ?_
    simp only []
    have hrest : ∀ (b : Nat) (e : TypeId) (l c : Int), GrowS P (do
        askRoom (c.toNat * b)
        let n := c.toNat * (← sizeOf e)
        let zero ← if n = 0 then pure #[] else do pure (← zeroValue e).cells
        let a ← newRow e ((Array.range n).map (zero[· % zero.size]!))
        pure (.slice (some a) l.toNat c.toNat) : Sem Value) := fun b e l c => by
      refine growS_bind (growS_askRoom _) fun _ => growS_bind (pureS_sizeOf _).quiet.grow fun n => ?_
      simp only []
      split
      · exact growS_bind (pureS_pure _).quiet.grow fun z => growS_bind (growS_newRow _ _) fun a => (pureS_pure _).quiet.grow
      · exact growS_bind (growS_zeroValue _) fun _ => growS_bind (pureS_pure _).quiet.grow fun z => growS_bind (growS_newRow _ _) fun a => (pureS_pure _).quiet.grow
    split
    · split
      · exact growS_bind (growS_never (runtimePanic_never _)) fun _ => hrest _ _ _ _
      · split
        · exact growS_bind (growS_never (runtimePanic_never _)) fun _ => hrest _ _ _ _
        · exact growS_never fun w b w1 e => by
            rw [Sem.run_bind] at e
            cases hr : (choose (.extern "makeslice.lenOrCap" 2)).run P w with
            | ok x w2 =>
              rw [hr] at e
              simp only [Result.andThen] at e
              rw [Sem.run_bind] at e
              revert e
              generalize (if (x == 1) = true then _ else _ : String) = m
              intro e
              cases hr2 : (runtimePanic (.error m) : Sem PUnit).run P w2 with
              | ok y w3 => exact runtimePanic_never _ _ _ _ hr2
              | halt y w3 => rw [hr2] at e; simp [Result.andThen] at e
            | halt x w2 => rw [hr] at e; simp [Result.andThen] at e
    · exact hrest _ _ _ _
  · exact (pureS_halt _).quiet.grow
end

section
variable {P : Program} {ops : Array Oper} {md : Region.Mode} {N : Exit → Act → World → Prop} {C : List (TypeId × TypeId)} {cm : Nat → Nat → Bool}
theorem yieldsExt_of_wpOp {k : Nat} {o : Oper} (hk : ops[k]? = some o) (hp : MonoOp P o) (hN : Strict N) {K : Act → World → Prop} {a : Act} {w : World} (h : wpOp P ops N k K a w) : ∃ v, YieldsIf P ops (fun x => w.Extends x) o v a ∧ K (a.put o.dst v) w := by
  unfold wpOp at h
  simp only [hk] at h
  split at h
  · rename_i hw
    rcases h with h | ⟨_, h⟩
    · unfold Oper.wp at h
      cases hr : (execOp a.eval o).run P w with
      | ok n w1 =>
        obtain ⟨v, rfl, rfl, h3⟩ := hp _ _ _ _ hr
        rw [hr] at h
        exact ⟨v, .inl ⟨hw, h3⟩, h⟩
      | halt x w1 =>
        rw [hr] at h
        cases x <;> simp only [Oper.upon] at h
        exact absurd h (hN.1 _ _ _)
    · exact absurd h hN.2
  · rename_i hw
    exact ⟨undef, .inr ⟨by simpa using hw, rfl⟩, h⟩
theorem ext_of_grow {j : Nat} {o : Oper} (hj : ops[j]? = some o) (hq : GrowOp P o) {K : Act → World → Prop} {a : Act} {w : World} (h : wpOp P ops N j K a w) : wpOp P ops N j (fun a' w' => w.Extends w' ∧ K a' w') a w := by
  unfold wpOp at *
  simp only [hj] at *
  split
  · rename_i hw
    simp only [hw, if_true] at h
    refine h.imp (fun h => ?_) id
    unfold Oper.wp at *
    cases hr : (execOp a.eval o).run P w with
    | ok n w1 =>
      obtain ⟨v, rfl, hx⟩ := hq _ _ _ _ hr
      rw [hr] at h
      exact ⟨hx, h⟩
    | halt x w1 => rw [hr] at h; cases x <;> simp only [Oper.upon] at h ⊢ <;> exact h
  · rename_i hw
    simp only [hw] at h
    exact ⟨World.Extends.refl w, h⟩
theorem comm_grow {k j : Nat} {ok oj : Oper} (hk : ops[k]? = some ok) (hj : ops[j]? = some oj) (hp : MonoOp P ok) (hq : GrowOp P oj) (hap : ok.apart ops oj = true) (hsel : Region.noSelect ops = true) (hN : Strict N)
    {K : Act → World → Prop} {a : Act} {w : World} (h : wpOp P ops N k (wpOp P ops N j K) a w) : wpOp P ops N j (wpOp P ops N k K) a w := by
  obtain ⟨v, hy, h1⟩ := yieldsExt_of_wpOp hk hp hN h
  have h2 := wpOp_putIf hj hap (fun cs b => Region.noSelect_spec hsel k ok cs b hk) (fun cs b => Region.noSelect_spec hsel j oj cs b hj) (fun c a w hh => absurd hh (hN.1 _ _ _)) hy h1
  exact wpOp_mono (fun a' w' h3 => h3.2.1.wpOp hk h3.1 h3.2.2) (ext_of_grow hj hq h2)

/-- These pairs may change places: the first, walked ahead, may come behind. -/
def MayG (P : Program) (ops : Array Oper) (cm : Nat → Nat → Bool) : Prop := ∀ (N : Exit → Act → World → Prop), Strict N → ∀ k j, cm k j = true → ∀ (K : Act → World → Prop) (a : Act) (w : World), wpOp P ops N k (wpOp P ops N j K) a w → wpOp P ops N j (wpOp P ops N k K) a w

def growKind : Op → Bool
  | .makeSlice _ _ _ => true
  | _ => false
theorem growOp_kind {o : Oper} (h : growKind o.op = true) : GrowOp P o := by
  obtain ⟨dst, op, type, pos, after, guard⟩ := o
  cases op <;> simp [growKind] at h
  case makeSlice t l c => exact growOp_of (fun ρ => Instr.makeSlice t (ρ l) (ρ c)) (fun ρ => growS_makeSlice _ _ _) fun ρ => rfl
theorem monoOp_kind (hC : ∀ s d, C.contains (s, d) = true → ∀ v, MonoS P (convert s d v)) {o : Oper} (h : opKindC C o.op ≤ 1) : MonoOp P o := by
  by_cases h0 : opKindC C o.op = 0
  · intro ρ w n w1 e
    obtain ⟨v, h1, h2, h3⟩ := pureOp_kindC h0 ρ w n w1 e
    exact ⟨v, h1, h2, fun w' _ => h3 w'⟩
  · obtain ⟨dst, op, type, pos, after, guard⟩ := o
    cases op <;> simp [opKindC, opKind] at h h0
    case load t a => exact monoOp_of (fun ρ => Instr.loadAt t (ρ a)) (fun ρ => monoS_loadAt _ _) fun ρ => rfl
    case convert s d x =>
      have hc : C.contains (s, d) = true := by
        by_cases hc : C.contains (s, d) = true
        · exact hc
        · simp at hc; simp [hc] at h
      exact monoOp_of (fun ρ => convert s d (ρ x)) (fun ρ => hC s d hc _) fun ρ => rfl
/-- What looks at no memory with all, reads with reads, reads with what only makes new memory. -/
def commOkG (C : List (TypeId × TypeId)) (ops : Array Oper) (k j : Nat) : Bool :=
  match ops[k]?, ops[j]? with
  | some ok, some oj => ok.apart ops oj && (opKindC C ok.op == 0 || (decide (opKindC C ok.op ≤ 1) && (decide (opKindC C oj.op ≤ 1) || growKind oj.op)))
  | _, _ => false
theorem mayG (hC : ∀ s d, C.contains (s, d) = true → ∀ v, MonoS P (convert s d v)) (hsel : Region.noSelect ops = true) : MayG P ops (commOkG C ops) := fun N hN k j hc K a w h => by
  unfold commOkG at hc
  split at hc
  · rename_i ok oj hk hj
    simp only [Bool.and_eq_true, Bool.or_eq_true, beq_iff_eq, decide_eq_true_eq] at hc
    rcases hc.2 with h0 | ⟨h1, h2 | h2⟩
    · exact comm_pure hk hj (pureOp_kindC h0) hc.1 hsel hN h
    · exact comm_quiet hk hj (quietOp_kindC (fun s d hx v => (hC s d hx v).quiet) h1) (quietOp_kindC (fun s d hx v => (hC s d hx v).quiet) h2) hc.1 hsel hN h
    · exact comm_grow hk hj (monoOp_kind hC h1) (growOp_kind h2) hc.1 hsel hN h
  · cases hc

/-- j, brought to the front of those that it may change places with. -/
theorem to_frontG (hcm : MayG P ops cm) (hN : Strict N) {j : Nat} {post : List Nat} : ∀ (pre : List Nat), (∀ k ∈ pre, cm k j = true) → ∀ (a : Act) (w : World),
    wpOps P ops N (pre ++ j :: post) a w → wpOp P ops N j (wpOps P ops N (pre ++ post)) a w
  | [], _, a, w, h => by rw [List.nil_append, wpOps_cons] at h; exact h
  | k :: pre, hc, a, w, h => by
    rw [List.cons_append, wpOps_cons] at h
    have h1 := wpOp_mono (fun a' w' h' => to_frontG hcm hN pre (fun x hx => hc x (List.mem_cons_of_mem _ hx)) a' w' h') h
    have h2 := hcm N hN k j (hc k (List.mem_cons_self)) _ a w h1
    refine wpOp_mono (fun a' w' h' => ?_) h2
    rw [List.cons_append, wpOps_cons]
    exact h'

def pairOkG (cm : Nat → Nat → Bool) (md : Region.Mode) (ops : Array Oper) (ms : List Nat) (k j : Nat) : Bool := k != j && (cm k j || (ms.getD j 0).testBit k) && !edgeTo md ops k j
def okPairsG (cm : Nat → Nat → Bool) (md : Region.Mode) (ops : Array Oper) (ms : List Nat) : List Nat → Bool
  | [] => true
  | k :: rest => rest.all (pairOkG cm md ops ms k) && okPairsG cm md ops ms rest
def okOrdG (cm : Nat → Nat → Bool) (md : Region.Mode) (ops : Array Oper) (ord : List Nat) : Bool :=
  ord.all (fun i => decide (i < ops.size)) && (List.range ops.size).all ord.contains && ord.length == ops.size &&
  (List.range ops.size).all (fun k => (afterOf ops k).all fun e => !Region.binds md e || (decide (e.on < ops.size) && e.on != k)) &&
  okPairsG cm md ops (masks md ops ops.size) ord
theorem okPairs_specG {ms : List Nat} : ∀ {ord : List Nat}, okPairsG cm md ops ms ord = true → ord.Pairwise fun k j => pairOkG cm md ops ms k j = true
  | [], _ => List.Pairwise.nil
  | k :: rest, h => by
    simp only [okPairsG, Bool.and_eq_true, List.all_eq_true] at h
    exact List.Pairwise.cons h.1 (okPairs_specG h.2)

theorem wpAny_ordG (hcm : MayG P ops cm) (hN : Strict N)
    (hself : ∀ k o, ops[k]? = some o → ∀ e ∈ o.after, Region.binds md e = true → e.on < ops.size ∧ e.on ≠ k) :
    ∀ (fuel : Nat) (listed : Array Bool) (rem : List Nat) (a : Act) (w : World), rem.length = fuel → listed.size = ops.size → (∀ i ∈ rem, i < ops.size) →
      (∀ i, i < ops.size → (listed.getD i false = false ↔ i ∈ rem)) → rem.Pairwise (fun k j => pairOkG cm md ops (masks md ops ops.size) k j = true) →
      (∀ m o, ops[m]? = some o → listed.getD m false = true → ∀ e ∈ o.after, Region.binds md e = true → listed.getD e.on false = true) →
      wpOps P ops N rem a w → wpAny P md ops N fuel listed a w := by
  intro fuel
  induction fuel with
  | zero =>
    intro listed rem a w hl hsz hlt hiff hpw hdown h
    obtain rfl : rem = [] := List.eq_nil_of_length_eq_zero hl
    refine ⟨List.eq_nil_iff_forall_not_mem.2 fun j hj => ?_, h⟩
    obtain ⟨h0, o, ho, _⟩ := mem_ready.1 hj
    have hjlt := (Array.getElem?_eq_some_iff.1 ho).1
    rw [getD_size hsz hjlt] at h0
    cases (hiff j hjlt).1 h0
  | succ fuel ih =>
    intro listed rem a w hl hsz hlt hiff hpw hdown h
    refine ⟨fun h0 => ?_, fun j hj => ?_⟩
    · cases rem with
      | nil => simp at hl
      | cons i rest =>
        exfalso
        have hi := hlt i List.mem_cons_self
        have hin : i ∈ Region.ready md ops listed := by
          refine mem_ready.2 ⟨by rw [getD_size hsz hi]; exact (hiff i hi).2 List.mem_cons_self, ops[i], Array.getElem?_eq_getElem hi, fun e he hb => ?_⟩
          obtain ⟨h1, h2⟩ := hself i _ (Array.getElem?_eq_getElem hi) e he hb
          cases hx : listed.getD e.on false with
          | true => rfl
          | false =>
            rcases List.mem_cons.1 ((hiff e.on h1).1 hx) with h3 | h3
            · exact absurd h3 h2
            · have h4 := (List.pairwise_cons.1 hpw).1 e.on h3
              simp only [pairOkG, Bool.and_eq_true, Bool.not_eq_true'] at h4
              have h5 : edgeTo md ops i e.on = true := by
                unfold edgeTo afterOf
                rw [Array.getElem?_eq_getElem hi]
                exact List.any_eq_true.2 ⟨e, by simpa using he, by simp [hb]⟩
              rw [h4.2] at h5
              cases h5
        rw [h0] at hin
        cases hin
    · obtain ⟨h0, o, ho, hall⟩ := mem_ready.1 hj
      have hjlt := (Array.getElem?_eq_some_iff.1 ho).1
      rw [getD_size hsz hjlt] at h0
      obtain ⟨pre, post, rfl⟩ := List.append_of_mem ((hiff j hjlt).1 h0)
      obtain ⟨hp1, hp2, hp3⟩ := List.pairwise_append.1 hpw
      have hne : ∀ k ∈ pre ++ post, k ≠ j := by
        intro k hk
        rcases List.mem_append.1 hk with hk | hk
        · have := hp3 k hk j List.mem_cons_self
          simp only [pairOkG, Bool.and_eq_true, bne_iff_ne] at this
          exact this.1.1
        · have := (List.pairwise_cons.1 hp2).1 k hk
          simp only [pairOkG, Bool.and_eq_true, bne_iff_ne] at this
          exact fun e => this.1.1 e.symm
      have hcomm : ∀ k ∈ pre, cm k j = true := by
        intro k hk
        have h1 := hp3 k hk j List.mem_cons_self
        simp only [pairOkG, Bool.and_eq_true, Bool.or_eq_true] at h1
        rcases h1.1.2 with h2 | h2
        · exact h2
        · exfalso
          have hklt := hlt k (List.mem_append_left _ hk)
          have hku := (hiff k hklt).2 (List.mem_append_left _ hk)
          rw [masks_at hjlt] at h2
          obtain ⟨e, he, hb1, he2, h3⟩ := maskOf_bit h2
          unfold afterOf at he
          rw [ho] at he
          have he' : e ∈ o.after := by simpa using he
          have h4 := hall e he' hb1
          rcases h3 with rfl | h3
          · rw [hku] at h4; cases h4
          · exact waits_not (n := j) hdown hku e.on he2 h3 h4
      refine wpOp_mono (fun a' w' h' => ih (listed.setIfInBounds j true) (pre ++ post) a' w' (by simp at hl ⊢; omega) (by simpa using hsz) (fun i hi => hlt i ?_) (fun i hi => ?_) ?_ ?_ h') (to_frontG hcm hN pre hcomm a w h)
      · rcases List.mem_append.1 hi with hi | hi
        · exact List.mem_append_left _ hi
        · exact List.mem_append_right _ (List.mem_cons_of_mem _ hi)
      · by_cases hij : i = j
        · subst hij
          constructor
          · intro h1
            have : i < listed.size := by omega
            simp [this] at h1
          · intro h1
            exact absurd rfl (hne i h1)
        · rw [getD_set_ne false (fun e => hij e.symm), hiff i hi]
          simp [hij]
      · exact hpw.sublist (List.Sublist.append_left (List.sublist_cons_self _ _) _)
      · intro m om hm hml e he hb
        by_cases hmj : m = j
        · subst hmj
          rw [ho] at hm
          cases hm
          exact getD_set_true (hall e he hb)
        · rw [getD_set_ne false (fun e => hmj e.symm)] at hml
          exact getD_set_true (hdown m om hm hml e he hb)

/-- A region that draws its order, walked once in the order 'ord'. -/
theorem region_ordG {id : Nat} {Q : Exit → Act → World → Prop} {a : Act} {w : World} (cm : Nat → Nat → Bool) (hcm : MayG P ops cm) (ord : List Nat) (hc : okOrdG cm .any ops ord = true) (hm : P.follows .mixedOrders = true)
    (h : ∀ N : Exit → Act → World → Prop, (∀ a w, Q .normal a w → N .normal a w) → wpList P ops N (ord.filterMap (ops[·]?)) a w.drew) : (Code.region id ops true).wp P Q a w := by
  simp only [okOrdG, Bool.and_eq_true, List.all_eq_true, decide_eq_true_eq, beq_iff_eq, List.mem_range, List.contains_eq_mem] at hc
  obtain ⟨⟨⟨⟨h2, h3⟩, h4⟩, h5⟩, h6⟩ := hc
  refine Code.wp_mono (Q := only (Q .normal)) (fun e a w hq => by cases e <;> first | exact hq | exact (hq : False).elim) (wp_region_any hm ?_)
  refine wpAny_ordG hcm (strict_only _) (fun k o ho e he hb => ?_) ops.size _ ord a _ h4 (by simp) h2 (fun i hi => ?_) (okPairs_specG h6) (fun m o ho hl => ?_) ?_
  · have hk := (Array.getElem?_eq_some_iff.1 ho).1
    have := h5 k hk e (by unfold afterOf; rw [ho]; simpa using he)
    simp [hb] at this
    exact this
  · simp [hi]
    exact h3 i hi
  · have hk := (Array.getElem?_eq_some_iff.1 ho).1
    simp [hk] at hl
  · rw [wpOps_filterMap ord h2]
    exact h (only (Q .normal)) (fun _ _ h => h)
end
end Go.Proofs.YtdgapijgdbhlfaaDoor
