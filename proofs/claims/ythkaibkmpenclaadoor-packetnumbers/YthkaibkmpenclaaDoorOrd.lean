/- A region that draws its order, walked once, in an order of the prover's choice: operations that look at no memory, and loads among themselves, may change places. -/
import Derived.OrdersHeld
import Derived.Tactics
import Derived.Laws.Sem
namespace Go.Proofs.YthkaibkmpenclaaDoor
open Go

section
variable {P : Program} {ops : Array Oper} {md : Region.Mode}

/-- Behind the normal exit K, behind every other nothing. -/
def only (K : Act → World → Prop) : Exit → Act → World → Prop
  | .normal, a, w => K a w
  | _, _, _ => False
theorem only_lets {K : Act → World → Prop} (h : LetsOut (only K)) : False := by obtain ⟨a, w, h⟩ := h; exact h

/-- Where it yields it leaves the world alone, and yields the same in every other. -/
def PureS {α : Type} (P : Program) (s : Sem α) : Prop := ∀ (w : World) (a : α) (w1 : World), s.run P w = .ok a w1 → w1 = w ∧ ∀ w', s.run P w' = .ok a w'
/-- Where it yields it leaves the world alone. -/
def QuietS {α : Type} (P : Program) (s : Sem α) : Prop := ∀ (w : World) (a : α) (w1 : World), s.run P w = .ok a w1 → w1 = w

theorem PureS.quiet {α : Type} {s : Sem α} (h : PureS P s) : QuietS P s := fun w a w1 e => (h w a w1 e).1
theorem pureS_pure {α : Type} (a : α) : PureS P (pure a : Sem α) := fun w b w1 e => by
  simp at e
  obtain ⟨rfl, rfl⟩ := e
  exact ⟨rfl, fun _ => by simp⟩
theorem pureS_bind {α β : Type} {s : Sem α} {f : α → Sem β} (hs : PureS P s) (hf : ∀ a, PureS P (f a)) : PureS P (s >>= f) := fun w b w1 e => by
  rw [Sem.run_bind] at e
  cases hr : s.run P w with
  | ok a w2 =>
    rw [hr] at e
    obtain ⟨rfl, h1⟩ := hs w a w2 hr
    simp only [Result.andThen] at e
    obtain ⟨rfl, h2⟩ := hf a w2 b w1 e
    exact ⟨rfl, fun w' => by rw [Sem.run_bind, h1 w']; exact h2 w'⟩
  | halt x w2 => rw [hr] at e; simp [Result.andThen] at e
theorem quietS_bind {α β : Type} {s : Sem α} {f : α → Sem β} (hs : QuietS P s) (hf : ∀ a, QuietS P (f a)) : QuietS P (s >>= f) := fun w b w1 e => by
  rw [Sem.run_bind] at e
  cases hr : s.run P w with
  | ok a w2 =>
    rw [hr] at e
    obtain rfl := hs w a w2 hr
    simp only [Result.andThen] at e
    exact hf a w2 b w1 e
  | halt x w2 => rw [hr] at e; simp [Result.andThen] at e
theorem pureS_halt {α : Type} (x : Halt) : PureS P (.halt x : Sem α) := fun w b w1 e => by simp [Sem.run] at e
theorem pureS_program : PureS P program := fun w b w1 e => by
  simp [program, Sem.run] at e
  obtain ⟨rfl, rfl⟩ := e
  exact ⟨rfl, fun _ => by simp [program, Sem.run]⟩
theorem pureS_never {α β : Type} {s : Sem α} {f : α → Sem β} (hf : ∀ a w b w1, (f a).run P w ≠ .ok b w1) : PureS P (s >>= f) := fun w b w1 e => by
  rw [Sem.run_bind] at e
  cases hr : s.run P w with
  | ok a w2 => rw [hr] at e; exact absurd e (hf a w2 b w1)
  | halt x w2 => rw [hr] at e; simp [Result.andThen] at e
theorem pureS_bounds {α : Type} (k : IntKind) (x y : Int) (c : BoundsCode) : PureS P (boundsPanic k x y c : Sem α) := by
  have hn : ∀ (r : Bool) w (b : α) w1, (runtimePanic (.bounds (IntKind.i64.wrap x) y r c) : Sem α).run P w ≠ .ok b w1 := fun r w b w1 e => by
    unfold runtimePanic at e
    rw [Sem.run_bind] at e
    simp [program, Sem.run, Result.andThen, goPanic] at e
  unfold boundsPanic
  simp only []
  split
  · exact pureS_never hn
  · exact pureS_never hn
theorem pureS_nilDeref {α : Type} : PureS P (runtimePanic .nilDeref : Sem α) := by
  unfold runtimePanic
  refine pureS_never fun a w b w1 e => ?_
  simp [goPanic] at e
theorem pureS_underlying (t : TypeId) : PureS P (underlying t) := by
  unfold underlying
  refine pureS_bind pureS_program fun p => ?_
  split
  · exact pureS_pure _
  · exact pureS_halt _
theorem pureS_typeInfo (t : TypeId) : PureS P (typeInfo t) := by
  unfold typeInfo
  refine pureS_bind pureS_program fun p => ?_
  split
  · exact pureS_pure _
  · exact pureS_halt _
theorem pureS_sizeOf (t : TypeId) : PureS P (sizeOf t) := by
  unfold sizeOf
  exact pureS_bind (pureS_typeInfo t) fun _ => pureS_pure _
theorem pureS_isAgg (t : TypeId) : PureS P (isAgg t) := by
  unfold isAgg
  refine pureS_bind (pureS_underlying t) fun d => ?_
  split <;> exact pureS_pure _
theorem pureS_part (t : TypeId) (cs : Array Value) (off : Nat) : PureS P (part t cs off) := by
  unfold part
  refine pureS_bind (pureS_isAgg t) fun b => ?_
  split
  · exact pureS_bind (pureS_sizeOf t) fun _ => pureS_pure _
  · split
    · exact pureS_pure _
    · exact pureS_halt _
theorem pureS_asIntOf (v : Value) : PureS P (asIntOf v) := by
  unfold asIntOf
  split
  · exact pureS_pure _
  · exact pureS_halt _
  · exact pureS_halt _
theorem pureS_sureAddr (v : Value) : PureS P (Instr.sureAddr v) := by
  unfold Instr.sureAddr
  split
  · exact pureS_pure _
  · exact pureS_halt _
theorem pureS_follow : ∀ (l : List FieldStep) (t : TypeId) (x : Option Value), PureS P (followBlind l t x)
  | [], t, x => by unfold followBlind; exact pureS_pure _
  | s :: rest, t, x => by
    unfold followBlind
    refine pureS_bind (pureS_underlying _) fun d => ?_
    split
    · split
      · split
        · exact pureS_pure _
        · exact pureS_follow rest _ _
        · exact pureS_halt _
        · exact pureS_pure _
        · exact pureS_bind (pureS_part _ _ _) fun _ => pureS_follow rest _ _
        · exact pureS_halt _
        · exact pureS_follow rest _ _
      · exact pureS_halt _
    · exact pureS_halt _
theorem pureS_nilAhead : ∀ (fuel : Nat) (t : TypeId) (v : Value) (name : String), PureS P (nilAhead fuel t v name)
  | 0, t, v, name => by unfold nilAhead; exact pureS_pure _
  | fuel + 1, t, v, name => by
    unfold nilAhead
    refine pureS_bind (pureS_typeInfo _) fun i => ?_
    split
    · refine pureS_bind (pureS_follow _ _ _) fun r => ?_
      split
      · exact pureS_pure _
      · split
        · exact pureS_nilAhead fuel _ _ _
        · exact pureS_pure _
        · exact pureS_halt _
        · exact pureS_pure _
        · exact pureS_pure _
        · refine pureS_bind (pureS_underlying _) fun d => ?_
          split <;> exact pureS_pure _
    · exact pureS_halt _
theorem pureS_ite {α : Type} {c : Prop} [Decidable c] {x y : Sem α} (hx : PureS P x) (hy : PureS P y) : PureS P (if c then x else y) := by
  split
  · exact hx
  · exact hy
theorem pureS_indexAt (t : TypeId) (x i : Value) : PureS P (Instr.indexAt t x i) := by
  unfold Instr.indexAt
  refine pureS_bind (pureS_asIntOf i) fun ki => ?_
  obtain ⟨k, i⟩ := ki
  refine pureS_bind (pureS_underlying t) fun d => ?_
  simp only []
  split
  · refine pureS_bind (pureS_sureAddr _) fun _ => pureS_bind (pureS_pure _) fun r => ?_
    refine pureS_bind (pureS_underlying t) fun d2 => ?_
    split
    · refine pureS_ite (pureS_bind (pureS_sizeOf _) fun _ => pureS_pure _) (pureS_ite (pureS_halt _) (pureS_bounds _ _ _ _))
    · exact pureS_bounds _ _ _ _
  · refine pureS_bind (pureS_pure _) fun r => ?_
    refine pureS_bind (pureS_underlying t) fun d2 => ?_
    split
    · refine pureS_ite (pureS_bind (pureS_sizeOf _) fun _ => pureS_pure _) (pureS_ite (pureS_halt _) (pureS_bounds _ _ _ _))
    · exact pureS_bounds _ _ _ _
  · refine pureS_bind (pureS_halt _) fun r => ?_
    refine pureS_bind (pureS_underlying t) fun d2 => ?_
    split
    · refine pureS_ite (pureS_bind (pureS_sizeOf _) fun _ => pureS_pure _) (pureS_ite (pureS_halt _) (pureS_bounds _ _ _ _))
    · exact pureS_bounds _ _ _ _
theorem pureS_extract (t : Value) (i : Nat) : PureS P (Instr.extract t i) := by
  unfold Instr.extract
  split
  · split
    · exact pureS_pure _
    · exact pureS_halt _
  · exact pureS_halt _

def PureOp (P : Program) (o : Oper) : Prop := ∀ (ρ : Operand → Value) (w : World) (n : Next) (w1 : World), (execOp ρ o).run P w = .ok n w1 → ∃ v, n = .value v ∧ w1 = w ∧ ∀ w', (execOp ρ o).run P w' = .ok (.value v) w'
def QuietOp (P : Program) (o : Oper) : Prop := ∀ (ρ : Operand → Value) (w : World) (n : Next) (w1 : World), (execOp ρ o).run P w = .ok n w1 → ∃ v, n = .value v ∧ w1 = w

theorem pureOp_of {o : Oper} (f : (Operand → Value) → Sem Value) (hf : ∀ ρ, PureS P (f ρ)) (h : ∀ ρ, execOp ρ o = do pure (.value (← f ρ))) : PureOp P o := fun ρ w n w1 e => by
  rw [h ρ, Sem.run_bind] at e
  cases hr : (f ρ).run P w with
  | ok a w2 =>
    rw [hr] at e
    obtain ⟨rfl, h1⟩ := hf ρ w a w2 hr
    simp [Result.andThen] at e
    obtain ⟨rfl, rfl⟩ := e
    exact ⟨a, rfl, rfl, fun w' => by rw [h ρ, Sem.run_bind, h1 w']; simp [Result.andThen]⟩
  | halt x w2 => rw [hr] at e; simp [Result.andThen] at e
theorem quietOp_of {o : Oper} (f : (Operand → Value) → Sem Value) (hf : ∀ ρ, QuietS P (f ρ)) (h : ∀ ρ, execOp ρ o = do pure (.value (← f ρ))) : QuietOp P o := fun ρ w n w1 e => by
  rw [h ρ, Sem.run_bind] at e
  cases hr : (f ρ).run P w with
  | ok a w2 =>
    rw [hr] at e
    obtain rfl := hf ρ w a w2 hr
    simp [Result.andThen] at e
    obtain ⟨rfl, rfl⟩ := e
    exact ⟨a, rfl, rfl⟩
  | halt x w2 => rw [hr] at e; simp [Result.andThen] at e
theorem PureOp.quiet {o : Oper} (h : PureOp P o) : QuietOp P o := fun ρ w n w1 e => let ⟨v, h1, h2, _⟩ := h ρ w n w1 e; ⟨v, h1, h2⟩

theorem valS_bind {α : Type} {s : Sem α} {f : α → Sem Next} (hf : ∀ a w n w1, (f a).run P w = .ok n w1 → ∃ v, n = .value v) : ∀ w n w1, (s >>= f).run P w = .ok n w1 → ∃ v, n = .value v := fun w n w1 e => by
  rw [Sem.run_bind] at e
  cases hr : s.run P w with
  | ok a w2 => rw [hr] at e; exact hf a w2 n w1 e
  | halt x w2 => rw [hr] at e; simp [Result.andThen] at e

/-- 0: looks at no memory; 1: a load; 2: all else. -/
def opKind : Op → Nat
  | .move _ => 0
  | .assign _ => 0
  | .nilCheck _ => 0
  | .indexAddr _ _ _ => 0
  | .extract _ _ => 0
  | .load _ _ => 1
  | _ => 2

theorem quietS_load (a : Addr) (m : Mode) : QuietS P (load a m) := fun w v w1 e => by
  unfold load at e
  simp only [Sem.run] at e
  split at e
  · simp at e; exact e.2.symm
  · split at e
    · simp at e; exact e.2.symm
    · simp at e
theorem quietS_loadCellsFrom (a : Addr) : ∀ (n i : Nat) (acc : Array Value), QuietS P (loadCellsFrom a i n acc)
  | 0, i, acc => by unfold loadCellsFrom; exact (pureS_pure _).quiet
  | n + 1, i, acc => by
    unfold loadCellsFrom
    exact quietS_bind (quietS_load _ _) fun v => quietS_loadCellsFrom a n (i + 1) _
theorem quietS_loadAt (t : TypeId) (v : Value) : QuietS P (Instr.loadAt t v) := by
  unfold Instr.loadAt
  refine quietS_bind (pureS_sureAddr v).quiet fun a => ?_
  unfold loadVar
  refine quietS_bind (pureS_isAgg t).quiet fun b => ?_
  split
  · refine quietS_bind (pureS_sizeOf t).quiet fun n => ?_
    exact quietS_bind (quietS_loadCellsFrom a n 0 #[]) fun _ => (pureS_pure _).quiet
  · exact quietS_load _ _

theorem pureOp_kind {o : Oper} (h : opKind o.op = 0) : PureOp P o := by
  obtain ⟨dst, op, type, pos, after, guard⟩ := o
  cases op <;> simp [opKind] at h
  case move x => exact pureOp_of (fun ρ => pure (ρ x)) (fun ρ => pureS_pure _) fun ρ => by simp [execOp]
  case assign x => exact pureOp_of (fun ρ => pure (ρ x)) (fun ρ => pureS_pure _) fun ρ => by simp [execOp]
  case nilCheck x =>
    have hp : ∀ ρ : Operand → Value, PureS P (execOp ρ { dst := dst, op := .nilCheck x, type := type, pos := pos, after := after, guard := guard }) ∧ ∀ w n w1, (execOp ρ { dst := dst, op := .nilCheck x, type := type, pos := pos, after := after, guard := guard }).run P w = .ok n w1 → ∃ v, n = .value v := by
      intro ρ
      simp only [execOp]
      split
      · exact ⟨pureS_nilDeref, fun w n w1 e => absurd e (by unfold runtimePanic; simp [goPanic, program, Sem.run])⟩
      · exact ⟨pureS_nilDeref, fun w n w1 e => absurd e (by unfold runtimePanic; simp [goPanic, program, Sem.run])⟩
      · exact ⟨pureS_nilDeref, fun w n w1 e => absurd e (by unfold runtimePanic; simp [goPanic, program, Sem.run])⟩
      · split
        · exact ⟨pureS_nilDeref, fun w n w1 e => absurd e (by unfold runtimePanic; simp [goPanic, program, Sem.run])⟩
        · refine ⟨pureS_bind pureS_program fun p => pureS_bind (pureS_nilAhead _ _ _ _) fun b => ?_, valS_bind fun p => valS_bind fun b w n w1 e => ?_⟩
          · split
            · exact pureS_bind (pureS_halt _) fun _ => pureS_pure _
            · exact pureS_pure _
          · split at e
            · simp [unsupported, Sem.run] at e
            · simp at e; exact ⟨_, e.1.symm⟩
        · exact ⟨pureS_pure _, fun w n w1 e => by simp at e; exact ⟨_, e.1.symm⟩⟩
      · exact ⟨pureS_pure _, fun w n w1 e => by simp at e; exact ⟨_, e.1.symm⟩⟩
    intro ρ w n w1 e
    obtain ⟨h1, h2⟩ := hp ρ
    obtain ⟨v, rfl⟩ := h2 w n w1 e
    obtain ⟨h3, h4⟩ := h1 w _ w1 e
    exact ⟨v, rfl, h3, h4⟩
  case indexAddr t x i => exact pureOp_of (fun ρ => Instr.indexAt t (ρ x) (ρ i)) (fun ρ => pureS_indexAt _ _ _) fun ρ => rfl
  case extract t i => exact pureOp_of (fun ρ => Instr.extract (ρ t) i) (fun ρ => pureS_extract _ _) fun ρ => rfl
theorem quietOp_kind {o : Oper} (h : opKind o.op ≤ 1) : QuietOp P o := by
  by_cases h0 : opKind o.op = 0
  · exact (pureOp_kind h0).quiet
  · have h1 : opKind o.op = 1 := by omega
    obtain ⟨dst, op, type, pos, after, guard⟩ := o
    cases op <;> simp [opKind] at h1
    case load t a => exact quietOp_of (fun ρ => Instr.loadAt t (ρ a)) (fun ρ => quietS_loadAt _ _) fun ρ => rfl
end
end Go.Proofs.YthkaibkmpenclaaDoor
