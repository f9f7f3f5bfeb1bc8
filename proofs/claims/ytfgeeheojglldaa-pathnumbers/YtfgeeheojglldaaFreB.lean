/- The law of FreA for this program, new memory alone; what single operations give. -/
import Derived.Test.YtfgeeheojglldaaFreA
import Derived.Test.YtfgeeheojglldaaKp
namespace Go.Proofs.Ytfgeeheojglldaa
open Go Go.RowKit

/-- Only new memory. -/
def Ex (w w' : World) : Prop := Below w.heap.size w w'
theorem Ex.trans {a b c : World} (h : Ex a b) (k : Ex b c) : Ex a c := Below.trans h (Below.mono k h.size)
theorem Ex.drew (w : World) : Ex w w.drew := (Below.refl _ w).drew
theorem Ex.refl (w : World) : Ex w w := Below.refl _ w
theorem Ex.alloc (w : World) (o : Obj) : Ex w (w.alloc o) := (Below.refl _ w).alloc (Nat.le_refl _) o

/-- What is known of a value, in a world and in all that have more memory. -/
structure Fact where
  holds : Value → World → Prop
  ext : ∀ v x y, Ex x y → holds v x → holds v y
def Fact.any : Fact := ⟨fun _ _ => True, fun _ _ _ _ _ => trivial⟩
def Fact.val (x : Value) : Fact := ⟨fun v _ => v = x, fun _ _ _ _ h => h⟩
def Fact.bsl (xs : List UInt8) : Fact := ⟨fun v w => BSl w v xs, fun _ _ _ he h => h.fresh he⟩
/-- A pair of a slice and a number. -/
def Fact.told (xs : List UInt8) (n : Int) : Fact := ⟨fun v w => ∃ u, v = .tuple #[u, .int .i64 n] ∧ BSl w u xs, fun _ _ _ he ⟨u, h1, h2⟩ => ⟨u, h1, h2.fresh he⟩⟩

/-- What each of a list of operations must show. -/
def eachF (p : Nat → Oper → Prop) : Nat → List Oper → Prop
  | _, [] => True
  | i, o :: r => p i o ∧ eachF p (i + 1) r
theorem eachF_at {p : Nat → Oper → Prop} : ∀ (l : List Oper) (k : Nat), eachF p k l → ∀ (i : Nat) (o : Oper), l[i]? = some o → p (k + i) o
  | [], k, _, i, o, h => by simp at h
  | x :: r, k, hl, 0, o, h => by simp at h; subst h; exact hl.1
  | x :: r, k, hl, i + 1, o, h => by
    have := eachF_at r (k + 1) hl.2 i o (by simpa using h)
    rwa [show k + 1 + i = k + (i + 1) by omega] at this
/-- What operation i of a region must show. -/
def ReqF (l : List Oper) (fs : List Fact) (a : Act) (w : World) (i : Nat) (o : Oper) : Prop :=
  ∀ vs w1, Ex w w1 → (∀ j, (edgesOf o).contains j = true → (fs.getD j .any).holds (vs j) w1) → StepG Try.prog l.toArray o (actsTo l.toArray a (fun _ => true) vs l.length) w1 fun v w2 => Ex w1 w2 ∧ (fs.getD i .any).holds v w2
theorem region_free {id : Nat} {l : List Oper} {Q : Exit → Act → World → Prop} {a : Act} {w : World} (fs : List Fact) (hk : freeOk l.toArray = true)
    (hU : eachF (ReqF l fs a w) 0 l)
    (hrest : ∀ vs w1, Ex w w1 → (∀ i, i < l.length → (fs.getD i .any).holds (vs i) w1) → Q .normal (actsTo l.toArray a (fun _ => true) vs l.length) w1) :
    (Code.region id l.toArray true).wp Try.prog Q a w := by
  refine region_freeG (by kernel_rfl) hk Ex (Ex.drew w) (fun _ _ _ => Ex.trans) (fun i => (fs.getD i .any).holds) (fun i => (fs.getD i .any).ext) (fun i o ho vs w1 he hd => ?_) (fun vs w1 he hF => ?_)
  · have := eachF_at l 0 hU i o (by simpa using ho) vs w1 he (fun j hjc => hd j (by simpa using hjc))
    rw [Nat.zero_add] at this
    exact this
  · exact hrest vs w1 he (fun i hi => hF i (by simpa using hi))

section
variable {o : Oper} {ρ : Operand → Value} {w : World} {x y z : Operand} {Φ : Value → World → Prop} {v vx vy vz : Value}
theorem gives_move (ho : o.op = .move x) (hx : ρ x = v) (h : Φ v w) : Gives Try.prog o ρ w Φ := by
  refine Gives.value (w' := w) (v := v) ?_ h
  unfold execOp
  simp only [ho, hx]
  rfl
theorem gives_assign (ho : o.op = .assign x) (hx : ρ x = v) (h : Φ v w) : Gives Try.prog o ρ w Φ := by
  refine Gives.value (w' := w) (v := v) ?_ h
  unfold execOp
  simp only [ho, hx]
  rfl
theorem gives_pick_t (ho : o.op = .pick x y z) (hx : ρ x = .bool true) (hy : ρ y = v) (h : Φ v w) : Gives Try.prog o ρ w Φ := by
  refine Gives.value (w' := w) (v := v) ?_ h
  unfold execOp
  simp [ho, hx, hy, asBool]
theorem gives_pick_f (ho : o.op = .pick x y z) (hx : ρ x = .bool false) (hz : ρ z = v) (h : Φ v w) : Gives Try.prog o ρ w Φ := by
  refine Gives.value (w' := w) (v := v) ?_ h
  unfold execOp
  simp [ho, hx, hz, asBool]
theorem gives_len {ty : TypeId} {ao : Option Addr} {n cap : Nat} (ho : o.op = .call { callee := .builtin .len, args := #[x], argTypes := #[ty] }) (hx : ρ x = .slice ao n cap) (hu : ∃ e, Try.prog.underlying ty = some (.slice e)) (h : Φ (.int .i64 n) w) : Gives Try.prog o ρ w Φ := by
  obtain ⟨e, hu⟩ := hu
  refine Gives.value (w' := w) (v := .int .i64 n) ?_ h
  unfold execOp
  simp only [ho]
  simp [resolve, invoke, builtin, Builtin.len_, hx, run_underlying hu, goInt]
theorem gives_lenB {xs : List UInt8} {n : Nat} (ho : o.op = .call { callee := .builtin .len, args := #[x], argTypes := #[22] }) (hx : ρ x = v) (hv : BSl w v xs) (hn : xs.length = n) (h : Φ (.int .i64 n) w) : Gives Try.prog o ρ w Φ := by
  obtain ⟨ao, cap, rfl⟩ := hv.len
  rw [hn] at hx
  exact gives_len ho hx ⟨_, Try.underlying22⟩ h
theorem gives_str {xs : List UInt8} (ho : o.op = .convert 22 9 x) (hx : ρ x = v) (hv : BSl w v xs) (h : Φ (.string ⟨xs.toArray⟩) w) : Gives Try.prog o ρ w Φ := by
  refine Gives.value (w' := w) (v := .string ⟨xs.toArray⟩) ?_ h
  unfold execOp
  simp only [ho, hx]
  rw [Sem.run_bind, run_string hv]
  rfl
theorem enters_f {P : Program} {f : FuncId} {fn : Func} {c : Code} (hf : P.funcs[f]? = some fn) (hname : (fn.name == "runtime.NumGoroutine") = false) (hb : fn.body = some c) (args : Array Value) (w : World) : (callFunc f args).run P w = .ok (.enter f args) w := by
  have h1 : fn.name ≠ "runtime.NumGoroutine" := by simpa using hname
  simp [callFunc, hf, h1, hb, mark]
theorem gives_call {f : FuncId} {xs : Array Operand} {ts : Array TypeId} {vs : Array Value} {fn : Func} (ho : o.op = .call { callee := .value (.func f), args := xs, argTypes := ts }) (hρ : ρ (.func f) = .func (.func f) #[] #[])
    (hv : xs.map ρ = vs) (hf : Try.prog.funcs[f]? = some fn) (hname : (fn.name == "runtime.NumGoroutine") = false) (hb : fn.body.isSome = true) (h : Calls Try.prog f vs w fun e w' => ∃ v, e = .returned v ∧ Φ v w') : Gives Try.prog o ρ w Φ := by
  obtain ⟨c, hb⟩ := Option.isSome_iff_exists.1 hb
  refine Gives.enter (w' := w) (f := f) (args := vs) ?_ h
  unfold execOp
  simp only [ho]
  simp [resolve, hρ, hv, Deferred.ofValue, invoke, enters_f hf hname hb]
theorem gives_eqS {xs ys : List UInt8} {r : Bool} (ho : o.op = .binOp .eql 9 x y 9) (hx : ρ x = .string ⟨xs.toArray⟩) (hy : ρ y = .string ⟨ys.toArray⟩) (hr : (xs == ys) = r) (h : Φ (.bool r) w) : Gives Try.prog o ρ w Φ := by
  refine Gives.value (w' := w) (v := .bool r) ?_ h
  unfold execOp
  simp only [ho, hx, hy]
  simp [eqGuard, binOp, Op.stringOp, ByteArray.toList_mk, hr]
theorem gives_neS {xs ys : List UInt8} {r : Bool} (ho : o.op = .binOp .neq 9 x y 9) (hx : ρ x = .string ⟨xs.toArray⟩) (hy : ρ y = .string ⟨ys.toArray⟩) (hr : (!(xs == ys)) = r) (h : Φ (.bool r) w) : Gives Try.prog o ρ w Φ := by
  refine Gives.value (w' := w) (v := .bool r) ?_ h
  unfold execOp
  simp only [ho, hx, hy]
  simp [eqGuard, binOp, Op.stringOp, ByteArray.toList_mk, ← hr]
theorem gives_eqI {t : TypeId} {k : IntKind} {a b : Int} {r : Bool} (ho : o.op = .binOp .eql t x y t) (hx : ρ x = .int k a) (hy : ρ y = .int k b) (hr : (a == b) = r) (h : Φ (.bool r) w) : Gives Try.prog o ρ w Φ := by
  refine Gives.value (w' := w) (v := .bool r) ?_ h
  unfold execOp
  simp only [ho, hx, hy]
  simp [eqGuard, binOp, Op.intCmp, hr]
theorem gives_neI {t : TypeId} {k : IntKind} {a b : Int} {r : Bool} (ho : o.op = .binOp .neq t x y t) (hx : ρ x = .int k a) (hy : ρ y = .int k b) (hr : (a != b) = r) (h : Φ (.bool r) w) : Gives Try.prog o ρ w Φ := by
  refine Gives.value (w' := w) (v := .bool r) ?_ h
  unfold execOp
  simp only [ho, hx, hy]
  simp [eqGuard, binOp, Op.intCmp, hr]
theorem gives_gtI {t : TypeId} {k : IntKind} {a b : Int} {r : Bool} (ho : o.op = .binOp .gtr t x y t) (hx : ρ x = .int k a) (hy : ρ y = .int k b) (hr : decide (b < a) = r) (h : Φ (.bool r) w) : Gives Try.prog o ρ w Φ := by
  refine Gives.value (w' := w) (v := .bool r) ?_ h
  unfold execOp
  simp only [ho, hx, hy]
  simp [eqGuard, binOp, Op.intCmp, ← hr]
theorem gives_addI {t : TypeId} {a b c : Int} (ho : o.op = .binOp .add t x y t) (hx : ρ x = .int .i64 a) (hy : ρ y = .int .i64 b) (hr : IntKind.i64.wrap (a + b) = c) (h : Φ (.int .i64 c) w) : Gives Try.prog o ρ w Φ := by
  refine Gives.value (w' := w) (v := .int .i64 c) ?_ h
  unfold execOp
  simp only [ho, hx, hy]
  simp [eqGuard, binOp, Op.intArith, ← hr]
theorem gives_subI {t : TypeId} {a b c : Int} (ho : o.op = .binOp .sub t x y t) (hx : ρ x = .int .i64 a) (hy : ρ y = .int .i64 b) (hr : IntKind.i64.wrap (a - b) = c) (h : Φ (.int .i64 c) w) : Gives Try.prog o ρ w Φ := by
  refine Gives.value (w' := w) (v := .int .i64 c) ?_ h
  unfold execOp
  simp only [ho, hx, hy]
  simp [eqGuard, binOp, Op.intArith, ← hr]
theorem gives_conv {s d : TypeId} (ho : o.op = .convert s d x) (hx : ρ x = vx) (hr : (convert s d vx).run Try.prog w = .ok v w) (h : Φ v w) : Gives Try.prog o ρ w Φ := by
  refine Gives.value (w' := w) (v := v) ?_ h
  unfold execOp
  simp only [ho, hx]
  rw [Sem.run_bind, hr]
  rfl
theorem gives_slice {t : TypeId} {lo hi mx : Option Operand} (ho : o.op = .slice t x lo hi mx) (hr : (Instr.sliceAt t (ρ x) (lo.map ρ) (hi.map ρ) (mx.map ρ)).run Try.prog w = .ok v w) (h : Φ v w) : Gives Try.prog o ρ w Φ := by
  refine Gives.value (w' := w) (v := v) ?_ h
  unfold execOp
  simp only [ho]
  rw [Sem.run_bind, hr]
  rfl
end
/-- One operation of the list. -/
theorem req_cons {l : List Oper} {fs : List Fact} {a : Act} {w : World} {i : Nat} {o : Oper} {r : List Oper} (f : Fact) (hf : fs.getD i .any = f)
    (h : ∀ vs w1, Ex w w1 → (∀ j (f : Fact), (edgesOf o).contains j = true → fs.getD j .any = f → f.holds (vs j) w1) → StepG Try.prog l.toArray o (actsTo l.toArray a (fun _ => true) vs l.length) w1 fun v w2 => Ex w1 w2 ∧ f.holds v w2)
    (t : eachF (ReqF l fs a w) (i + 1) r) : eachF (ReqF l fs a w) i (o :: r) := by
  refine ⟨fun vs w1 he hd => ?_, t⟩
  rw [hf]
  exact h vs w1 he fun j f h2 h3 => by have := hd j h2; rwa [h3] at this
theorem req_nil {l : List Oper} {fs : List Fact} {a : Act} {w : World} {i : Nat} : eachF (ReqF l fs a w) i [] := trivial
theorem told_at {fs : List Fact} {vs : Nat → Value} {w : World} {n : Nat} (h : ∀ i, i < n → (fs.getD i .any).holds (vs i) w) (i : Nat) (f : Fact) (hi : i < n) (hf : fs.getD i .any = f) : f.holds (vs i) w := by
  have := h i hi
  rwa [hf] at this
/-- A call that answers new bytes. -/
theorem told_bytes {xs : List UInt8} {w : World} {f : FuncId} {args : Array Value} (h : Calls Try.prog f args w fun e w' => Fresh w xs e w') : Calls Try.prog f args w fun e w' => ∃ v, e = .returned v ∧ Ex w w' ∧ (Fact.bsl xs).holds v w' :=
  h.mono fun _ _ ⟨v, h1, h2, h3⟩ => ⟨v, h1, h3, BSl.ofRow h2⟩
theorem told_true {w : World} {f : FuncId} {args : Array Value} (h : Calls Try.prog f args w fun e w' => e = .returned (.bool true) ∧ Below w.heap.size w w') : Calls Try.prog f args w fun e w' => ∃ v, e = .returned v ∧ Ex w w' ∧ (Fact.val (.bool true)).holds v w' :=
  h.mono fun _ _ ⟨h1, h2⟩ => ⟨_, h1, h2, rfl⟩
end Go.Proofs.Ytfgeeheojglldaa
