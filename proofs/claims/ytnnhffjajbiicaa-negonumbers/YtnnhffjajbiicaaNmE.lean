/- The law of FreA for this program, new memory alone; what single operations give. -/
import Derived.Test.YtnnhffjajbiicaaNmD
import Derived.Test.YtnnhffjajbiicaaNmF
namespace Go.Proofs.Ytnnhffjajbiicaa
open Go Go.RowKit

/-- Only new memory. -/
def Ex (w w' : World) : Prop := Below w.heap.size w w'
theorem Ex.trans {a b c : World} (h : Ex a b) (k : Ex b c) : Ex a c := Below.trans h (Below.mono k h.size)
theorem Ex.drew (w : World) : Ex w w.drew := (Below.refl _ w).drew
theorem Ex.refl (w : World) : Ex w w := Below.refl _ w
theorem Ex.alloc (w : World) (o : Obj) : Ex w (w.alloc o) := (Below.refl _ w).alloc (Nat.le_refl _) o

/-- What is known of a value, in a world and in all that have more memory. -/
structure Fact where
  holds : Value → World → Prop
  ext : ∀ v x y, Ex x y → holds v x → holds v y
def Fact.any : Fact := ⟨fun _ _ => True, fun _ _ _ _ _ => trivial⟩
def Fact.val (x : Value) : Fact := ⟨fun v _ => v = x, fun _ _ _ _ h => h⟩
def Fact.bsl (xs : List UInt8) : Fact := ⟨fun v w => BSl w v xs, fun _ _ _ he h => h.fresh he⟩
/-- A pair of a slice and a number. -/
def Fact.told (xs : List UInt8) (n : Int) : Fact := ⟨fun v w => ∃ u, v = .tuple #[u, .int .i64 n] ∧ BSl w u xs, fun _ _ _ he ⟨u, h1, h2⟩ => ⟨u, h1, h2.fresh he⟩⟩

/-- What each of a list of operations must show. -/
def eachF (p : Nat → Oper → Prop) : Nat → List Oper → Prop
  | _, [] => True
  | i, o :: r => p i o ∧ eachF p (i + 1) r
theorem eachF_at {p : Nat → Oper → Prop} : ∀ (l : List Oper) (k : Nat), eachF p k l → ∀ (i : Nat) (o : Oper), l[i]? = some o → p (k + i) o
  | [], k, _, i, o, h => by simp at h
  | x :: r, k, hl, 0, o, h => by simp at h; subst h; exact hl.1
  | x :: r, k, hl, i + 1, o, h => by
    have := eachF_at r (k + 1) hl.2 i o (by simpa using h)
    rwa [show k + 1 + i = k + (i + 1) by omega] at this
/-- What operation i of a region must show. -/
def ReqF (l : List Oper) (fs : List Fact) (a : Act) (w : World) (i : Nat) (o : Oper) : Prop :=
  ∀ vs w1, Ex w w1 → (∀ j, (edgesOf o).contains j = true → (fs.getD j .any).holds (vs j) w1) → StepG Try.prog l.toArray o (actsTo l.toArray a (fun _ => true) vs l.length) w1 fun v w2 => Ex w1 w2 ∧ (fs.getD i .any).holds v w2
theorem region_free {id : Nat} {l : List Oper} {Q : Exit → Act → World → Prop} {a : Act} {w : World} (fs : List Fact) (hk : freeOk l.toArray = true)
    (hU : eachF (ReqF l fs a w) 0 l)
    (hrest : ∀ vs w1, Ex w w1 → (∀ i, i < l.length → (fs.getD i .any).holds (vs i) w1) → Q .normal (actsTo l.toArray a (fun _ => true) vs l.length) w1) :
    (Code.region id l.toArray true).wp Try.prog Q a w := by
  refine region_freeG (by kernel_rfl) hk Ex (Ex.drew w) (fun _ _ _ => Ex.trans) (fun i => (fs.getD i .any).holds) (fun i => (fs.getD i .any).ext) (fun i o ho vs w1 he hd => ?_) (fun vs w1 he hF => ?_)
  · have := eachF_at l 0 hU i o (by simpa using ho) vs w1 he (fun j hjc => hd j (by simpa using hjc))
    rw [Nat.zero_add] at this
    exact this
  · exact hrest vs w1 he (fun i hi => hF i (by simpa using hi))

section
variable {o : Oper} {ρ : Operand → Value} {w : World} {x y z : Operand} {Φ : Value → World → Prop} {v vx vy vz : Value}
theorem gives_move (ho : o.op = .move x) (hx : ρ x = v) (h : Φ v w) : Gives Try.prog o ρ w Φ := by
  refine Gives.value (w' := w) (v := v) ?_ h
  unfold execOp
  simp only [ho, hx]
  rfl
theorem gives_assign (ho : o.op = .assign x) (hx : ρ x = v) (h : Φ v w) : Gives Try.prog o ρ w Φ := by
  refine Gives.value (w' := w) (v := v) ?_ h
  unfold execOp
  simp only [ho, hx]
  rfl
theorem gives_pick_t (ho : o.op = .pick x y z) (hx : ρ x = .bool true) (hy : ρ y = v) (h : Φ v w) : Gives Try.prog o ρ w Φ := by
  refine Gives.value (w' := w) (v := v) ?_ h
  unfold execOp
  simp [ho, hx, hy, asBool]
theorem gives_pick_f (ho : o.op = .pick x y z) (hx : ρ x = .bool false) (hz : ρ z = v) (h : Φ v w) : Gives Try.prog o ρ w Φ := by
  refine Gives.value (w' := w) (v := v) ?_ h
  unfold execOp
  simp [ho, hx, hz, asBool]
theorem gives_len {ty : TypeId} {ao : Option Addr} {n cap : Nat} (ho : o.op = .call { callee := .builtin .len, args := #[x], argTypes := #[ty] }) (hx : ρ x = .slice ao n cap) (hu : ∃ e, Try.prog.underlying ty = some (.slice e)) (h : Φ (.int .i64 n) w) : Gives Try.prog o ρ w Φ := by
  obtain ⟨e, hu⟩ := hu
  refine Gives.value (w' := w) (v := .int .i64 n) ?_ h
  unfold execOp
  simp only [ho]
  simp [resolve, invoke, builtin, Builtin.len_, hx, run_underlying hu, goInt]
theorem gives_lenB {xs : List UInt8} {n : Nat} (ho : o.op = .call { callee := .builtin .len, args := #[x], argTypes := #[22] }) (hx : ρ x = v) (hv : BSl w v xs) (hn : xs.length = n) (h : Φ (.int .i64 n) w) : Gives Try.prog o ρ w Φ := by
  obtain ⟨ao, cap, rfl⟩ := hv.len
  rw [hn] at hx
  exact gives_len ho hx ⟨_, Try.underlying22⟩ h
theorem gives_str {xs : List UInt8} (ho : o.op = .convert 22 9 x) (hx : ρ x = v) (hv : BSl w v xs) (h : Φ (.string ⟨xs.toArray⟩) w) : Gives Try.prog o ρ w Φ := by
  refine Gives.value (w' := w) (v := .string ⟨xs.toArray⟩) ?_ h
  unfold execOp
  simp only [ho, hx]
  rw [Sem.run_bind, run_string hv]
  rfl
theorem enters_f {P : Program} {f : FuncId} {fn : Func} {c : Code} (hf : P.funcs[f]? = some fn) (hname : (fn.name == "runtime.NumGoroutine") = false) (hb : fn.body = some c) (args : Array Value) (w : World) : (callFunc f args).run P w = .ok (.enter f args) w := by
  have h1 : fn.name ≠ "runtime.NumGoroutine" := by simpa using hname
  simp [callFunc, hf, h1, hb, mark]
theorem gives_call {f : FuncId} {xs : Array Operand} {ts : Array TypeId} {vs : Array Value} {fn : Func} (ho : o.op = .call { callee := .value (.func f), args := xs, argTypes := ts }) (hρ : ρ (.func f) = .func (.func f) #[] #[])
    (hv : xs.map ρ = vs) (hf : Try.prog.funcs[f]? = some fn) (hname : (fn.name == "runtime.NumGoroutine") = false) (hb : fn.body.isSome = true) (h : Calls Try.prog f vs w fun e w' => ∃ v, e = .returned v ∧ Φ v w') : Gives Try.prog o ρ w Φ := by
  obtain ⟨c, hb⟩ := Option.isSome_iff_exists.1 hb
  refine Gives.enter (w' := w) (f := f) (args := vs) ?_ h
  unfold execOp
  simp only [ho]
  simp [resolve, hρ, hv, Deferred.ofValue, invoke, enters_f hf hname hb]
theorem gives_eqS {xs ys : List UInt8} {r : Bool} (ho : o.op = .binOp .eql 9 x y 9) (hx : ρ x = .string ⟨xs.toArray⟩) (hy : ρ y = .string ⟨ys.toArray⟩) (hr : (xs == ys) = r) (h : Φ (.bool r) w) : Gives Try.prog o ρ w Φ := by
  refine Gives.value (w' := w) (v := .bool r) ?_ h
  unfold execOp
  simp only [ho, hx, hy]
  simp [eqGuard, binOp, Op.stringOp, ByteArray.toList_mk, hr]
theorem gives_neS {xs ys : List UInt8} {r : Bool} (ho : o.op = .binOp .neq 9 x y 9) (hx : ρ x = .string ⟨xs.toArray⟩) (hy : ρ y = .string ⟨ys.toArray⟩) (hr : (!(xs == ys)) = r) (h : Φ (.bool r) w) : Gives Try.prog o ρ w Φ := by
  refine Gives.value (w' := w) (v := .bool r) ?_ h
  unfold execOp
  simp only [ho, hx, hy]
  simp [eqGuard, binOp, Op.stringOp, ByteArray.toList_mk, ← hr]
theorem gives_eqI {t : TypeId} {k : IntKind} {a b : Int} {r : Bool} (ho : o.op = .binOp .eql t x y t) (hx : ρ x = .int k a) (hy : ρ y = .int k b) (hr : (a == b) = r) (h : Φ (.bool r) w) : Gives Try.prog o ρ w Φ := by
  refine Gives.value (w' := w) (v := .bool r) ?_ h
  unfold execOp
  simp only [ho, hx, hy]
  simp [eqGuard, binOp, Op.intCmp, hr]
theorem gives_neI {t : TypeId} {k : IntKind} {a b : Int} {r : Bool} (ho : o.op = .binOp .neq t x y t) (hx : ρ x = .int k a) (hy : ρ y = .int k b) (hr : (a != b) = r) (h : Φ (.bool r) w) : Gives Try.prog o ρ w Φ := by
  refine Gives.value (w' := w) (v := .bool r) ?_ h
  unfold execOp
  simp only [ho, hx, hy]
  simp [eqGuard, binOp, Op.intCmp, hr]
theorem gives_gtI {t : TypeId} {k : IntKind} {a b : Int} {r : Bool} (ho : o.op = .binOp .gtr t x y t) (hx : ρ x = .int k a) (hy : ρ y = .int k b) (hr : decide (b < a) = r) (h : Φ (.bool r) w) : Gives Try.prog o ρ w Φ := by
  refine Gives.value (w' := w) (v := .bool r) ?_ h
  unfold execOp
  simp only [ho, hx, hy]
  simp [eqGuard, binOp, Op.intCmp, ← hr]
theorem gives_addI {t : TypeId} {a b c : Int} (ho : o.op = .binOp .add t x y t) (hx : ρ x = .int .i64 a) (hy : ρ y = .int .i64 b) (hr : IntKind.i64.wrap (a + b) = c) (h : Φ (.int .i64 c) w) : Gives Try.prog o ρ w Φ := by
  refine Gives.value (w' := w) (v := .int .i64 c) ?_ h
  unfold execOp
  simp only [ho, hx, hy]
  simp [eqGuard, binOp, Op.intArith, ← hr]
theorem gives_subI {t : TypeId} {a b c : Int} (ho : o.op = .binOp .sub t x y t) (hx : ρ x = .int .i64 a) (hy : ρ y = .int .i64 b) (hr : IntKind.i64.wrap (a - b) = c) (h : Φ (.int .i64 c) w) : Gives Try.prog o ρ w Φ := by
  refine Gives.value (w' := w) (v := .int .i64 c) ?_ h
  unfold execOp
  simp only [ho, hx, hy]
  simp [eqGuard, binOp, Op.intArith, ← hr]
theorem gives_conv {s d : TypeId} (ho : o.op = .convert s d x) (hx : ρ x = vx) (hr : (convert s d vx).run Try.prog w = .ok v w) (h : Φ v w) : Gives Try.prog o ρ w Φ := by
  refine Gives.value (w' := w) (v := v) ?_ h
  unfold execOp
  simp only [ho, hx]
  rw [Sem.run_bind, hr]
  rfl
theorem gives_slice {t : TypeId} {lo hi mx : Option Operand} (ho : o.op = .slice t x lo hi mx) (hr : (Instr.sliceAt t (ρ x) (lo.map ρ) (hi.map ρ) (mx.map ρ)).run Try.prog w = .ok v w) (h : Φ v w) : Gives Try.prog o ρ w Φ := by
  refine Gives.value (w' := w) (v := v) ?_ h
  unfold execOp
  simp only [ho]
  rw [Sem.run_bind, hr]
  rfl
end
/-- One operation of the list. -/
theorem req_cons {l : List Oper} {fs : List Fact} {a : Act} {w : World} {i : Nat} {o : Oper} {r : List Oper} (f : Fact) (hf : fs.getD i .any = f)
    (h : ∀ vs w1, Ex w w1 → (∀ j (f : Fact), (edgesOf o).contains j = true → fs.getD j .any = f → f.holds (vs j) w1) → StepG Try.prog l.toArray o (actsTo l.toArray a (fun _ => true) vs l.length) w1 fun v w2 => Ex w1 w2 ∧ f.holds v w2)
    (t : eachF (ReqF l fs a w) (i + 1) r) : eachF (ReqF l fs a w) i (o :: r) := by
  refine ⟨fun vs w1 he hd => ?_, t⟩
  rw [hf]
  exact h vs w1 he fun j f h2 h3 => by have := hd j h2; rwa [h3] at this
theorem req_nil {l : List Oper} {fs : List Fact} {a : Act} {w : World} {i : Nat} : eachF (ReqF l fs a w) i [] := trivial
theorem told_at {fs : List Fact} {vs : Nat → Value} {w : World} {n : Nat} (h : ∀ i, i < n → (fs.getD i .any).holds (vs i) w) (i : Nat) (f : Fact) (hi : i < n) (hf : fs.getD i .any = f) : f.holds (vs i) w := by
  have := h i hi
  rwa [hf] at this
/-- A call that answers new bytes. -/
theorem told_bytes {xs : List UInt8} {w : World} {f : FuncId} {args : Array Value} (h : Calls Try.prog f args w fun e w' => Fresh w xs e w') : Calls Try.prog f args w fun e w' => ∃ v, e = .returned v ∧ Ex w w' ∧ (Fact.bsl xs).holds v w' :=
  h.mono fun _ _ ⟨v, h1, h2, h3⟩ => ⟨v, h1, h3, BSl.ofRow h2⟩
theorem told_true {w : World} {f : FuncId} {args : Array Value} (h : Calls Try.prog f args w fun e w' => e = .returned (.bool true) ∧ Below w.heap.size w w') : Calls Try.prog f args w fun e w' => ∃ v, e = .returned v ∧ Ex w w' ∧ (Fact.val (.bool true)).holds v w' :=
  h.mono fun _ _ ⟨h1, h2⟩ => ⟨_, h1, h2, rfl⟩

/-- Both Lists, made short, in their boxes. -/
structure TT (w W : World) (ck : Value) (nm : List Value) (fo : Bool) (B : List UInt8) (ls : List (List ByteArray)) (dk : Value) (om : List Value) (fp : Bool) (C : List UInt8) (os : List (List ByteArray)) : Prop where
  b9 : LBox W w.heap.size 38 (lcells ck nm fo)
  b10 : LBox W (w.heap.size + 1) 38 (lcells dk om fp)
  rd : LRd W ck nm B ls
  ro : LRd W dk om C os
  bel : Below w.heap.size w W
theorem TT.fresh {w W W' : World} {ck : Value} {nm : List Value} {fo : Bool} {B : List UInt8} {ls : List (List ByteArray)} {dk : Value} {om : List Value} {fp : Bool} {C : List UInt8} {os : List (List ByteArray)} (h : TT w W ck nm fo B ls dk om fp C os) (hb : Below W.heap.size W W') : TT w W' ck nm fo B ls dk om fp C os :=
  ⟨h.b9.fresh hb, h.b10.fresh hb, h.rd.fresh hb, h.ro.fresh hb, h.bel.trans (hb.mono h.bel.size)⟩
theorem TT.still {w W W' : World} {ck : Value} {nm : List Value} {fo : Bool} {B : List UInt8} {ls : List (List ByteArray)} {dk : Value} {om : List Value} {fp : Bool} {C : List UInt8} {os : List (List ByteArray)} (h : TT w W ck nm fo B ls dk om fp C os) (hb : Still W W') : TT w W' ck nm fo B ls dk om fp C os :=
  h.fresh (still_below hb (Nat.le_refl _))

/-- What holds between the operations: values X, a new place made by operation 8 and filled by operation 9. -/
structure InvA (w : World) (X : Nat → Value) (t : TypeId) (Z A : Array Value) (l : Nat → Bool) (vs : Nat → Value) (w1 : World) : Prop where
  bel : Below w.heap.size w w1
  val : ∀ i, i ≠ 8 → i ≠ 9 → l i = true → vs i = X i
  box : l 8 = true → ∃ g, vs 8 = .pointer (some ⟨g, 0, none⟩) ∧ w.heap.size ≤ g ∧ w1.heap[g]? = some (.cells (if l 9 then A else Z) t (0, 0))
  ord : l 9 = true → l 8 = true
theorem upd_same {α : Type} (l : Nat → α) (i : Nat) (b : α) : upd l i b i = b := by simp [upd]
theorem upd_other {α : Type} (l : Nat → α) {i j : Nat} (b : α) (h : j ≠ i) : upd l i b j = l j := by simp [upd, h]
section
variable {w w1 w2 : World} {X : Nat → Value} {t : TypeId} {Z A : Array Value} {l : Nat → Bool} {vs : Nat → Value} {i : Nat} {v : Value}
theorem InvA.plain (h : InvA w X t Z A l vs w1) (h8 : i ≠ 8) (h9 : i ≠ 9) (he : Ex w1 w2) (hv : v = X i) : InvA w X t Z A (upd l i true) (upd vs i v) w2 := by
  refine ⟨h.bel.trans (Below.mono he h.bel.size), fun j hj8 hj9 hl => ?_, fun hl => ?_, fun hl => ?_⟩
  · by_cases e : j = i
    · subst e; rw [upd_same]; exact hv
    · rw [upd_other _ _ e] at hl ⊢; exact h.val j hj8 hj9 hl
  · rw [upd_other _ _ (Ne.symm h8)] at hl ⊢
    rw [upd_other _ _ (Ne.symm h9)]
    obtain ⟨g, h1, h2, h3⟩ := h.box hl
    exact ⟨g, h1, h2, (Below.block he g (lt_of_block h3)).trans h3⟩
  · rw [upd_other _ _ (Ne.symm h9)] at hl
    rw [upd_other _ _ (Ne.symm h8)]
    exact h.ord hl
theorem InvA.place (h : InvA w X t Z A l vs w1) (h8 : l 8 = false) : InvA w X t Z A (upd l 8 true) (upd vs 8 (.pointer (some ⟨w1.heap.size, 0, none⟩))) (w1.alloc (.cells Z t)) := by
  have h9 : l 9 = false := by cases e : l 9 with | false => rfl | true => rw [h.ord e] at h8; cases h8
  refine ⟨h.bel.alloc h.bel.size _, fun j hj8 hj9 hl => ?_, fun hl => ?_, fun hl => ?_⟩
  · rw [upd_other _ _ hj8] at hl ⊢; exact h.val j hj8 hj9 hl
  · rw [upd_same, upd_other _ _ (by omega : (9 : Nat) ≠ 8), h9]
    exact ⟨w1.heap.size, rfl, h.bel.size, by simpa using heap_alloc_new w1 _⟩
  · rw [upd_same]
theorem InvA.fill (h : InvA w X t Z A l vs w1) (h8 : l 8 = true) {g : Nat} (hg : vs 8 = .pointer (some ⟨g, 0, none⟩)) : InvA w X t Z A (upd l 9 true) (upd vs 9 undef) (w1.setRow g A) := by
  obtain ⟨g', h1, h2, h3⟩ := h.box h8
  rw [hg] at h1
  cases h1
  refine ⟨below_setRow h.bel h2 _, fun j hj8 hj9 hl => ?_, fun hl => ?_, fun hl => ?_⟩
  · rw [upd_other _ _ hj9] at hl ⊢; exact h.val j hj8 hj9 hl
  · rw [upd_other _ _ (by omega : (8 : Nat) ≠ 9), upd_same]
    exact ⟨g, hg, h2, by simpa using setRow_heap w1 g _ _ t (0, 0) h3⟩
  · rw [upd_other _ _ (by omega : (8 : Nat) ≠ 9)]; exact h8
end

/-- What operation i of such a region must show. -/
def ReqA (l : List Oper) (X : Nat → Value) (a : Act) (w : World) (i : Nat) (o : Oper) : Prop :=
  ∀ vs w1, Below w.heap.size w w1 → (∀ j, (edgesOf o).contains j = true → j ≠ 8 → j ≠ 9 → vs j = X j) → StepG Try.prog l.toArray o (actsTo l.toArray a (fun _ => true) vs l.length) w1 fun v w2 => Ex w1 w2 ∧ v = X i
theorem StepG.mono {P : Program} {ops : Array Oper} {o : Oper} {b : Act} {w : World} {Φ Ψ : Value → World → Prop} (h : StepG P ops o b w Φ) (hm : ∀ v w', Φ v w' → Ψ v w') : StepG P ops o b w Ψ := by
  refine ⟨fun e => ⟨?_⟩, fun e => hm _ _ (h.2 e)⟩
  have h1 := (h.1 e).out
  unfold GivesM at h1 ⊢
  split at h1
  · exact hm _ _ h1
  · exact hm _ _ h1
  · exact h1.mono fun e w'' ⟨v, h2, h3⟩ => ⟨v, h2, hm _ _ h3⟩
  · exact h1
theorem gives_place {o : Oper} {ρ : Operand → Value} {w : World} {Φ : Value → World → Prop} {t : TypeId} {Z : Array Value} (ho : o.op = .alloc t) (hz : (zeroValue t).run Try.prog w = .ok (.agg Z) w)
    (h : Φ (.pointer (some ⟨w.heap.size, 0, none⟩)) (w.alloc (.cells Z t))) : Gives Try.prog o ρ w Φ := by
  refine Gives.value ?_ h
  unfold execOp
  simp only [ho]
  simp [Instr.alloc, hz, newVar]
  rfl
theorem gives_store {o : Oper} {ρ : Operand → Value} {w : World} {Φ : Value → World → Prop} {ty t : TypeId} {x y : Operand} {g : Nat} {cells old : Array Value} (ho : o.op = .store ty x y) (hx : ρ x = .pointer (some ⟨g, 0, none⟩)) (hy : ρ y = .agg cells)
    (hg : w.heap[g]? = some (.cells old t (0, 0))) (hi : (Try.prog.info? ty).map (·.size) = some cells.size) (hold : old.size = cells.size) (h1 : cells.all (·.oneCell') = true)
    (h : Φ undef (w.setRow g cells)) : Gives Try.prog o ρ w Φ := by
  refine ⟨?_⟩
  unfold GivesM execOp
  simp only [ho, hx, hy, Instr.storeAt, Instr.sureAddr, Sem.run_bind, Sem.run_pure, Result.andThen_ok, run_storeVar_row w g t ty old cells hg hi hold h1]
  exact h
/-- THE LAW: eleven operations. -/
theorem region_place {id : Nat} {l : List Oper} {Q : Exit → Act → World → Prop} {a : Act} {w : World} (X : Nat → Value) (t : TypeId) (Z A : Array Value) (d e : Tmp) (hk : freeOk l.toArray = true) (hlen : l.length = 11)
    (hZ : ∀ w1, (zeroValue t).run Try.prog w1 = .ok (.agg Z) w1) (hi : (Try.prog.info? t).map (·.size) = some A.size) (hold : Z.size = A.size) (h1 : A.all (·.oneCell') = true) (hXA : X 6 = .agg A)
    (h8 : (l[8]?).map (fun o => (o.op, o.guard)) = some (.alloc t, none)) (h9 : (l[9]?).map (fun o => (o.op, o.guard)) = some (.store t (.tmp d) (.tmp e), none))
    (he9 : ∀ o, l[9]? = some o → (edgesOf o).contains 8 = true ∧ (edgesOf o).contains 6 = true)
    (ev : ∀ vs, (actsTo l.toArray a (fun _ => true) vs l.length).eval (.tmp d) = vs 8 ∧ (actsTo l.toArray a (fun _ => true) vs l.length).eval (.tmp e) = vs 6)
    (hU : eachF (fun i o => i ≠ 8 → i ≠ 9 → ReqA l X a w i o) 0 l)
    (hrest : ∀ vs w1 g, Below w.heap.size w w1 → (∀ i, i < 11 → i ≠ 8 → i ≠ 9 → vs i = X i) → vs 8 = .pointer (some ⟨g, 0, none⟩) → w.heap.size ≤ g → w1.heap[g]? = some (.cells A t (0, 0)) → Q .normal (actsTo l.toArray a (fun _ => true) vs l.length) w1) :
    (Code.region id l.toArray true).wp Try.prog Q a w := by
  have hd : Below w.heap.size w w.drew := (Below.refl _ w).drew
  refine region_inv (by kernel_rfl) hk (InvA w X t Z A) ⟨hd, (fun _ _ _ h => by cases h), (fun h => by cases h), (fun h => by cases h)⟩ (fun i o ho L vs w1 hI hL hc he => ?_) (fun L vs w1 hall hI => ?_)
  · have ho' : l[i]? = some o := by simpa using ho
    by_cases e8 : i = 8
    · subst e8
      rw [ho'] at h8
      simp only [Option.map_some, Option.some.injEq, Prod.mk.injEq] at h8
      exact StepG.plain h8.2 (gives_place h8.1 (hZ w1) (hI.place hL))
    · by_cases e9 : i = 9
      · subst e9
        obtain ⟨c8, c6⟩ := he9 o ho'
        rw [ho'] at h9
        simp only [Option.map_some, Option.some.injEq, Prod.mk.injEq] at h9
        have l8 := he 8 (by simpa using c8)
        have l6 := he 6 (by simpa using c6)
        obtain ⟨g, q1, q2, q3⟩ := hI.box l8
        have q6 := hI.val 6 (by omega) (by omega) l6
        rw [hL] at q3
        obtain ⟨ev1, ev2⟩ := ev vs
        exact StepG.plain h9.2 (gives_store h9.1 (ev1.trans q1) (ev2.trans (q6.trans hXA)) q3 hi hold h1 (hI.fill l8 q1))
      · have := eachF_at l 0 hU i o ho'
        rw [Nat.zero_add] at this
        exact (this e8 e9 vs w1 hI.bel (fun j hj hj8 hj9 => hI.val j hj8 hj9 (he j (by simpa using hj)))).mono fun v w2 ⟨q1, q2⟩ => hI.plain e8 e9 q1 q2
  · obtain ⟨g, q1, q2, q3⟩ := hI.box (hall 8 (by simp [hlen]))
    rw [hall 9 (by simp [hlen])] at q3
    exact hrest vs w1 g hI.bel (fun i hi h8 h9 => hI.val i h8 h9 (hall i (by simpa [hlen] using hi))) q1 q2 q3

theorem encB_len {bs : List UInt8} {ls : List (List ByteArray)} {fo : Bool} (hl : ls.length = 10) : (encB bs ls fo).length ≤ 20000 := by
  unfold encB
  split
  · rename_i h
    unfold encOk at h
    rw [Bool.and_eq_true, decide_eq_true_eq, List.all_eq_true] at h
    have := encBody_len ls h.2
    simp only [encL, List.length_append, List.length_cons, List.length_nil, be_length]
    omega
  · simp
/-- Bytes of one's own, written or empty. -/
structure YOwn (W : World) (base : Nat) (y : Value) (xs : List UInt8) : Prop where
  bsl : BSl W y xs
  lt : ∀ k, y.ownBlock = some k → base ≤ k ∧ k < W.heap.size
  row : xs ≠ [] → ∃ g cap, y = .slice (some ⟨g, 0, none⟩) xs.length cap ∧ ORow W base g cap xs
theorem YOwn.fresh {W W' : World} {base : Nat} {y : Value} {xs : List UInt8} (h : YOwn W base y xs) (hb : Below W.heap.size W W') : YOwn W' base y xs :=
  ⟨h.bsl.fresh hb, fun k e => ⟨(h.lt k e).1, Nat.lt_of_lt_of_le (h.lt k e).2 hb.size⟩, fun hne => by
    obtain ⟨g, cap, h1, h2⟩ := h.row hne
    exact ⟨g, cap, h1, h2.keep (Keeps.ofFresh (S := fun _ => False) hb) (fun h => h)⟩⟩
theorem YOwn.of {W : World} {base n : Nat} {y : Value} {xs : List UInt8} (h : W.ownsRow base 5 1 y n (bcells xs)) : YOwn W base y xs := by
  have hl : xs.length = n := by have := h.1; rw [bcells_length] at this; omega
  subst hl
  exact ⟨BSl.ofRow h, h.lt, fun hne => ORow.ofOwns h hne⟩

/-- All that NegoTells holds once both sides have answered. -/
structure Tel (w W : World) (ck : Value) (nm : List Value) (fo : Bool) (B : List UInt8) (ls : List (List ByteArray)) (dk : Value) (om : List Value) (fp : Bool) (C : List UInt8) (os : List (List ByteArray)) (p q x y : Value) (PL XB : List UInt8) : Prop where
  tt : TT w W ck nm fo B ls dk om fp C os
  p : BSl W p PL
  q : BSl W q PL
  x : BSl W x XB
  y : YOwn W (w.heap.size + 2) y XB
theorem Tel.fresh {w W W' : World} {ck : Value} {nm : List Value} {fo : Bool} {B : List UInt8} {ls : List (List ByteArray)} {dk : Value} {om : List Value} {fp : Bool} {C : List UInt8} {os : List (List ByteArray)} {p q x y : Value} {PL XB : List UInt8} (h : Tel w W ck nm fo B ls dk om fp C os p q x y PL XB) (hb : Below W.heap.size W W') : Tel w W' ck nm fo B ls dk om fp C os p q x y PL XB :=
  ⟨h.tt.fresh hb, h.p.fresh hb, h.q.fresh hb, h.x.fresh hb, h.y.fresh hb⟩
theorem size_agC (ls os : List (List ByteArray)) : (agC ls os).length = 8 := by
  unfold agC
  split
  · exact agN_len ls os 8
  · rfl
theorem one_agC (ls os : List (List ByteArray)) : (agC ls os).toArray.all (·.oneCell') = true := by
  unfold agC
  split
  · exact agN_one ls os
  · simp [no8, Value.oneCell']
theorem zero8 (w : World) : (zeroValue 45).run Try.prog w = .ok (.agg no8.toArray) w := (zero_of_info (P := Try.prog) (t := 45) (v := .agg no8.toArray) (n := 8) (by kernel_rfl)).1 w
/-- A place made and filled behind what stood. -/
theorem below_place (w : World) (t : TypeId) (Z A : List Value) : Below w.heap.size w ((w.alloc (.cells Z.toArray t)).setRow w.heap.size A.toArray) :=
  below_setRow ((Below.refl _ w).alloc (Nat.le_refl _) _) (Nat.le_refl _) _
theorem gives_loadAgg {o : Oper} {ρ : Operand → Value} {w : World} {x : Operand} {Φ : Value → World → Prop} {ty t : TypeId} {g : Nat} {cs : Array Value} {fr : Nat × Nat} {fs : Array Field} (ho : o.op = .load ty x) (hx : ρ x = .pointer (some ⟨g, 0, none⟩)) (hg : w.heap[g]? = some (.cells cs t fr))
    (hu : Try.prog.underlying ty = some (.struct fs)) (hi : (Try.prog.info? ty).map (·.size) = some cs.size) (h : Φ (.agg cs) w) : Gives Try.prog o ρ w Φ := by
  refine Gives.value (w' := w) (v := .agg cs) ?_ h
  unfold execOp
  simp only [ho, Instr.loadAt, Sem.run_bind, hx, Instr.sureAddr, Sem.run_pure, Result.andThen, run_loadVar_row w g t ty cs fr _ hg hu rfl hi]
theorem gives_loadArr {o : Oper} {ρ : Operand → Value} {w : World} {x : Operand} {Φ : Value → World → Prop} {ty t : TypeId} {g : Nat} {cs : Array Value} {fr : Nat × Nat} {n : Nat} {e : TypeId} (ho : o.op = .load ty x) (hx : ρ x = .pointer (some ⟨g, 0, none⟩)) (hg : w.heap[g]? = some (.cells cs t fr))
    (hu : Try.prog.underlying ty = some (.array n e)) (hi : (Try.prog.info? ty).map (·.size) = some cs.size) (h : Φ (.agg cs) w) : Gives Try.prog o ρ w Φ := by
  refine Gives.value (w' := w) (v := .agg cs) ?_ h
  unfold execOp
  simp only [ho, Instr.loadAt, Sem.run_bind, hx, Instr.sureAddr, Sem.run_pure, Result.andThen, run_loadVar_row w g t ty cs fr _ hg hu rfl hi]
theorem gives_ext {o : Oper} {ρ : Operand → Value} {w : World} {x : Operand} {Φ : Value → World → Prop} {i : Nat} {us : Array Value} {v : Value} (ho : o.op = .extract x i) (hx : ρ x = .tuple us) (hv : us[i]? = some v) (h : Φ v w) : Gives Try.prog o ρ w Φ := by
  refine Gives.value (w' := w) (v := v) ?_ h
  unfold execOp
  simp [ho, hx, hv, Instr.extract]

theorem run_equalIn_strs (d : Nat) (strs : List ByteArray) (h : strs.length = 8) (w : World) :
    (Op.equalIn (d + 2) 45 (.agg (strs.map Value.string).toArray) (.agg (strs.map Value.string).toArray)).run Try.prog w = .ok true w := by
  have hsz : ∀ w, (sizeOf 9).run Try.prog w = .ok 1 w := by
    obtain ⟨j0, ji, jz0, jz1, jz2⟩ := info_parts Try.infoStr
    intro w
    rw [run_sizeOf w ji]
    simp [Program.cellsOf, ji, jz1]
  rw [Op.equalIn]
  simp only [Sem.run_bind, run_underlying Try.underlying45, Result.andThen_ok, hsz, Std.Legacy.Range.forIn_eq_forIn_range', Std.Legacy.Range.size, Nat.sub_zero, Nat.add_sub_cancel, Nat.div_one]
  have hl : ∀ i ∈ List.range' 0 8 1, i < 8 := fun i hi => by simpa using (List.mem_range'_1.1 hi).2
  generalize List.range' 0 8 1 = l at hl ⊢
  induction l with
  | nil => simp
  | cons i l ih =>
    have hi : i < 8 := hl i (by simp)
    have px : (part 9 (strs.map Value.string).toArray (i * 1)).run Try.prog w = .ok (.string (strs.getD i ⟨#[]⟩)) w := by
      simp [part, isAgg, run_underlying Try.underlying9, List.getD, List.getElem?_eq_getElem (show i < strs.length by omega)]
    have pe : (Op.equalIn (d + 1) 9 (.string (strs.getD i ⟨#[]⟩)) (.string (strs.getD i ⟨#[]⟩))).run Try.prog w = .ok true w := by
      rw [run_equalIn_string w d _ _ _ Try.underlying9]
      simp
    simp only [List.forIn_cons, Sem.run_bind, px, pe, Result.andThen_ok]
    simp only [Bool.not_true, Bool.false_eq_true, if_false, Sem.run_pure, Result.andThen_ok]
    exact ih fun j hj => hl j (by simp [hj])
theorem agC_strs (ls os : List (List ByteArray)) : ∃ strs : List ByteArray, agC ls os = strs.map Value.string ∧ strs.length = 8 := by
  unfold agC
  split
  · exact ⟨(List.range 8).map fun i => (agOf ls os i).getD ⟨#[]⟩, by simp [agN], by simp⟩
  · exact ⟨List.replicate 8 ⟨#[]⟩, rfl, by simp⟩
theorem agC_ne (ls os : List (List ByteArray)) (w : World) : (binOp .neq 45 (.agg (agC ls os).toArray) (.agg (agC ls os).toArray)).run Try.prog w = .ok (.bool false) w := by
  obtain ⟨strs, h1, h2⟩ := agC_strs ls os
  rw [h1]
  simp only [binOp, Op.equal, Sem.run_bind]
  rw [show Op.maxDepth = 9998 + 2 from rfl, run_equalIn_strs 9998 strs h2 w]
  rfl

section
variable {o : Oper} {ρ : Operand → Value} {w : World} {x y z : Operand} {Φ : Value → World → Prop} {v vx vy vz : Value}
theorem gives_neAgg {t t' : TypeId} {cs ds : Array Value} (ho : o.op = .binOp .neq t x y t') (hx : ρ x = .agg cs) (hy : ρ y = .agg ds) (hg : Try.prog.eqGuardType Try.prog.depth t = false) (hr : (binOp .neq t (.agg cs) (.agg ds)).run Try.prog w = .ok v w) (h : Φ v w) : Gives Try.prog o ρ w Φ := by
  refine Gives.value (w' := w) (v := v) ?_ h
  unfold execOp
  simp only [ho, hx, hy]
  simp [eqGuard, hg, hr]
theorem gives_neB {a b : ByteArray} {r : Bool} (ho : o.op = .binOp .neq 9 x y 9) (hx : ρ x = .string a) (hy : ρ y = .string b) (hr : (!(a.toList == b.toList)) = r) (h : Φ (.bool r) w) : Gives Try.prog o ρ w Φ := by
  refine Gives.value (w' := w) (v := .bool r) ?_ h
  unfold execOp
  simp only [ho, hx, hy]
  simp [eqGuard, binOp, Op.stringOp, hr]
theorem gives_not {b : Bool} {t : TypeId} (ho : o.op = .unOp .not t x) (hx : ρ x = .bool b) (h : Φ (.bool (!b)) w) : Gives Try.prog o ρ w Φ := by
  refine Gives.value (w' := w) (v := .bool (!b)) ?_ h
  unfold execOp
  simp only [ho]
  rw [hx]
  rfl
theorem gives_fieldN {g : Nat} (ho : o.op = .fieldAddr 38 x 0) (hx : ρ x = .pointer (some ⟨g, 0, none⟩)) (h : Φ (.pointer (some ⟨g, 0, none⟩)) w) : Gives Try.prog o ρ w Φ := by
  refine Gives.value (w' := w) (v := .pointer (some ⟨g, 0, none⟩)) ?_ h
  unfold execOp
  simp only [ho]
  rw [hx]
  kernel_rfl
theorem gives_loadB {a : Addr} (ho : o.op = .load 22 x) (hx : ρ x = .pointer (some a)) (hc : w.cell? a = some v) (h : Φ v w) : Gives Try.prog o ρ w Φ := by
  refine Gives.value (w' := w) (v := v) ?_ h
  unfold execOp
  simp only [ho]
  rw [hx]
  simp [Instr.loadAt, loadVar, Instr.sureAddr, hc]
end
/-- What Ours answers. -/
def Fact.ours (B : List UInt8) : Fact := ⟨fun v w => ∃ ck nm, v = .agg (lcells ck nm false).toArray ∧ LRd w ck nm B oursL, fun _ _ _ he ⟨ck, nm, h1, h2⟩ => ⟨ck, nm, h1, h2.fresh he⟩⟩
theorem told_ours {B : List UInt8} {w : World} {f : FuncId} {args : Array Value} (h : Calls Try.prog f args w fun e w' => OursPost B w e w') : Calls Try.prog f args w fun e w' => ∃ v, e = .returned v ∧ Ex w w' ∧ (Fact.ours B).holds v w' :=
  h.mono fun _ _ ⟨ck, nm, h1, h2, h3⟩ => ⟨_, h1, h3, ck, nm, rfl, h2⟩
theorem same_ours {B : List UInt8} {w : World} {u v : Value} (h : (Fact.ours B).holds u w) (g : (Fact.ours B).holds v w) : Calls Try.prog 27 #[u, v] w fun e w' => ∃ r, e = .returned r ∧ Ex w w' ∧ (Fact.val (.bool true)).holds r w' := by
  obtain ⟨ck, nm, rfl, h1⟩ := h
  obtain ⟨dk, om, rfl, h2⟩ := g
  exact told_true (same_c ck dk nm om false B oursL w h1 h2)
end Go.Proofs.Ytnnhffjajbiicaa
