/- Helpers for regions that draw their order and hold calls: what single operations give. -/
import Derived.Test.YtdgapijgdbhlfaaDoorCuC
import Derived.Test.YtdgapijgdbhlfaaDoorGrow
import Derived.Deep.MidRow
namespace Go.Proofs.YtdgapijgdbhlfaaDoor
open Go Go.RowKit

/-- Only new memory. -/
def Ex (w w' : World) : Prop := Below w.heap.size w w'
theorem Ex.trans {a b c : World} (h : Ex a b) (k : Ex b c) : Ex a c := Below.trans h (Below.mono k h.size)
theorem Ex.drew (w : World) : Ex w w.drew := (Below.refl _ w).drew
theorem Ex.refl (w : World) : Ex w w := Below.refl _ w
theorem Ex.alloc (w : World) (o : Obj) : Ex w (w.alloc o) := (Below.refl _ w).alloc (Nat.le_refl _) o

theorem NB.rangeL {k : IntKind} {w : World} {g : Nat} {t : TypeId} {X Z : List Nat} (h : NB k w g t (X ++ Z)) : w.rangeAt g 0 (ncells k X) := fun j v hv => by
  have hj : j < X.length := by have := (List.getElem?_eq_some_iff.1 hv).1; rwa [ncells_length] at this
  rw [Nat.zero_add, cell_row h, ncells, List.map_append, List.getElem?_append_left (by simpa using hj)]
  exact hv
theorem NB.rangeR {k : IntKind} {w : World} {g : Nat} {t : TypeId} {X Z : List Nat} (h : NB k w g t (X ++ Z)) (hx : X.length = 5) : w.rangeAt g 5 (ncells k Z) := fun j v hv => by
  rw [cell_row h, ncells, List.map_append, List.getElem?_append_right (by simp [hx])]
  simpa [hx, ncells] using hv
theorem NB.range {k : IntKind} {w : World} {g : Nat} {t : TypeId} {X : List Nat} (h : NB k w g t X) : w.rangeAt g 0 (ncells k X) := by
  have := NB.rangeL (X := X) (Z := []) (by rwa [List.append_nil])
  exact this
theorem num_size (X : List Nat) (h : X.length = 5) : (Tryd.prog.info? 40).map (·.size) = some (ncells .u64 X).length := by rw [ncells_length, h]; kernel_rfl

/-- The value of a number worth a. -/
def IsN (v : Value) (a : Nat) : Prop := ∃ R, v = .agg (ncells .u64 R).toArray ∧ Tm R a
/-- The block g holds a number worth a. -/
def N5 (w : World) (g a : Nat) : Prop := ∃ R, NB .u64 w g 40 R ∧ Tm R a
theorem N5.ext {w w' : World} {g a : Nat} (h : N5 w g a) (he : Ex w w') : N5 w' g a := by
  obtain ⟨R, h1, h2⟩ := h
  exact ⟨R, h1.fresh he, h2⟩
theorem N5.keep {S : Nat → Prop} {w w' : World} {g a : Nat} (h : N5 w g a) (hk : Keeps S w w') (hn : ¬ S g) : N5 w' g a := by
  obtain ⟨R, h1, h2⟩ := h
  exact ⟨R, h1.keep hk hn, h2⟩
theorem N5.lt {w : World} {g a : Nat} (h : N5 w g a) : g < w.heap.size := by obtain ⟨R, h1, _⟩ := h; exact h1.lt

theorem gives_load {o : Oper} {ρ : Operand → Value} {w : World} {x : Operand} {g off : Nat} {X : List Nat} {Φ : Value → World → Prop} (ho : o.op = .load 40 x) (hx : ρ x = .pointer (some ⟨g, off, none⟩))
    (hr : w.rangeAt g off (ncells .u64 X)) (hl : X.length = 5) (h : Φ (.agg (ncells .u64 X).toArray) w) : Gives Tryd.prog o ρ w Φ := by
  refine Gives.value (w' := w) (v := .agg (ncells .u64 X).toArray) ?_ h
  unfold execOp
  simp only [ho, hx]
  rw [Sem.run_bind, run_loadAt_mid w g off 40 _ _ hr Tryd.underlying40 rfl (num_size X hl)]
  rfl
theorem gives_load5 {o : Oper} {ρ : Operand → Value} {w : World} {x : Operand} {g a : Nat} {Φ : Value → World → Prop} (ho : o.op = .load 40 x) (hx : ρ x = .pointer (some ⟨g, 0, none⟩))
    (hr : N5 w g a) (h : ∀ v, IsN v a → Φ v w) : Gives Tryd.prog o ρ w Φ := by
  obtain ⟨R, h1, h2⟩ := hr
  exact gives_load ho hx h1.range h2.len (h _ ⟨R, rfl, h2⟩)
theorem gives_field {o : Oper} {ρ : Operand → Value} {w : World} {x : Operand} {g f off : Nat} {Φ : Value → World → Prop} (ho : o.op = .fieldAddr 55 x f) (hx : ρ x = .pointer (some ⟨g, 0, none⟩))
    (hf : (f = 0 ∧ off = 0) ∨ (f = 1 ∧ off = 5)) (h : Φ (.pointer (some ⟨g, off, none⟩)) w) : Gives Tryd.prog o ρ w Φ := by
  refine Gives.value (w' := w) (v := .pointer (some ⟨g, off, none⟩)) ?_ h
  unfold execOp
  simp only [ho, hx]
  rcases hf with ⟨rfl, rfl⟩ | ⟨rfl, rfl⟩
  · simp [Instr.fieldAt, run_underlying Tryd.underlying55, Instr.sureAddr, fieldPlace, Addr.add]
  · simp [Instr.fieldAt, run_underlying Tryd.underlying55, Instr.sureAddr, fieldPlace, Addr.add]
theorem enters_f {P : Program} {f : FuncId} {fn : Func} {c : Code} (hf : P.funcs[f]? = some fn) (hname : (fn.name == "runtime.NumGoroutine") = false) (hb : fn.body = some c) (args : Array Value) (w : World) : (callFunc f args).run P w = .ok (.enter f args) w := by
  have h1 : fn.name ≠ "runtime.NumGoroutine" := by simpa using hname
  simp [callFunc, hf, h1, hb, mark]
theorem gives_call {o : Oper} {ρ : Operand → Value} {w : World} {f : FuncId} {xs : Array Operand} {ts : Array TypeId} {vs : Array Value} {fn : Func} {Φ : Value → World → Prop} (ho : o.op = .call { callee := .value (.func f), args := xs, argTypes := ts }) (hρ : ρ (.func f) = .func (.func f) #[] #[])
    (hv : xs.map ρ = vs) (hf : Tryd.prog.funcs[f]? = some fn) (hname : (fn.name == "runtime.NumGoroutine") = false) (hb : fn.body.isSome = true) (h : Calls Tryd.prog f vs w fun e w' => ∃ v, e = .returned v ∧ Φ v w') : Gives Tryd.prog o ρ w Φ := by
  obtain ⟨c, hb⟩ := Option.isSome_iff_exists.1 hb
  refine Gives.enter (w' := w) (f := f) (args := vs) ?_ h
  unfold execOp
  simp only [ho]
  simp [resolve, hρ, hv, Deferred.ofValue, invoke, enters_f hf hname hb]
theorem gives_alloc {o : Oper} {ρ : Operand → Value} {w : World} {Φ : Value → World → Prop} (ho : o.op = .alloc 40)
    (h : Φ (.pointer (some ⟨w.heap.size, 0, none⟩)) (w.alloc (.cells (ncells .u64 [0, 0, 0, 0, 0]).toArray 40))) : Gives Tryd.prog o ρ w Φ := by
  refine Gives.value ?_ h
  unfold execOp
  simp only [ho]
  have hz : (zeroValue 40).run Tryd.prog w = .ok (.agg (ncells .u64 [0, 0, 0, 0, 0]).toArray) w := (zero_of_info (P := Tryd.prog) (t := 40) (v := .agg (ncells .u64 [0, 0, 0, 0, 0]).toArray) (n := 5) (by kernel_rfl)).1 w
  simp [Instr.alloc, hz, newVar]
  rfl
theorem plus_g {va vb : Value} {a b : Nat} (h : IsN va a) (k : IsN vb b) (w : World) : Calls Tryd.prog 33 #[va, vb] w fun e w' => ∃ v, e = .returned v ∧ IsN v ((a + b) % pC) ∧ Ex w w' := by
  obtain ⟨L, rfl, hL⟩ := h
  obtain ⟨M, rfl, hM⟩ := k
  exact (plus_c hL hM w).mono fun e w' ⟨R, h1, h2, h3⟩ => ⟨_, h1, ⟨R, rfl, h2⟩, h3⟩
theorem minus_g {va vb : Value} {a b : Nat} (h : IsN va a) (k : IsN vb b) (w : World) (ht : Tp w) : Calls Tryd.prog 34 #[va, vb] w fun e w' => ∃ v, e = .returned v ∧ IsN v ((a + (pC - b)) % pC) ∧ Ex w w' := by
  obtain ⟨L, rfl, hL⟩ := h
  obtain ⟨M, rfl, hM⟩ := k
  exact (minus_c hL hM w ht).mono fun e w' ⟨R, h1, h2, h3⟩ => ⟨_, h1, ⟨R, rfl, h2⟩, h3⟩
theorem times_g {va vb : Value} {a b : Nat} (h : IsN va a) (k : IsN vb b) (w : World) : Calls Tryd.prog 29 #[va, vb] w fun e w' => ∃ v, e = .returned v ∧ IsN v (a * b % pC) ∧ Ex w w' := by
  obtain ⟨L, rfl, hL⟩ := h
  obtain ⟨M, rfl, hM⟩ := k
  exact (times_c hL hM w).mono fun e w' ⟨R, h1, h2, h3⟩ => ⟨_, h1, ⟨R, rfl, h2⟩, h3⟩

/-- What each of a list of operations must show. -/
def eachL (p : Nat → Oper → Prop) : Nat → List Oper → Prop
  | _, [] => True
  | i, o :: r => p i o ∧ eachL p (i + 1) r
theorem eachL_at {p : Nat → Oper → Prop} : ∀ (l : List Oper) (k : Nat), eachL p k l → ∀ (i : Nat) (o : Oper), l[i]? = some o → p (k + i) o
  | [], k, _, i, o, h => by simp at h
  | x :: r, k, hl, 0, o, h => by simp at h; subst h; exact hl.1
  | x :: r, k, hl, i + 1, o, h => by
    have := eachL_at r (k + 1) hl.2 i o (by simpa using h)
    rwa [show k + 1 + i = k + (i + 1) by omega] at this
/-- The law of Grow, for this program, with new memory alone, and operations one by one. -/
theorem region_ex {id : Nat} {l : List Oper} {Q : Exit → Act → World → Prop} (U : Nat) {a : Act} {w : World} (hk : growOk l.toArray U = true)
    (F : Nat → Value → World → Prop) (hst : ∀ i v x y, Ex x y → F i v x → F i v y) (Sep : Nat → Value → Nat → Value → Prop)
    (hU : eachL (fun i o => ∀ vs w1, Ex w w1 → (∀ j, j < U → (edgesOf o).contains j = true → F j (vs j) w1) → Gives Tryd.prog o (actsTo l.toArray a (fun _ => true) vs U).eval w1 fun v w2 => Ex w1 w2 ∧ F i v w2 ∧ ∀ j u, j < U → F j u w1 → Sep j u i v) 0 (l.take U))
    (hrest : ∀ vs w1, Ex w w1 → (∀ i, i < U → F i (vs i) w1) → (∀ i j, i < U → j < U → i ≠ j → Sep i (vs i) j (vs j) ∨ Sep j (vs j) i (vs i)) → wpAny Tryd.prog .any l.toArray Q (l.length - U) (listedU l.length U) (actsTo l.toArray a (fun _ => true) vs U) w1) :
    (Code.region id l.toArray true).wp Tryd.prog Q a w := by
  refine region_grow U (by kernel_rfl) hk Ex (Ex.drew w) (fun _ _ _ => Ex.trans) F hst Sep (fun i o ho hi vs w1 he hd => ?_) hrest
  have hg : (l.take U)[i]? = some o := by
    rw [List.getElem?_take, if_pos hi]
    simpa using ho
  have := eachL_at (l.take U) 0 hU i o hg vs w1 he (fun j hj hjc => hd j hj (by simpa using hjc))
  rwa [Nat.zero_add] at this
end Go.Proofs.YtdgapijgdbhlfaaDoor
