/- Regions that draw their order, make new memory, and store at last. -/
import Derived.Test.YtookapglookphaaDoorXfA
import Derived.Test.YtookapglookphaaDoorXcA
namespace Go.Proofs.YtookapglookphaaDoor
open Go Go.RowKit

/-- What operation i of such a region must show. -/
def ReqU (l : List Oper) (fs : List Fact) (U : Nat) (a : Act) (w : World) (i : Nat) (o : Oper) : Prop :=
  ∀ vs w1, Ex w w1 → (∀ j, j < U → (edgesOf o).contains j = true → (fs.getD j .any).holds (vs j) w1) → Gives Tryd.prog o (actsTo l.toArray a (fun _ => true) vs U).eval w1 fun v w2 => Ex w1 w2 ∧ (fs.getD i .any).holds v w2
theorem region_store {id : Nat} {l : List Oper} {Q : Exit → Act → World → Prop} {a : Act} {w : World} (fs : List Fact) (U : Nat) (hlen : l.length = U + 1) (hk : growOk l.toArray U = true)
    (hU : eachF (ReqU l fs U a w) 0 (l.take U))
    (r1 : Region.ready .any l.toArray (listedU (U + 1) U) = [U]) (r2 : Region.ready .any l.toArray ((listedU (U + 1) U).setIfInBounds U true) = [])
    (t : TypeId) (d e : Tmp) (hs : isStore t d e l[U]?)
    (hrest : ∀ (vs : Nat → Value) (w1 : World) (o : Oper), Ex w w1 → (∀ i, i < U → (fs.getD i .any).holds (vs i) w1) → o.op = .store t (.tmp d) (.tmp e) → o.dst = none → o.wp Tryd.prog (actsTo l.toArray a (fun _ => true) vs U) w1 (fun a' w' => Q .normal a' w') Q) :
    (Code.region id l.toArray true).wp Tryd.prog Q a w := by
  obtain ⟨o1, ho1, hs1, hg1, hd1⟩ := hs.spec
  refine region_grow U (by kernel_rfl) hk Ex (Ex.drew w) (fun _ _ _ => Ex.trans) (fun i => (fs.getD i .any).holds) (fun i => (fs.getD i .any).ext) (fun _ _ _ _ => True) (fun i o ho hi vs w1 he hd => ?_) (fun vs w1 he hF _ => ?_)
  · have h1 : (l.take U)[i]? = some o := by rw [List.getElem?_take_of_lt hi]; simpa using ho
    have := eachF_at (l.take U) 0 hU i o h1 vs w1 he (fun j hj hjc => hd j hj (by simpa using hjc))
    rw [Nat.zero_add] at this
    refine ⟨?_⟩
    have h2 := this.out
    unfold GivesM at h2 ⊢
    split at h2
    · exact ⟨h2.1, h2.2, fun _ _ _ _ => trivial⟩
    · exact ⟨h2.1, h2.2, fun _ _ _ _ => trivial⟩
    · exact h2.mono fun e w'' ⟨v, h3, h4⟩ => ⟨v, h3, h4.1, h4.2, fun _ _ _ _ => trivial⟩
    · exact h2
  · rw [show l.toArray.size = U + 1 by simpa using hlen, show U + 1 - U = 0 + 1 by omega]
    refine wpAny_one r1 ho1 hg1 ?_
    exact Oper.wp_mono (fun a' w' h => wpAny_done r2 h 0) (hrest vs w1 o1 he hF hs1 hd1)
theorem reqU_cons {l : List Oper} {fs : List Fact} {U : Nat} {a : Act} {w : World} {i : Nat} {o : Oper} {r : List Oper} (f : Fact) (hf : fs.getD i .any = f)
    (h : ∀ vs w1, Ex w w1 → (∀ j (f : Fact), j < U → (edgesOf o).contains j = true → fs.getD j .any = f → f.holds (vs j) w1) → Gives Tryd.prog o (actsTo l.toArray a (fun _ => true) vs U).eval w1 fun v w2 => Ex w1 w2 ∧ f.holds v w2)
    (t : eachF (ReqU l fs U a w) (i + 1) r) : eachF (ReqU l fs U a w) i (o :: r) := by
  refine ⟨fun vs w1 he hd => ?_, t⟩
  rw [hf]
  exact h vs w1 he fun j f h1 h2 h3 => by have := hd j h1 h2; rwa [h3] at this
theorem reqU_nil {l : List Oper} {fs : List Fact} {U : Nat} {a : Act} {w : World} {i : Nat} : eachF (ReqU l fs U a w) i [] := trivial
section
variable {o : Oper} {ρ : Operand → Value} {w w0 : World} {x y z : Operand} {v vx vy vz : Value} {Φ : Value → World → Prop}
theorem gives_side {g : Nat} (f : Nat) (hf : f < 6) (ho : o.op = .fieldAddr 25 x f) (hx : ρ x = .pointer (some ⟨g, 0, none⟩)) (h : Φ (.pointer (some ⟨g, f, none⟩)) w) : Gives Tryd.prog o ρ w Φ := by
  refine Gives.value (w' := w) (v := .pointer (some ⟨g, f, none⟩)) ?_ h
  unfold execOp
  simp only [ho, hx]
  have e : f = 0 ∨ f = 1 ∨ f = 2 ∨ f = 3 ∨ f = 4 ∨ f = 5 := by omega
  rcases e with rfl | rfl | rfl | rfl | rfl | rfl <;> simp [Instr.fieldAt, run_underlying Tryd.underlying25, Instr.sureAddr, fieldPlace, Addr.add]
theorem gives_ldB {a : Addr} (ho : o.op = .load 22 x) (hx : ρ x = .pointer (some a)) (hc : w.cell? a = some v) (h : Φ v w) : Gives Tryd.prog o ρ w Φ := by
  refine Gives.value (w' := w) (v := v) ?_ h
  unfold execOp
  simp only [ho]
  rw [hx]
  simp [Instr.loadAt, loadVar, Instr.sureAddr, hc]
theorem gives_ldS {a : Addr} (ho : o.op = .load 9 x) (hx : ρ x = .pointer (some a)) (hc : w.cell? a = some v) (h : Φ v w) : Gives Tryd.prog o ρ w Φ := by
  refine Gives.value (w' := w) (v := v) ?_ h
  unfold execOp
  simp only [ho]
  rw [hx]
  simp [Instr.loadAt, loadVar, Instr.sureAddr, hc]
theorem gives_build {t : TypeId} {parts : Array (Nat × Operand)} {cells : Array Value} (ho : o.op = .build t parts) (hc : Tryd.prog.built t (parts.map fun (i, x) => (i, ρ x)).toList = some cells) (h : Φ (.agg cells) w) : Gives Tryd.prog o ρ w Φ := by
  refine Gives.value (w' := w) (v := .agg cells) ?_ h
  unfold execOp
  simp only [ho, Sem.run_bind, run_build w t _ cells hc, Result.andThen_ok]
  rfl
theorem gives_exec' (hr : (execOp ρ o).run Tryd.prog w = .ok (.value v) w) (h : Φ v w) : Gives Tryd.prog o ρ w Φ := Gives.value hr h
end
/-- A call that gives new bytes. -/
theorem told_bytes' {xs : List UInt8} {w : World} {f : FuncId} {args : Array Value} (h : Calls Tryd.prog f args w fun e w' => Fresh w xs e w') : Calls Tryd.prog f args w fun e w' => ∃ v, e = .returned v ∧ Ex w w' ∧ (Fact.bsl xs).holds v w' :=
  h.mono fun _ _ ⟨v, h1, h2, h3⟩ => ⟨v, h1, h3, BSl.ofRow h2⟩
/-- Bytes in memory from n on. -/
def Fact.low (n : Nat) (xs : List UInt8) : Fact := ⟨fun v w => BSl w v xs ∧ ∀ k, v.ownBlock = some k → n ≤ k, fun _ _ _ he h => ⟨h.1.fresh he, h.2⟩⟩
theorem told_low {n : Nat} {xs : List UInt8} {w : World} {f : FuncId} {args : Array Value} (hn : n ≤ w.heap.size) (h : Calls Tryd.prog f args w fun e w' => Fresh w xs e w') : Calls Tryd.prog f args w fun e w' => ∃ v, e = .returned v ∧ Ex w w' ∧ (Fact.low n xs).holds v w' :=
  h.mono fun _ _ ⟨v, h1, h2, h3⟩ => ⟨v, h1, h3, BSl.ofRow h2, fun k e => Nat.le_trans hn (h2.lt k e).1⟩
theorem Keeps.setRow {S : Nat → Prop} {a w : World} (h : Keeps S a w) {g : Nat} (hg : S g) (cs : Array Value) : Keeps S a (w.setRow g cs) :=
  ⟨h.os, h.tape, h.output, by rw [setRow_size]; exact h.size, fun k hk hn => by rw [setRow_other _ _ _ _ (fun e => hn (by rw [e]; exact hg))]; exact h.block k hk hn⟩
end Go.Proofs.YtookapglookphaaDoor
