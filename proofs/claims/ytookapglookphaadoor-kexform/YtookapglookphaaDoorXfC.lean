/- Rows made in a region and appended to in place, and one operation that comes behind them all. -/
import Derived.Test.YtookapglookphaaDoorXfB
import Derived.Great.BuildSlice
namespace Go.Proofs.YtookapglookphaaDoor
section
open Go Go.RowKit

/-- What operation i of a region must show, where one operation (last) tells E. -/
def ReqE (l : List Oper) (fs : List FactB) (rt : List Nat) (cons : List (Option Nat)) (last : Nat) (E : (Nat → Value) → World → Prop) (a : Act) (w : World) (i : Nat) (o : Oper) : Prop :=
  ∀ L vs w1, InvR w fs rt cons L vs w1 → (L last = true → E vs w1) → L i = false → (∀ (m : Nat) (om : Oper), l[m]? = some om → L m = true → ∀ j ∈ edgesOf om, L j = true) → (∀ j, j ∈ edgesOf o → L j = true) →
    StepG Tryd.prog l.toArray o (actsTo l.toArray a (fun _ => true) vs l.length) w1 fun v w2 => InvR w fs rt cons (upd L i true) (upd vs i v) w2 ∧ (upd L i true last = true → E (upd vs i v) w2)
theorem region_rowsE {id : Nat} {l : List Oper} {Q : Exit → Act → World → Prop} {a : Act} {w : World} (fs : List FactB) (rt : List Nat) (cons : List (Option Nat)) (last : Nat) (E : (Nat → Value) → World → Prop) (hk : freeOk l.toArray = true) (hlast : last < l.length)
    (hU : eachF (ReqE l fs rt cons last E a w) 0 l)
    (hrest : ∀ vs w1, Ex w w1 → (∀ i, i < l.length → cons.getD i none = none → (fs.getD i .any).holds (vs i) w1) → E vs w1 → Q .normal (actsTo l.toArray a (fun _ => true) vs l.length) w1) :
    (Code.region id l.toArray true).wp Tryd.prog Q a w := by
  refine region_inv (by kernel_rfl) hk (fun L vs w1 => InvR w fs rt cons L vs w1 ∧ (L last = true → E vs w1)) ⟨⟨Ex.drew w, (fun _ h => by cases h), (fun _ _ h => by cases h)⟩, fun h => by cases h⟩ (fun i o ho L vs w1 hI hL hc he => ?_) (fun L vs w1 hall hI => ?_)
  · have := eachF_at l 0 hU i o (by simpa using ho) L vs w1 hI.1 hI.2 (by rw [Nat.zero_add]; exact hL) (fun m om hm => hc m om (by simpa using hm)) he
    rw [Nat.zero_add] at this
    exact this
  · exact hrest vs w1 hI.1.ex (fun i hi hn => hI.1.hold i (hall i (by simpa using hi)) (fun c hc => by rw [hn] at hc; cases hc)) (hI.2 (hall last (by simpa using hlast)))
section
variable {l : List Oper} {fs : List FactB} {rt : List Nat} {cons : List (Option Nat)} {last : Nat} {E : (Nat → Value) → World → Prop} {a : Act} {w : World} {i : Nat} {o : Oper} {r : List Oper}
theorem rowsE_cons (f : FactB) (hf : fs.getD i .any = f) (ol : Oper) (hol : l[last]? = some ol) (hil : i ≠ last)
    (hEx : ∀ vs x y, Ex x y → E vs x → E vs y) (hEv : ∀ vs m v x, (edgesOf ol).contains m = false → m ≠ last → E vs x → E (upd vs m v) x)
    (h : ∀ vs w1, Ex w w1 → (∀ j (f : FactB), (edgesOf o).contains j = true → fs.getD j .any = f → (cons.getD j none).all (· == i) = true → f.holds (vs j) w1) → StepG Tryd.prog l.toArray o (actsTo l.toArray a (fun _ => true) vs l.length) w1 fun v w2 => Ex w1 w2 ∧ f.holds v w2 ∧ ∀ k, f.blk v = some k → w1.heap.size ≤ k)
    (t : eachF (ReqE l fs rt cons last E a w) (i + 1) r) : eachF (ReqE l fs rt cons last E a w) i (o :: r) := by
  refine ⟨fun L vs w1 hI hE hL hc he => ?_, t⟩
  refine (h vs w1 hI.ex fun j f h2 h3 h4 => ?_).mono fun v w2 ⟨h5, h6, h7⟩ => ⟨hI.plain h5 (by rw [hf]; exact h6) (fun k hk => .inl (h7 k (by rw [← hf]; exact hk))), fun hl => ?_⟩
  · have := hI.hold j (he j (by simpa using h2)) (fun c hcc => by rw [hcc] at h4; simp at h4; rw [h4]; exact hL)
    rwa [h3] at this
  · have hl' : L last = true := by
      have e : ¬ last = i := fun e => hil e.symm
      simpa [upd, e] using hl
    have hn : (edgesOf ol).contains i = false := by
      cases hcn : (edgesOf ol).contains i with
      | false => rfl
      | true =>
        have := hc last ol hol hl' i (by simpa using hcn)
        rw [this] at hL
        cases hL
    exact hEv vs i v w2 hn hil (hEx vs w1 w2 h5 (hE hl'))
theorem rowsE_app (j0 : Nat) (xs ys : List UInt8) (hf0 : fs.getD j0 .any = .own w.heap.size xs) (hf : fs.getD i .any = .own w.heap.size ys)
    (hj0 : (edgesOf o).contains j0 = true) (hc0 : cons.getD j0 none = some i) (hr0 : rt.getD j0 0 = rt.getD i 0) (hd : deadOk l rt cons i o = true) (ol : Oper) (hol : l[last]? = some ol) (hil : i ≠ last) (hin : (edgesOf ol).contains i = true ∨ ∃ m om, (edgesOf ol).contains m = true ∧ l[m]? = some om ∧ (edgesOf om).contains i = true)
    (h : ∀ vs w1, Ex w w1 → (∀ j (f : FactB), (edgesOf o).contains j = true → fs.getD j .any = f → (cons.getD j none).all (· == i) = true → f.holds (vs j) w1) → StepG Tryd.prog l.toArray o (actsTo l.toArray a (fun _ => true) vs l.length) w1 fun v w2 => w1.grownBy w2 (vs j0).ownBlock ∧ (FactB.own w.heap.size ys).holds v w2 ∧ (v.ownBlock = (vs j0).ownBlock ∨ v.ownBlock = some w1.heap.size))
    (t : eachF (ReqE l fs rt cons last E a w) (i + 1) r) : eachF (ReqE l fs rt cons last E a w) i (o :: r) := by
  refine ⟨fun L vs w1 hI hE hL hc he => ?_, t⟩
  refine ((rows_app (r := []) j0 xs ys hf0 hf hj0 hc0 hr0 hd h rows_nil).1 L vs w1 hI hL hc he).mono fun v w2 h1 => ⟨h1, fun hl => ?_⟩
  have hl' : L last = true := by
    have e : ¬ last = i := fun e => hil e.symm
    simpa [upd, e] using hl
  have h2 : L i = true := by
    rcases hin with hin | ⟨m, om, h3, h4, h5⟩
    · exact hc last ol hol hl' i (by simpa using hin)
    · exact hc m om h4 (hc last ol hol hl' m (by simpa using h3)) i (by simpa using h5)
  rw [h2] at hL
  cases hL
theorem rowsE_last (f : FactB) (hf : fs.getD i .any = f)
    (h : ∀ vs w1, Ex w w1 → (∀ j (f : FactB), (edgesOf o).contains j = true → fs.getD j .any = f → (cons.getD j none).all (· == i) = true → f.holds (vs j) w1) → StepG Tryd.prog l.toArray o (actsTo l.toArray a (fun _ => true) vs l.length) w1 fun v w2 => (Ex w1 w2 ∧ f.holds v w2 ∧ ∀ k, f.blk v = some k → w1.heap.size ≤ k) ∧ E (upd vs i v) w2)
    (t : eachF (ReqE l fs rt cons last E a w) (i + 1) r) : eachF (ReqE l fs rt cons last E a w) i (o :: r) := by
  refine ⟨fun L vs w1 hI hE hL hc he => ?_, t⟩
  refine (h vs w1 hI.ex fun j f h2 h3 h4 => ?_).mono fun v w2 ⟨⟨h5, h6, h7⟩, h8⟩ => ⟨hI.plain h5 (by rw [hf]; exact h6) (fun k hk => .inl (h7 k (by rw [← hf]; exact hk))), fun _ => h8⟩
  have := hI.hold j (he j (by simpa using h2)) (fun c hcc => by rw [hcc] at h4; simp at h4; rw [h4]; exact hL)
  rwa [h3] at this
theorem rowsE_nil : eachF (ReqE l fs rt cons last E a w) i [] := trivial
end
/-- A row of nine slices. -/
def FactB.nine : FactB := ⟨fun v _ => ∃ g, v = .slice (some ⟨g, 0, none⟩) 9 9, fun _ => none, fun _ _ _ _ _ _ h => h, fun _ _ _ _ h => by cases h⟩
section
variable {o : Oper} {ρ : Operand → Value} {w w0 : World}
theorem gives_litB (n : Nat) (parts : Array (Nat × Operand)) (xs : List UInt8) (hn : xs.length = n) (hn2 : n ≤ 1000) (hn0 : 0 < n) (ho : o.op = .buildSlice 22 n parts) (hf : Instr.fill (fun i => some (i * 1, 1)) ((Array.range (n * 1)).map ((Value.int .u8 0).cells[· % (Value.int .u8 0).cells.size]!)) (parts.map fun (i, x) => (i, ρ x)).toList = some (bcells xs).toArray) (he : Ex w0 w) :
    Gives Tryd.prog o ρ w fun v w2 => Ex w w2 ∧ (FactB.own w0.heap.size xs).holds v w2 ∧ ∀ k, (FactB.own w0.heap.size xs).blk v = some k → w.heap.size ≤ k := by
  obtain ⟨i0, hi, hz0, hz1, hz2⟩ := info_parts Tryd.infoU8
  refine Gives.value (w' := w.alloc (.cells (bcells xs).toArray 5)) (v := .slice (some ⟨w.heap.size, 0, none⟩) n n) ?_ ⟨Ex.alloc w _, ⟨by simp, ?_⟩, fun k hk => ?_⟩
  · unfold execOp
    simp only [ho]
    have hb := run_buildSlice (P := Tryd.prog) w 22 5 n (parts.map fun (i, x) => (i, ρ x)) (bcells xs).toArray i0 (.int .u8 0) Tryd.underlying22 hi hz0 (by rw [hz1]; omega) (by rw [hz1]; omega) (by rw [hz1]; exact hf)
    rw [Sem.run_bind, hb]
    rfl
  · have := World.ownsRow_lit (base := w0.heap.size) (e := 5) (size := 1) w (bcells xs).toArray n he.size (by unfold maxLen; omega) (by simp [bcells_length, hn])
    rw [hn]
    simpa using this
  · have hk' : (Value.slice (some ⟨w.heap.size, 0, none⟩) n n).ownBlock = some k := hk
    cases hk'
    exact Nat.le_refl _
theorem infoSl9 : (Tryd.prog.info? 22).map (fun i => (i.zero, i.size, i.bytes)) = some (some (.slice none 0 0), 1, 24) := by kernel_rfl
theorem gives_build9 {Φ : Value → World → Prop} {x0 x1 x2 x3 x4 x5 x6 x7 x8 : Operand} {a0 a1 a2 a3 a4 a5 a6 a7 a8 : Option Addr} {n0 n1 n2 n3 n4 n5 n6 n7 n8 c0 c1 c2 c3 c4 c5 c6 c7 c8 : Nat} (ho : o.op = .buildSlice 35 9 #[(0, x0), (1, x1), (2, x2), (3, x3), (4, x4), (5, x5), (6, x6), (7, x7), (8, x8)]) (h0 : ρ x0 = .slice a0 n0 c0) (h1 : ρ x1 = .slice a1 n1 c1) (h2 : ρ x2 = .slice a2 n2 c2) (h3 : ρ x3 = .slice a3 n3 c3) (h4 : ρ x4 = .slice a4 n4 c4) (h5 : ρ x5 = .slice a5 n5 c5) (h6 : ρ x6 = .slice a6 n6 c6) (h7 : ρ x7 = .slice a7 n7 c7) (h8 : ρ x8 = .slice a8 n8 c8)
    (h : Φ (.slice (some ⟨w.heap.size, 0, none⟩) 9 9) (w.alloc (.cells #[.slice a0 n0 c0, .slice a1 n1 c1, .slice a2 n2 c2, .slice a3 n3 c3, .slice a4 n4 c4, .slice a5 n5 c5, .slice a6 n6 c6, .slice a7 n7 c7, .slice a8 n8 c8] 22))) : Gives Tryd.prog o ρ w Φ := by
  obtain ⟨i0, hi, hz0, hz1, hz2⟩ := info_parts infoSl9
  refine Gives.value ?_ h
  unfold execOp
  simp only [ho]
  have hb := run_buildSlice (P := Tryd.prog) w 35 22 9 (#[((0 : Nat), x0), (1, x1), (2, x2), (3, x3), (4, x4), (5, x5), (6, x6), (7, x7), (8, x8)].map fun (i, x) => (i, ρ x)) #[.slice a0 n0 c0, .slice a1 n1 c1, .slice a2 n2 c2, .slice a3 n3 c3, .slice a4 n4 c4, .slice a5 n5 c5, .slice a6 n6 c6, .slice a7 n7 c7, .slice a8 n8 c8] i0 (.slice none 0 0) Tryd.underlying35 hi hz0 (by rw [hz1]; omega) (by rw [hz1]; omega) (by rw [hz1]; simp only [List.map_toArray, List.map_cons, List.map_nil, h0, h1, h2, h3, h4, h5, h6, h7, h8]; kernel_rfl)
  rw [Sem.run_bind, hb]
  rfl
end
theorem run_front (ao : Option Addr) (n m cap : Nat) (hm : m ≤ cap) (w : World) : (Instr.sliceAt 22 (.slice ao n cap) none (some (.int .i64 (m : Nat))) none).run Tryd.prog w = .ok (.slice ao m cap) w := by
  obtain ⟨i0, hi, _, _, _⟩ := info_parts Tryd.infoU8
  simp [Instr.sliceAt, Instr.slice, run_underlying Tryd.underlying22, Instr.sliceBounds, Instr.sliceBound, asIntOf, sizeOf, typeInfo, hi, Addr.add]
  intro h
  omega
theorem run_behind (b off n m cap : Nat) (h0 : 0 < m) (hm : m ≤ n) (hlt : m < cap) (w : World) : (Instr.sliceAt 22 (.slice (some ⟨b, off, none⟩) n cap) (some (.int .i64 (m : Nat))) none none).run Tryd.prog w = .ok (.slice (some ⟨b, off + m, none⟩) (n - m) (cap - m)) w := by
  obtain ⟨i0, hi, _, hz1, _⟩ := info_parts Tryd.infoU8
  have h1 : ¬ cap = m := by omega
  have h2 : ¬ m = 0 := by omega
  simp [Instr.sliceAt, Instr.slice, run_underlying Tryd.underlying22, Instr.sliceBounds, Instr.sliceBound, asIntOf, sizeOf, typeInfo, hi, hz1, Addr.add, h1, h2, hm]
end
end Go.Proofs.YtookapglookphaaDoor
