/- A region that draws its order, where literals turned to bytes are marked: below a base nothing turns, and every cell stays. -/
import Derived.Test.YtllkafhooapcbaaDoorFreD
import Derived.Test.YtllkafhooapcbaaDoorKeB
import Derived.Test.YtllkafhooapcbaaDoorKdQ
namespace Go.Proofs.YtllkafhooapcbaaDoor
open Go Go.RowKit

/-- Below B nothing turns; every cell stays (a block from B on may be marked). -/
structure Mk (B : Nat) (x y : World) : Prop where
  lo : B ≤ x.heap.size
  bel : Below B x y
  cell : ∀ a v, x.cell? a = some v → y.cell? a = some v
section
variable {B : Nat} {x y z : World}
theorem Mk.up (h : Mk B x y) : B ≤ y.heap.size := Nat.le_trans h.lo h.bel.size
theorem Mk.refl (h : B ≤ x.heap.size) : Mk B x x := ⟨h, Below.refl _ _, fun _ _ h => h⟩
theorem Mk.trans (h : Mk B x y) (k : Mk B y z) : Mk B x z := ⟨h.lo, h.bel.trans k.bel, fun a v e => k.cell a v (h.cell a v e)⟩
theorem Mk.ofEx (hb : B ≤ x.heap.size) (h : Ex x y) : Mk B x y := ⟨hb, Below.mono h hb, fun _ _ e => (Keeps.ofFresh (S := fun _ => False) h).cell e (fun h => h)⟩
theorem Mk.drew (w : World) : Mk w.heap.size w w.drew := Mk.ofEx (Nat.le_refl _) (Ex.drew w)
end
theorem BSl.mk {B : Nat} {x y : World} {v : Value} {xs : List UInt8} (h : BSl x v xs) (m : Mk B x y) : BSl y v xs := by
  obtain ⟨ao, cap, rfl, h1, h2, h3, hc⟩ := h
  refine ⟨ao, cap, rfl, h1, h2, h3, ?_⟩
  rintro ad rfl hx
  obtain ⟨b, off, rfl, hcell⟩ := hc ad rfl hx
  exact ⟨b, off, rfl, fun j u hu => m.cell _ _ (hcell j u hu)⟩
theorem Rw.mk {B : Nat} {x y : World} (h : Rw x) (m : Mk B x y) : Rw y := ⟨Nat.lt_of_lt_of_le h.1 m.bel.size, fun i hi => m.cell _ _ (h.2 i hi)⟩

/-- What is known of a value. -/
structure FactM (B : Nat) where
  holds : Value → World → Prop
  ext : ∀ v x y, Mk B x y → holds v x → holds v y
def FactM.any {B : Nat} : FactM B := ⟨fun _ _ => True, fun _ _ _ _ _ => trivial⟩
def FactM.val {B : Nat} (x : Value) : FactM B := ⟨fun v _ => v = x, fun _ _ _ _ h => h⟩
def FactM.bsl {B : Nat} (xs : List UInt8) : FactM B := ⟨fun v w => BSl w v xs, fun _ _ _ he h => h.mk he⟩
/-- A literal, in memory from B on. -/
def FactM.lit {B : Nat} (xs : List UInt8) : FactM B := ⟨fun v w => BSl w v xs ∧ ∀ k, v.ownBlock = some k → B ≤ k, fun _ _ _ he h => ⟨h.1.mk he, h.2⟩⟩
def ReqM (B : Nat) (l : List Oper) (fs : List (FactM B)) (a : Act) (w : World) (i : Nat) (o : Oper) : Prop :=
  ∀ vs w1, Mk B w w1 → (∀ j, (edgesOf o).contains j = true → (fs.getD j .any).holds (vs j) w1) → StepG Tryd.prog l.toArray o (actsTo l.toArray a (fun _ => true) vs l.length) w1 fun v w2 => Mk B w1 w2 ∧ (fs.getD i .any).holds v w2
theorem region_mark {id : Nat} {l : List Oper} {Q : Exit → Act → World → Prop} {a : Act} {w : World} (fs : List (FactM w.heap.size)) (hk : freeOk l.toArray = true)
    (hU : eachF (ReqM w.heap.size l fs a w) 0 l)
    (hrest : ∀ vs w1, Mk w.heap.size w w1 → (∀ i, i < l.length → (fs.getD i .any).holds (vs i) w1) → Q .normal (actsTo l.toArray a (fun _ => true) vs l.length) w1) :
    (Code.region id l.toArray true).wp Tryd.prog Q a w := by
  refine region_freeG (by kernel_rfl) hk (Mk w.heap.size) (Mk.drew w) (fun _ _ _ => Mk.trans) (fun i => (fs.getD i .any).holds) (fun i => (fs.getD i .any).ext) (fun i o ho vs w1 he hd => ?_) (fun vs w1 he hF => ?_)
  · have := eachF_at l 0 hU i o (by simpa using ho) vs w1 he (fun j hjc => hd j (by simpa using hjc))
    rw [Nat.zero_add] at this
    exact this
  · exact hrest vs w1 he (fun i hi => hF i (by simpa using hi))
theorem reqM_cons {B : Nat} {l : List Oper} {fs : List (FactM B)} {a : Act} {w : World} {i : Nat} {o : Oper} {r : List Oper} (f : FactM B) (hf : fs.getD i .any = f)
    (h : ∀ vs w1, Mk B w w1 → (∀ j (f : FactM B), (edgesOf o).contains j = true → fs.getD j .any = f → f.holds (vs j) w1) → StepG Tryd.prog l.toArray o (actsTo l.toArray a (fun _ => true) vs l.length) w1 fun v w2 => Mk B w1 w2 ∧ f.holds v w2)
    (t : eachF (ReqM B l fs a w) (i + 1) r) : eachF (ReqM B l fs a w) i (o :: r) := by
  refine ⟨fun vs w1 he hd => ?_, t⟩
  rw [hf]
  exact h vs w1 he fun j f h2 h3 => by have := hd j h2; rwa [h3] at this
theorem reqM_nil {B : Nat} {l : List Oper} {fs : List (FactM B)} {a : Act} {w : World} {i : Nat} : eachF (ReqM B l fs a w) i [] := trivial
theorem toldM_at {B : Nat} {fs : List (FactM B)} {vs : Nat → Value} {w : World} {n : Nat} (h : ∀ i, i < n → (fs.getD i .any).holds (vs i) w) (i : Nat) (f : FactM B) (hi : i < n) (hf : fs.getD i .any = f) : f.holds (vs i) w := by
  have := h i hi
  rwa [hf] at this
theorem toldM_bytes {B : Nat} {xs : List UInt8} {w : World} {f : FuncId} {args : Array Value} (hB : B ≤ w.heap.size) (h : Calls Tryd.prog f args w fun e w' => Fresh w xs e w') : Calls Tryd.prog f args w fun e w' => ∃ v, e = .returned v ∧ Mk B w w' ∧ (FactM.bsl (B := B) xs).holds v w' :=
  h.mono fun _ _ ⟨v, h1, h2, h3⟩ => ⟨v, h1, Mk.ofEx hB h3, BSl.ofRow h2⟩

/-- The mark: no cell turns. -/
theorem freeze_cell (w : World) (p a : Addr) (n : Nat) : (w.freeze p n).cell? a = w.cell? a := by
  unfold World.freeze
  split
  · rfl
  · unfold World.cell?
    simp only [Array.getElem?_modify]
    by_cases h : p.block = a.block
    · rw [if_pos h]
      cases hg : w.heap[a.block]? with
      | none => simp
      | some o => cases o <;> simp
    · rw [if_neg h]
theorem freeze_keeps (w : World) (p : Addr) (n : Nat) : Keeps (fun k => k = p.block) w (w.freeze p n) := by
  unfold World.freeze
  split
  · exact Keeps.refl _ _
  · refine ⟨rfl, rfl, rfl, by simp, fun k hk hn => ?_⟩
    simp only [Array.getElem?_modify]
    rw [if_neg (fun e => hn e.symm)]
theorem run_mark (w : World) (g off n c : Nat) : ∃ w', (convert 22 22 (.slice (some ⟨g, off, none⟩) n c)).run Tryd.prog w = .ok (.slice (some ⟨g, off, none⟩) n c) w' ∧ (∀ a, w'.cell? a = w.cell? a) ∧ Keeps (fun k => k = g) w w' := by
  cases hs : w.shape? g with
  | none =>
    refine ⟨w, ?_, fun _ => rfl, Keeps.refl _ _⟩
    simp [convert, run_underlying Tryd.underlying22, run_underlying Tryd.underlying5, markStringish, shape, Sem.run, hs]
  | some p =>
    obtain ⟨t, m⟩ := p
    refine ⟨w.freeze ⟨g, m, none⟩ 1, ?_, fun _ => freeze_cell _ _ _ _, freeze_keeps w ⟨g, m, none⟩ 1⟩
    simp [convert, run_underlying Tryd.underlying22, run_underlying Tryd.underlying5, markStringish, shape, freeze, Sem.run, hs]

section
variable {o : Oper} {ρ : Operand → Value} {w : World} {x : Operand} {v : Value}
theorem gives_lit1 {B : Nat} (b : UInt8) (k : Int) (hB : B ≤ w.heap.size) (hb : (b.toNat : Int) = k) (ho : o.op = .buildSlice 22 1 #[(0, .const (.int .u8 k))]) (hρ : ρ (.const (.int .u8 k)) = .int .u8 k) : Gives Tryd.prog o ρ w fun v w2 => Mk B w w2 ∧ (FactM.lit (B := B) [b]).holds v w2 := by
  subst hb
  refine Gives.value (w' := w.alloc (.cells (bcells [b]).toArray 5)) (v := .slice (some ⟨w.heap.size, 0, none⟩) 1 1) ?_ ⟨Mk.ofEx hB (Ex.alloc w _), bsl_lit w [b] (by simp), fun k e => by cases e; exact hB⟩
  unfold execOp
  simp only [ho]
  obtain ⟨i0, hi, hz0, hz1, hz2⟩ := info_parts Tryd.infoU8
  simp [Instr.buildSlice, run_underlying Tryd.underlying22, sizeOf, typeInfo, hi, newRow, Instr.fill, hρ]
  rw [hz1, if_neg (by decide), if_neg (by decide), if_neg (by simp [Value.cells])]
  simp [Value.cells, bcells, newObj]
  have e : ∀ u : Value, (Array.map (fun x => [Value.int IntKind.u8 0][x % 1]?.getD default) (Array.range 1)).setIfInBounds 0 u = #[u] := by
    intro u
    apply Array.ext
    · simp
    · intro i h1 h2
      have : i = 0 := by simp at h2; omega
      subst this
      simp
  rw [e]
  rfl
theorem gives_mark {B : Nat} {xs : List UInt8} (hne : xs ≠ []) (hB : B ≤ w.heap.size) (ho : o.op = .convert 22 22 x) (hx : ρ x = v) (hv : (FactM.lit (B := B) xs).holds v w) : Gives Tryd.prog o ρ w fun v' w2 => Mk B w w2 ∧ (FactM.bsl (B := B) xs).holds v' w2 := by
  obtain ⟨h1, h2⟩ := hv
  obtain ⟨g, off, cap, rfl, _⟩ := h1.nonnil hne
  obtain ⟨w', hr, hc, hk⟩ := run_mark w g off xs.length cap
  have hm : Mk B w w' := ⟨hB, hk.below hB (fun k e => by subst e; exact h2 _ rfl), fun a v e => (hc a).trans e⟩
  refine Gives.value (w' := w') (v := .slice (some ⟨g, off, none⟩) xs.length cap) ?_ ⟨hm, h1.mk hm⟩
  unfold execOp
  simp only [ho, hx]
  rw [Sem.run_bind, hr]
  rfl
end
end Go.Proofs.YtllkafhooapcbaaDoor
