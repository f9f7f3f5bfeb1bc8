/- Regions of numbers: loads, calls, new places, and the stores behind them. -/
import Derived.Test.YtdgapijgdbhlfaaDoorCuD
namespace Go.Proofs.YtdgapijgdbhlfaaDoor
open Go Go.RowKit

def fadd (a b : Nat) : Nat := (a + b) % pC
def fsub (a b : Nat) : Nat := (a + (pC - b)) % pC
def fmul (a b : Nat) : Nat := a * b % pC

/-- The value of a ratio. -/
def IsR (v : Value) (x z : Nat) : Prop := ∃ X Z, v = .agg (ncells .u64 (X ++ Z)).toArray ∧ Tm X x ∧ Tm Z z
/-- The block g holds a ratio. -/
def R10 (w : World) (g x z : Nat) : Prop := ∃ X Z, NB .u64 w g 55 (X ++ Z) ∧ Tm X x ∧ Tm Z z
theorem R10.ext {w w' : World} {g x z : Nat} (h : R10 w g x z) (he : Ex w w') : R10 w' g x z := by
  obtain ⟨X, Z, h1, h2, h3⟩ := h
  exact ⟨X, Z, h1.fresh he, h2, h3⟩
theorem R10.keep {S : Nat → Prop} {w w' : World} {g x z : Nat} (h : R10 w g x z) (hk : Keeps S w w') (hn : ¬ S g) : R10 w' g x z := by
  obtain ⟨X, Z, h1, h2, h3⟩ := h
  exact ⟨X, Z, h1.keep hk hn, h2, h3⟩
theorem R10.lt {w : World} {g x z : Nat} (h : R10 w g x z) : g < w.heap.size := by obtain ⟨X, Z, h1, _⟩ := h; exact h1.lt

/-- What is known of what an operation left. -/
inductive Kd
  | any
  | ptr (g off : Nat)
  | num (a : Nat)
  | rat (x z : Nat)
  | blk (B : Nat)
def Kd.isBlk : Kd → Bool
  | .blk _ => true
  | _ => false
def Kd.holds : Kd → Value → World → Prop
  | .any, _, _ => True
  | .ptr g off, v, _ => v = .pointer (some ⟨g, off, none⟩)
  | .num a, v, _ => IsN v a
  | .rat x z, v, _ => IsR v x z
  | .blk B, v, w => ∃ g, v = .pointer (some ⟨g, 0, none⟩) ∧ B ≤ g ∧ NB .u64 w g 40 [0, 0, 0, 0, 0]
theorem Kd.ext (k : Kd) {v : Value} {w w' : World} (he : Ex w w') (h : k.holds v w) : k.holds v w' := by
  cases k with
  | blk B => obtain ⟨g, h1, h2, h3⟩ := h; exact ⟨g, h1, h2, h3.fresh he⟩
  | _ => exact h
def Kd.sep (a : Kd) (u : Value) (b : Kd) (v : Value) : Prop := a.isBlk = true → b.isBlk = true → u ≠ v
/-- What each operation of such a region must give. -/
def GP (ks : List Kd) (U : Nat) (k : Kd) (w1 : World) (v : Value) (w2 : World) : Prop :=
  Ex w1 w2 ∧ k.holds v w2 ∧ ∀ j u, j < U → (ks.getD j .any).holds u w1 → (ks.getD j .any).sep u k v
theorem GP.plain {ks : List Kd} {U : Nat} {k : Kd} {w1 w2 : World} {v : Value} (he : Ex w1 w2) (h : k.holds v w2) (hb : k.isBlk = false) : GP ks U k w1 v w2 :=
  ⟨he, h, fun _ _ _ _ _ h2 => by rw [hb] at h2; cases h2⟩

section
variable {ks : List Kd} {U : Nat} {o : Oper} {ρ : Operand → Value} {w : World} {x y : Operand}
theorem kd_field {g f off : Nat} (ho : o.op = .fieldAddr 55 x f) (hx : ρ x = .pointer (some ⟨g, 0, none⟩)) (hf : (f = 0 ∧ off = 0) ∨ (f = 1 ∧ off = 5)) : Gives Tryd.prog o ρ w (GP ks U (.ptr g off) w) :=
  gives_field ho hx hf (GP.plain (Ex.refl w) rfl rfl)
theorem kd_load {g a : Nat} (ho : o.op = .load 40 x) (hx : ρ x = .pointer (some ⟨g, 0, none⟩)) (hb : N5 w g a) : Gives Tryd.prog o ρ w (GP ks U (.num a) w) :=
  gives_load5 ho hx hb fun _ h => GP.plain (Ex.refl w) h rfl
theorem kd_loadX {g a b : Nat} (ho : o.op = .load 40 x) (hx : ρ x = .pointer (some ⟨g, 0, none⟩)) (hb : R10 w g a b) : Gives Tryd.prog o ρ w (GP ks U (.num a) w) := by
  obtain ⟨X, Z, h1, h2, h3⟩ := hb
  exact gives_load ho hx h1.rangeL h2.len (GP.plain (Ex.refl w) ⟨X, rfl, h2⟩ rfl)
theorem kd_loadZ {g a b : Nat} (ho : o.op = .load 40 x) (hx : ρ x = .pointer (some ⟨g, 5, none⟩)) (hb : R10 w g a b) : Gives Tryd.prog o ρ w (GP ks U (.num b) w) := by
  obtain ⟨X, Z, h1, h2, h3⟩ := hb
  exact gives_load ho hx (h1.rangeR h2.len) h3.len (GP.plain (Ex.refl w) ⟨Z, rfl, h3⟩ rfl)
theorem kd_plus {a b : Nat} {ts : Array TypeId} (ho : o.op = .call { callee := .value (.func 33), args := #[x, y], argTypes := ts }) (hρ : ρ (.func 33) = .func (.func 33) #[] #[]) {vx vy : Value} (ex : ρ x = vx) (hx : IsN vx a) (ey : ρ y = vy) (hy : IsN vy b) : Gives Tryd.prog o ρ w (GP ks U (.num (fadd a b)) w) :=
  gives_call (vs := #[vx, vy]) ho hρ (by simp [ex, ey]) Tryd.func33 (by kernel_rfl) (by kernel_rfl) ((plus_g hx hy w).mono fun _ _ ⟨v, h1, h2, h3⟩ => ⟨v, h1, GP.plain h3 h2 rfl⟩)
theorem kd_minus {a b : Nat} {ts : Array TypeId} (ho : o.op = .call { callee := .value (.func 34), args := #[x, y], argTypes := ts }) (hρ : ρ (.func 34) = .func (.func 34) #[] #[]) {vx vy : Value} (ex : ρ x = vx) (hx : IsN vx a) (ey : ρ y = vy) (hy : IsN vy b) (ht : Tp w) : Gives Tryd.prog o ρ w (GP ks U (.num (fsub a b)) w) :=
  gives_call (vs := #[vx, vy]) ho hρ (by simp [ex, ey]) Tryd.func34 (by kernel_rfl) (by kernel_rfl) ((minus_g hx hy w ht).mono fun _ _ ⟨v, h1, h2, h3⟩ => ⟨v, h1, GP.plain h3 h2 rfl⟩)
theorem kd_times {a b : Nat} {ts : Array TypeId} (ho : o.op = .call { callee := .value (.func 29), args := #[x, y], argTypes := ts }) (hρ : ρ (.func 29) = .func (.func 29) #[] #[]) {vx vy : Value} (ex : ρ x = vx) (hx : IsN vx a) (ey : ρ y = vy) (hy : IsN vy b) : Gives Tryd.prog o ρ w (GP ks U (.num (fmul a b)) w) :=
  gives_call (vs := #[vx, vy]) ho hρ (by simp [ex, ey]) Tryd.func29 (by kernel_rfl) (by kernel_rfl) ((times_g hx hy w).mono fun _ _ ⟨v, h1, h2, h3⟩ => ⟨v, h1, GP.plain h3 h2 rfl⟩)
theorem kd_alloc {B : Nat} (ho : o.op = .alloc 40) (hB : B ≤ w.heap.size) : Gives Tryd.prog o ρ w (GP ks U (.blk B) w) := by
  refine gives_alloc ho ⟨Ex.alloc w _, ⟨_, rfl, hB, NB.new w _⟩, fun j u hj hh hb _ => ?_⟩
  generalize ks.getD j .any = k at hh hb
  cases k with
  | blk B' =>
    obtain ⟨g, rfl, _, h3⟩ := hh
    have := h3.lt
    intro e
    injection e with e
    injection e with e
    injection e with e
    omega
  | _ => cases hb
/-- The number that 121665 is. -/
theorem tm_quarter : Tm [121665, 0, 0, 0, 0] 121665 := ⟨rfl, by decide, fun i hi => by
  match i, hi with
  | 1, _ | 2, _ | 3, _ | 4, _ => simp
  | k + 5, _ => simp, by decide⟩
theorem kd_build (ho : o.op = .build 40 #[(0, .const (.int .u64 121665))]) (hρ : ρ (.const (.int .u64 121665)) = .int .u64 121665) : Gives Tryd.prog o ρ w (GP ks U (.num 121665) w) := by
  refine Gives.value (w' := w) (v := .agg (ncells .u64 [121665, 0, 0, 0, 0]).toArray) ?_ (GP.plain (Ex.refl w) ⟨_, rfl, tm_quarter⟩ rfl)
  unfold execOp
  simp only [ho]
  have hb : (Instr.build 40 (#[((0 : Nat), Operand.const (.int .u64 121665))].map fun (i, x) => (i, ρ x))).run Tryd.prog w = .ok (.agg (ncells .u64 [121665, 0, 0, 0, 0]).toArray) w := by
    refine run_build w _ _ _ ?_
    have e : (#[((0 : Nat), Operand.const (.int .u64 121665))].map fun (i, x) => (i, ρ x)).toList = [(0, .int .u64 121665)] := by simp [hρ]
    rw [e]
    show Tryd.prog.built 40 [(0, .int .u64 121665)] = some (ncells .u64 [121665, 0, 0, 0, 0]).toArray
    kernel_rfl
  rw [Sem.run_bind, hb]
  rfl
end

theorem wpAny_one {l : List Oper} {Q : Exit → Act → World → Prop} {i fuel : Nat} {listed : Array Bool} {o : Oper} {a : Act} {w : World} (hr : Region.ready .any l.toArray listed = [i]) (ho : l[i]? = some o) (hg : o.guard = none)
    (h : o.wp Tryd.prog a w (wpAny Tryd.prog .any l.toArray Q fuel (listed.setIfInBounds i true)) Q) : wpAny Tryd.prog .any l.toArray Q (fuel + 1) listed a w := by
  refine wpAny_all hr (by simp) fun j hj => ?_
  obtain rfl := List.mem_singleton.1 hj
  unfold wpOp
  rw [show l.toArray[j]? = some o by simpa using ho]
  simp only [Region.wanted, hg, if_true]
  exact .inl h

/-- What operation i of a region must show. -/
def Req (l : List Oper) (ks : List Kd) (U : Nat) (a : Act) (w : World) (i : Nat) (o : Oper) : Prop :=
  ∀ vs w1, Ex w w1 → (∀ j, j < U → (edgesOf o).contains j = true → (ks.getD j .any).holds (vs j) w1) → Gives Tryd.prog o (actsTo l.toArray a (fun _ => true) vs U).eval w1 (GP ks U (ks.getD i .any) w1)
theorem req_op {l : List Oper} {ks : List Kd} {U : Nat} {a : Act} {w : World} {i : Nat} {o : Oper} (k : Kd) (hk : ks.getD i .any = k)
    (h : ∀ vs w1, Ex w w1 → (∀ j (k : Kd), j < U → (edgesOf o).contains j = true → ks.getD j .any = k → k.holds (vs j) w1) → Gives Tryd.prog o (actsTo l.toArray a (fun _ => true) vs U).eval w1 (GP ks U k w1)) : Req l ks U a w i o := fun vs w1 he hd => by
  rw [hk]
  exact h vs w1 he fun j k h1 h2 h3 => by have := hd j h1 h2; rwa [h3] at this
def isStore (t : TypeId) (d e : Tmp) (o : Option Oper) : Prop := o.map (fun o => (o.op, o.guard, o.dst)) = some (.store t (.tmp d) (.tmp e), none, none)
theorem isStore.spec {t : TypeId} {d e : Tmp} {o : Option Oper} (h : isStore t d e o) : ∃ o1, o = some o1 ∧ o1.op = .store t (.tmp d) (.tmp e) ∧ o1.guard = none ∧ o1.dst = none := by
  unfold isStore at h
  cases o with
  | none => simp at h
  | some o1 => simp at h; exact ⟨o1, rfl, h⟩
/-- Loads, two calls, two new places, two stores. -/
theorem region_two {id : Nat} {l : List Oper} {Q : Exit → Act → World → Prop} (U p1 p2 c1 c2 a1 a2 : Nat) {a : Act} {w : World} (ks : List Kd) (d1 e1 d2 e2 : Tmp)
    (hk : growOk l.toArray U = true) (hp : p1 < U ∧ p2 < U ∧ c1 < U ∧ c2 < U ∧ p1 ≠ p2) (hlen : l.length = U + 2)
    (k1 : ks.getD p1 .any = .blk w.heap.size) (k2 : ks.getD p2 .any = .blk w.heap.size) (k3 : ks.getD c1 .any = .num a1) (k4 : ks.getD c2 .any = .num a2)
    (hU : eachL (Req l ks U a w) 0 (l.take U))
    (hs1 : isStore 40 d1 e1 l[U]?) (hs2 : isStore 40 d2 e2 l[U + 1]?)
    (r1 : Region.ready .any l.toArray (listedU (U + 2) U) = [U]) (r2 : Region.ready .any l.toArray ((listedU (U + 2) U).setIfInBounds U true) = [U + 1]) (r3 : Region.ready .any l.toArray (((listedU (U + 2) U).setIfInBounds U true).setIfInBounds (U + 1) true) = [])
    (ev : ∀ vs, (actsTo l.toArray a (fun _ => true) vs U).eval (.tmp d1) = vs p1 ∧ (actsTo l.toArray a (fun _ => true) vs U).eval (.tmp e1) = vs c1 ∧ (actsTo l.toArray a (fun _ => true) vs U).eval (.tmp d2) = vs p2 ∧ (actsTo l.toArray a (fun _ => true) vs U).eval (.tmp e2) = vs c2)
    (hcont : ∀ vs w' g1 g2, Ex w w' → vs p1 = .pointer (some ⟨g1, 0, none⟩) → vs p2 = .pointer (some ⟨g2, 0, none⟩) → N5 w' g1 a1 → N5 w' g2 a2 → w.heap.size ≤ g1 → w.heap.size ≤ g2 → Q .normal (actsTo l.toArray a (fun _ => true) vs U) w') :
    (Code.region id l.toArray true).wp Tryd.prog Q a w := by
  obtain ⟨h1, h2, h3, h4, h5⟩ := hp
  obtain ⟨o1, ho1, hs1⟩ := hs1.spec
  obtain ⟨o2, ho2, hs2⟩ := hs2.spec
  refine region_ex U hk (fun i => (ks.getD i .any).holds) (fun i v x y he h => Kd.ext _ he h) (fun j u i v => (ks.getD j .any).sep u (ks.getD i .any) v) hU fun vs w1 he hF hS => ?_
  obtain ⟨e1', e2', e3', e4'⟩ := ev vs
  have f1 := hF p1 h1
  have f2 := hF p2 h2
  have f3 := hF c1 h3
  have f4 := hF c2 h4
  rw [k1] at f1
  rw [k2] at f2
  rw [k3] at f3
  rw [k4] at f4
  obtain ⟨g1, hg1, hb1, hn1⟩ := f1
  obtain ⟨g2, hg2, hb2, hn2⟩ := f2
  obtain ⟨R1, hv1, ht1⟩ := f3
  obtain ⟨R2, hv2, ht2⟩ := f4
  have hne : g1 ≠ g2 := by
    intro e
    subst e
    rcases hS p1 p2 h1 h2 h5 with h | h
    · exact h (by rw [k1]; rfl) (by rw [k2]; rfl) (hg1.trans hg2.symm)
    · exact h (by rw [k2]; rfl) (by rw [k1]; rfl) (hg2.trans hg1.symm)
  obtain ⟨z1, y1, x1⟩ := row_facts R1 ht1.len
  obtain ⟨z2, y2, x2⟩ := row_facts R2 ht2.len
  rw [hlen, show U + 2 - U = 1 + 1 by omega]
  refine wpAny_one r1 ho1 hs1.2.1 ?_
  refine wp_store_row 40 _ _ hs1.1 g1 (ncells .u64 R1).toArray (e1'.trans hg1) (e2'.trans hv1) 40 _ hn1 z1 x1 y1 ?_
  rw [hs1.2.2]
  refine wpAny_one r2 ho2 hs2.2.1 ?_
  have hn2' : (w1.setRow g1 (ncells .u64 R1).toArray).heap[g2]? = some (.cells (ncells .u64 [0, 0, 0, 0, 0]).toArray 40 (0, 0)) := by rw [setRow_other _ _ _ _ (Ne.symm hne)]; exact hn2
  refine wp_store_row 40 _ _ hs2.1 g2 (ncells .u64 R2).toArray (e3'.trans hg2) (e4'.trans hv2) 40 _ hn2' z2 x2 y2 ?_
  rw [hs2.2.2]
  refine wpAny_done r3 ?_ 0
  refine hcont vs _ g1 g2 ?_ hg1 hg2 ⟨R1, ?_, ht1⟩ ⟨R2, ?_, ht2⟩ hb1 hb2
  · exact below_setRow (below_setRow he hb1 _) hb2 _
  · unfold NB
    rw [setRow_other _ _ _ _ hne, setRow_heap _ _ _ _ _ _ hn1]
  · unfold NB
    rw [setRow_heap _ _ _ _ _ _ hn2']

theorem eachL_take {p : Nat → Oper → Prop} {k n : Nat} {o : Oper} {r : List Oper} (h : p k o) (t : eachL p (k + 1) (r.take n)) : eachL p k ((o :: r).take (n + 1)) := by
  rw [List.take_succ_cons]
  exact ⟨h, t⟩
theorem eachL_zero {p : Nat → Oper → Prop} {k : Nat} {l : List Oper} : eachL p k (l.take 0) := by
  rw [List.take_zero]
  exact trivial
theorem req_take {l : List Oper} {ks : List Kd} {U : Nat} {a : Act} {w : World} {i n : Nat} {o : Oper} {r : List Oper} (k : Kd) (hk : ks.getD i .any = k)
    (h : ∀ vs w1, Ex w w1 → (∀ j (k : Kd), j < U → (edgesOf o).contains j = true → ks.getD j .any = k → k.holds (vs j) w1) → Gives Tryd.prog o (actsTo l.toArray a (fun _ => true) vs U).eval w1 (GP ks U k w1))
    (t : eachL (Req l ks U a w) (i + 1) (r.take n)) : eachL (Req l ks U a w) i ((o :: r).take (n + 1)) := eachL_take (req_op k hk h) t
theorem wpList_gives {ops : Array Oper} {rest : List Oper} {o : Oper} {a : Act} {w : World} {Q : Exit → Act → World → Prop} {Φ : Value → World → Prop} (hg : o.guard = none) (h : Gives Tryd.prog o a.eval w Φ) (hK : ∀ v w', Φ v w' → wpList Tryd.prog ops Q rest (a.put o.dst v) w') : wpList Tryd.prog ops Q (o :: rest) a w :=
  wpList_plain hg fun _ hk => h.wp fun v w' hv => hk _ _ (hK v w' hv)
/-- Some cells of a row, set anew. -/
def setL : List Nat → Nat → List Nat → List Nat
  | D, _, [] => D
  | D, o, r :: rs => setL (D.set o r) (o + 1) rs
theorem NB.setCells {k : IntKind} {g : Nat} {t : TypeId} : ∀ (R D : List Nat) (o : Nat) (w : World), NB k w g t D → NB k (w.setCells g o (ncells k R)) g t (setL D o R)
  | [], _, _, _, h => h
  | r :: rs, D, o, _, h => NB.setCells rs (D.set o r) (o + 1) _ (h.set o r)
theorem Keeps.setCells {S : Nat → Prop} {g : Nat} (hg : S g) : ∀ (vs : List Value) (o : Nat) (a w : World), Keeps S a w → Keeps S a (w.setCells g o vs)
  | [], _, _, _, h => h
  | v :: r, o, a, _, h => Keeps.setCells hg r (o + 1) a _ (h.setCell (p := ⟨g, o, none⟩) (.inl hg) v)
theorem NB.there {k : IntKind} {w : World} {g : Nat} {t : TypeId} {D : List Nat} (h : NB k w g t D) (o n : Nat) (hn : o + n ≤ D.length) : w.there g o n := fun j hj => by
  refine ⟨?_, h.frozen _⟩
  rw [h.cell (o + j) (by omega)]
  rfl
theorem num_one (R : List Nat) : (ncells .u64 R).toArray.all (·.oneCell') = true := by simp [ncells, Value.oneCell']
theorem num_size' (X : List Nat) (h : X.length = 5) : (Tryd.prog.info? 40).map (·.size) = some (ncells .u64 X).toArray.size := by rw [List.size_toArray, ncells_length, h]; kernel_rfl
/-- Loads, calls, and one store into the middle of a block. -/
theorem region_mid {id : Nat} {l : List Oper} {Q : Exit → Act → World → Prop} (U p1 c1 a1 g off : Nat) {a : Act} {w : World} (ks : List Kd) (d1 e1 : Tmp) (t : TypeId) (D : List Nat)
    (hk : growOk l.toArray U = true) (hp : p1 < U ∧ c1 < U) (hlen : l.length = U + 1)
    (k1 : ks.getD p1 .any = .ptr g off) (k3 : ks.getD c1 .any = .num a1)
    (hU : eachL (Req l ks U a w) 0 (l.take U))
    (hs1 : isStore 40 d1 e1 l[U]?)
    (r1 : Region.ready .any l.toArray (listedU (U + 1) U) = [U]) (r2 : Region.ready .any l.toArray ((listedU (U + 1) U).setIfInBounds U true) = [])
    (ev : ∀ vs, (actsTo l.toArray a (fun _ => true) vs U).eval (.tmp d1) = vs p1 ∧ (actsTo l.toArray a (fun _ => true) vs U).eval (.tmp e1) = vs c1)
    (hD : NB .u64 w g t D) (hDl : off + 5 ≤ D.length)
    (hcont : ∀ vs w' R, Keeps (fun k => k = g) w w' → Tm R a1 → NB .u64 w' g t (setL D off R) → Q .normal (actsTo l.toArray a (fun _ => true) vs U) w') :
    (Code.region id l.toArray true).wp Tryd.prog Q a w := by
  obtain ⟨o1, ho1, hs1⟩ := hs1.spec
  refine region_ex U hk (fun i => (ks.getD i .any).holds) (fun i v x y he h => Kd.ext _ he h) (fun j u i v => (ks.getD j .any).sep u (ks.getD i .any) v) hU fun vs w1 he hF hS => ?_
  obtain ⟨e1', e2'⟩ := ev vs
  have f1 := hF p1 hp.1
  have f3 := hF c1 hp.2
  rw [k1] at f1
  rw [k3] at f3
  obtain ⟨R1, hv1, ht1⟩ := f3
  have hD1 := hD.fresh he
  rw [hlen, show U + 1 - U = 0 + 1 by omega]
  refine wpAny_one r1 ho1 hs1.2.1 ?_
  refine wp_store_mid 40 _ _ hs1.1 g off (ncells .u64 R1).toArray (e1'.trans f1) (e2'.trans hv1) (by rw [List.size_toArray, ncells_length, ht1.len]; exact hD1.there off 5 hDl) (num_size' R1 ht1.len) (num_one R1) ?_
  rw [hs1.2.2]
  refine wpAny_done r2 ?_ 0
  exact hcont vs _ R1 (Keeps.setCells (S := fun k => k = g) (g := g) rfl _ _ _ _ (Keeps.ofFresh he)) ht1 (NB.setCells R1 D off w1 hD1)
theorem rat_size (X Z : List Nat) (h : X.length = 5) (h2 : Z.length = 5) : (Tryd.prog.info? 55).map (·.size) = some (ncells .u64 (X ++ Z)).toArray.size := by rw [List.size_toArray, ncells_length, List.length_append, h, h2]; kernel_rfl
theorem gives_loadR {o : Oper} {ρ : Operand → Value} {w : World} {x : Operand} {g : Nat} {X Z : List Nat} {Φ : Value → World → Prop} (ho : o.op = .load 55 x) (hx : ρ x = .pointer (some ⟨g, 0, none⟩))
    (hr : NB .u64 w g 55 (X ++ Z)) (hl : X.length = 5) (hl2 : Z.length = 5) (h : Φ (.agg (ncells .u64 (X ++ Z)).toArray) w) : Gives Tryd.prog o ρ w Φ := by
  refine Gives.value (w' := w) (v := .agg (ncells .u64 (X ++ Z)).toArray) ?_ h
  unfold execOp
  simp only [ho, hx]
  rw [Sem.run_bind, run_loadAt_mid w g 0 55 _ _ hr.range Tryd.underlying55 rfl (by rw [rat_size X Z hl hl2, List.size_toArray])]
  rfl
theorem Ex.trans' {w wr wr' : World} {g : Nat} (h : Ex w wr) (hk : Keeps (fun k => k = w.heap.size + g) wr wr') : Ex w wr' := Below.trans h (hk.below (B := w.heap.size) h.size (by intro k e; omega))
/-- What lies ready in 'step'. -/
structure ST (w wr : World) (x2 z2 x3 z3 u : Nat) (D S : List Nat) : Prop where
  a : R10 wr w.heap.size x2 z2
  b : R10 wr (w.heap.size + 1) x3 z3
  u : N5 wr (w.heap.size + 2) u
  d : NB .u64 wr (w.heap.size + 3) 55 D
  s : NB .u64 wr (w.heap.size + 4) 55 S
  e : Ex w wr
  t : Tp wr
theorem ST.ext {w wr wr' : World} {x2 z2 x3 z3 u : Nat} {D S : List Nat} (h : ST w wr x2 z2 x3 z3 u D S) (he : Ex wr wr') : ST w wr' x2 z2 x3 z3 u D S :=
  ⟨h.a.ext he, h.b.ext he, h.u.ext he, h.d.fresh he, h.s.fresh he, h.e.trans he, h.t.fresh he⟩
theorem ST.size {w wr : World} {x2 z2 x3 z3 u : Nat} {D S : List Nat} (h : ST w wr x2 z2 x3 z3 u D S) : w.heap.size + 5 ≤ wr.heap.size := by have := h.s.lt; omega
theorem ST.setD {w wr wr' : World} {x2 z2 x3 z3 u : Nat} {D S D' : List Nat} (h : ST w wr x2 z2 x3 z3 u D S) (h0 : 0 < w.heap.size) (hk : Keeps (fun k => k = w.heap.size + 3) wr wr') (hd : NB .u64 wr' (w.heap.size + 3) 55 D') : ST w wr' x2 z2 x3 z3 u D' S :=
  ⟨h.a.keep hk (by omega), h.b.keep hk (by omega), h.u.keep hk (by omega), hd, h.s.keep hk (by omega), h.e.trans' hk, h.t.keep hk (by omega)⟩
theorem ST.setS {w wr wr' : World} {x2 z2 x3 z3 u : Nat} {D S S' : List Nat} (h : ST w wr x2 z2 x3 z3 u D S) (h0 : 0 < w.heap.size) (hk : Keeps (fun k => k = w.heap.size + 4) wr wr') (hd : NB .u64 wr' (w.heap.size + 4) 55 S') : ST w wr' x2 z2 x3 z3 u D S' :=
  ⟨h.a.keep hk (by omega), h.b.keep hk (by omega), h.u.keep hk (by omega), h.d.keep hk (by omega), hd, h.e.trans' hk, h.t.keep hk (by omega)⟩
end Go.Proofs.YtdgapijgdbhlfaaDoor
