/- The walk of ChansNumbers. -/
import Derived.Test.YtnimdbjbkoggdaaGreatDmE
import Derived.Lib.SlBytesConst
import Derived.Great.BuildSlice
import Derived.Laws.Rows
import Derived.Deep.CutRange
namespace Go.Proofs.YtnimdbjbkoggdaaGreat
open Go Go.RowKit

/-- No operation of the list writes the slot. -/
def offD (d : Nat) : List Oper → Bool
  | [] => true
  | o :: r => (match o.dst with | some e => !(Nat.beq e d) | none => true) && offD d r
/-- Operation j of the list alone writes the slot. -/
def atD (d : Nat) : Nat → List Oper → Bool
  | _, [] => false
  | 0, o :: r => (match o.dst with | some e => Nat.beq e d | none => false) && offD d r
  | j + 1, o :: r => (match o.dst with | some e => !(Nat.beq e d) | none => true) && atD d j r
theorem offD_at {d : Nat} : ∀ {l : List Oper}, offD d l = true → ∀ k, dstOf l.toArray k ≠ some d
  | [], _, k => by simp [dstOf]
  | o :: r, h, k => by
    unfold offD at h
    rw [Bool.and_eq_true] at h
    cases k with
    | zero =>
      have h1 := h.1
      simp only [dstOf, List.getElem?_toArray, List.getElem?_cons_zero, Option.bind_some]
      intro e
      rw [e] at h1
      simp at h1
    | succ k =>
      have := offD_at h.2 k
      simpa [dstOf] using this
theorem atD_at {d : Nat} : ∀ {l : List Oper} {j : Nat}, atD d j l = true → dstOf l.toArray j = some d ∧ j < l.length ∧ ∀ k, k ≠ j → dstOf l.toArray k ≠ some d
  | [], j, h => by cases j <;> simp [atD] at h
  | o :: r, 0, h => by
    unfold atD at h
    rw [Bool.and_eq_true] at h
    have h1 := h.1
    refine ⟨?_, by simp, fun k hk => ?_⟩
    · simp only [dstOf, List.getElem?_toArray, List.getElem?_cons_zero, Option.bind_some]
      cases e : o.dst with
      | none => rw [e] at h1; simp at h1
      | some x => rw [e] at h1; simp at h1; rw [h1]
    · cases k with
      | zero => exact absurd rfl hk
      | succ k =>
        have := offD_at h.2 k
        simpa [dstOf] using this
  | o :: r, j + 1, h => by
    unfold atD at h
    rw [Bool.and_eq_true] at h
    have h1 := h.1
    obtain ⟨q1, q2, q3⟩ := atD_at h.2
    refine ⟨by simpa [dstOf] using q1, by simpa using q2, fun k hk => ?_⟩
    cases k with
    | zero =>
      simp only [dstOf, List.getElem?_toArray, List.getElem?_cons_zero, Option.bind_some]
      intro e
      rw [e] at h1
      simp at h1
    | succ k =>
      have := q3 k (by omega)
      simpa [dstOf] using this
theorem evals_off {ops : Array Oper} {a : Act} {vs : Nat → Value} {d : Nat} : ∀ n, (∀ k, k < n → dstOf ops k ≠ some d) → (actsTo ops a (fun _ => true) vs n).eval (.tmp d) = a.eval (.tmp d)
  | 0, _ => rfl
  | n + 1, h => by
    unfold actsTo
    rw [if_pos rfl, eval_put_tmp, if_neg (fun e => h n (by omega) e.1)]
    exact evals_off n fun k hk => h k (by omega)
theorem evals_at {ops : Array Oper} {a : Act} {vs : Nat → Value} {d j : Nat} (hj : dstOf ops j = some d) (hs : d < a.tmps.size) : ∀ n, j < n → (∀ k, k ≠ j → dstOf ops k ≠ some d) → (actsTo ops a (fun _ => true) vs n).eval (.tmp d) = vs j
  | 0, h, _ => by omega
  | n + 1, h, hn => by
    unfold actsTo
    rw [if_pos rfl, eval_put_tmp, actsTo_size]
    by_cases e : n = j
    · subst e
      rw [if_pos ⟨hj, hs⟩]
    · rw [if_neg (fun q => hn n e q.1)]
      exact evals_at hj hs n (by omega) hn
theorem bsl_mark (w : World) (xs : List UInt8) (fr : Nat × Nat) (hl : xs.length ≤ 1000) : BSl (w.alloc (.cells (bcells xs).toArray 5 fr)) (.slice (some ⟨w.heap.size, 0, none⟩) xs.length xs.length) xs := by
  refine ⟨_, _, rfl, Nat.le_refl _, by unfold maxLen; omega, (fun e => by cases e), fun ad e _ => ⟨w.heap.size, 0, by cases e; rfl, fun j u hu => ?_⟩⟩
  rw [Nat.zero_add, cell_of_row _ _ _ _ _ _ (heap_alloc_new w _)]
  simpa using hu
theorem atN {l : List Oper} {a : Act} {vs : Nat → Value} (d j n : Nat) (h : atD d j l = true) (hs : decide (d < a.tmps.size) = true) (hn : decide (j < n) = true) : (actsTo l.toArray a (fun _ => true) vs n).eval (.tmp d) = vs j := by
  obtain ⟨h1, h2, h3⟩ := atD_at h
  exact evals_at h1 (of_decide_eq_true hs) _ (of_decide_eq_true hn) h3
theorem offN {l : List Oper} {a : Act} {vs : Nat → Value} (d n : Nat) (h : offD d l = true) : (actsTo l.toArray a (fun _ => true) vs n).eval (.tmp d) = a.eval (.tmp d) := evals_off _ fun k _ => offD_at h k
/-- A region that keeps its order, and whose operations only make new memory: one fact an operation. -/
def ReqS (l : List Oper) (fs : List Fact) (a : Act) (w : World) (i : Nat) (o : Oper) : Prop :=
  ∀ vs w1, Ex w w1 → (∀ j, j < i → (fs.getD j .any).holds (vs j) w1) → Gives Tryz.prog o (actsTo l.toArray a (fun _ => true) vs i).eval w1 fun v w2 => Ex w1 w2 ∧ (fs.getD i .any).holds v w2
theorem seq_go {l : List Oper} {Q : Exit → Act → World → Prop} {a : Act} {w : World} (fs : List Fact)
    (hrest : ∀ (vs : Nat → Value) (w1 : World), Ex w w1 → (∀ i, i < l.length → (fs.getD i .any).holds (vs i) w1) → Q .normal (actsTo l.toArray a (fun _ => true) vs l.length) w1) :
    ∀ (r : List Oper) (i : Nat) (vs : Nat → Value) (w1 : World), (∀ k, l[i + k]? = r[k]?) → i + r.length = l.length → r.all (fun o => o.guard.isNone) = true → eachF (ReqS l fs a w) i r → Ex w w1 → (∀ j, j < i → (fs.getD j .any).holds (vs j) w1) → wpList Tryz.prog l.toArray Q r (actsTo l.toArray a (fun _ => true) vs i) w1
  | [], i, vs, w1, _, hi, _, _, he, hF => by
    have : i = l.length := by simpa using hi
    subst this
    exact hrest vs w1 he hF
  | o :: r, i, vs, w1, hl, hi, hg, hq, he, hF => by
    have ho : l[i]? = some o := by have := hl 0; simpa using this
    have hgo : o.guard = none := by simp at hg; simpa using hg.1
    refine wpList_plain hgo fun K hK => (hq.1 vs w1 he hF).wp fun v w2 ⟨h1, h2⟩ => hK _ _ ?_
    have e : (actsTo l.toArray a (fun _ => true) vs i).put o.dst v = actsTo l.toArray a (fun _ => true) (upd vs i v) (i + 1) := by
      show _ = (if true = true then (actsTo l.toArray a (fun _ => true) (upd vs i v) i).put (dstOf l.toArray i) (upd vs i v i) else _)
      rw [if_pos rfl, actsTo_congr a (l := fun _ => true) (l' := fun _ => true) (vs := upd vs i v) (vs' := vs) i (fun j hj => ⟨rfl, by unfold upd; rw [if_neg (by omega)]⟩)]
      have hd : dstOf l.toArray i = o.dst := by unfold dstOf; rw [List.getElem?_toArray, ho]; rfl
      rw [hd]
      unfold upd
      rw [if_pos rfl]
    rw [e]
    refine seq_go fs hrest r (i + 1) (upd vs i v) w2 (fun k => by have := hl (k + 1); rw [show i + 1 + k = i + (k + 1) by omega, this]; simp) (by simp at hi; omega) (by simp at hg; simpa using hg.2) hq.2 (he.trans h1) (fun j hj => ?_)
    by_cases hji : j = i
    · subst hji
      unfold upd
      rw [if_pos rfl]
      exact h2
    · unfold upd
      rw [if_neg hji]
      exact (fs.getD j .any).ext _ _ _ h1 (hF j (by omega))
theorem seq_free {l : List Oper} {Q : Exit → Act → World → Prop} {a : Act} {w : World} (fs : List Fact) (hg : l.all (fun o => o.guard.isNone) = true) (hq : eachF (ReqS l fs a w) 0 l)
    (hrest : ∀ (vs : Nat → Value) (w1 : World), Ex w w1 → (∀ i, i < l.length → (fs.getD i .any).holds (vs i) w1) → Q .normal (actsTo l.toArray a (fun _ => true) vs l.length) w1) : wpList Tryz.prog l.toArray Q l a w :=
  seq_go fs hrest l 0 (fun _ => undef) w (fun k => by rw [Nat.zero_add]) (by omega) hg hq (Ex.refl w) (fun j hj => by omega)
theorem reqS_cons {l : List Oper} {fs : List Fact} {a : Act} {w : World} {i : Nat} {o : Oper} {r : List Oper} (f : Fact) (hf : fs.getD i .any = f)
    (h : ∀ vs w1, Ex w w1 → (∀ j (f : Fact), decide (j < i) = true → fs.getD j .any = f → f.holds (vs j) w1) → Gives Tryz.prog o (actsTo l.toArray a (fun _ => true) vs i).eval w1 fun v w2 => Ex w1 w2 ∧ f.holds v w2)
    (t : eachF (ReqS l fs a w) (i + 1) r) : eachF (ReqS l fs a w) i (o :: r) := by
  refine ⟨fun vs w1 he hd => ?_, t⟩
  rw [hf]
  exact h vs w1 he fun j f h1 h2 => by have := hd j (of_decide_eq_true h1); rwa [h2] at this
theorem cast_frame {Q : Exit → Act → World → Prop} {e : Exit} {w : World} {x a' : Act} (h : x = a') (hq : Q e a' w) : Q e x w := h ▸ hq
theorem reqS_nil {l : List Oper} {fs : List Fact} {a : Act} {w : World} {i : Nat} : eachF (ReqS l fs a w) i [] := trivial

def askV (q : AskD) : Value := .agg #[.int .i64 q.k, .int .i64 q.ch, .int .i64 q.n, .int .i64 q.m, .string q.s, q.b]
def acell (q : AskD) : List Value := [.int .i64 q.k, .int .i64 q.ch, .int .i64 q.n, .int .i64 q.m, .string q.s, q.b]
def acells : List AskD → List Value
  | [] => []
  | q :: qs => acell q ++ acells qs
theorem acells_get : ∀ (qs : List AskD) (i : Nat) (p : AskD) (j : Nat), qs[i]? = some p → j < 6 → (acells qs)[i * 6 + j]? = (acell p)[j]?
  | [], i, p, j, h, _ => by simp at h
  | q :: qs, 0, p, j, h, hj => by
    simp at h
    subst h
    rw [Nat.zero_mul, Nat.zero_add]
    exact List.getElem?_append_left (by simpa [acell] using hj)
  | q :: qs, i + 1, p, j, h, hj => by
    have := acells_get qs i p j (by simpa using h) hj
    rw [← this]
    show (acell q ++ acells qs)[_]? = _
    rw [List.getElem?_append_right (by simp [acell]; omega)]
    congr 1
    simp [acell]
    omega
theorem asl_lit (w : World) (qs : List AskD) (hq : ∀ q, q ∈ qs → BSl w q.b q.bs) (hl : qs.length ≤ 100) : ASl (w.alloc (.cells (acells qs).toArray 24)) (.slice (some ⟨w.heap.size, 0, none⟩) qs.length qs.length) qs := by
  refine ⟨_, _, rfl, Nat.le_refl _, by simp [maxLen]; omega, (fun e => by cases e), fun p hp => (hq p hp).alloc _, ?_⟩
  intro ad e _
  cases e
  refine ⟨w.heap.size, 0, rfl, fun i p hp => ?_⟩
  have hc := fun j => cell_row (cs := acells qs) (heap_alloc_new w (.cells (acells qs).toArray 24)) (i * 6 + j)
  have hg := fun j hj => acells_get qs i p j hp hj
  refine ⟨?_, ?_, ?_, ?_, ?_, ?_⟩
  · have := hc 0; rw [hg 0 (by omega)] at this; simpa [acell] using this
  · have := hc 1; rw [hg 1 (by omega)] at this; simpa [acell] using this
  · have := hc 2; rw [hg 2 (by omega)] at this; simpa [acell] using this
  · have := hc 3; rw [hg 3 (by omega)] at this; simpa [acell] using this
  · have := hc 4; rw [hg 4 (by omega)] at this; simpa [acell] using this
  · have := hc 5; rw [hg 5 (by omega)] at this; simpa [acell] using this
def Fact.ask : Fact := ⟨fun v w => ∃ q : AskD, v = askV q ∧ BSl w q.b q.bs, fun _ _ _ he ⟨q, h1, h2⟩ => ⟨q, h1, h2.fresh he⟩⟩
def Fact.byt : Fact := ⟨fun v w => ∃ xs, BSl w v xs, fun _ _ _ he ⟨q, h1⟩ => ⟨q, h1.fresh he⟩⟩
def Fact.row : Fact := ⟨fun v w => ∃ qs : List AskD, ASl w v qs ∧ qs.length ≤ 10, fun _ _ _ he ⟨q, h1, h2⟩ => ⟨q, h1.fresh he, h2⟩⟩
def Fact.tab : Fact := ⟨fun v w => ∃ (G : Nat) (R : List Value), v = .slice (some ⟨G, 0, none⟩) 21 21 ∧ R.length = 21 ∧ w.heap[G]? = some (.cells R.toArray 25 (0, 0)) ∧ ∀ u, u ∈ R → Fact.row.holds u w, fun _ _ _ he ⟨G, R, h1, h2, h3, h4⟩ => ⟨G, R, h1, h2, (he.block G (lt_of_block h3)).trans h3, fun u hu => Fact.row.ext _ _ _ he (h4 u hu)⟩⟩
/-- A place that holds an ask. -/
def BoxA (w : World) (g : Nat) : Prop := ∃ q : AskD, w.heap[g]? = some (.cells (acell q).toArray 24 (0, 0)) ∧ BSl w q.b q.bs
theorem BoxA.fresh {w w' : World} {g : Nat} (h : BoxA w g) (he : Ex w w') : BoxA w' g := by
  obtain ⟨q, h1, h2⟩ := h
  exact ⟨q, (he.block g (lt_of_block h1)).trans h1, h2.fresh he⟩
theorem Tryz.infoAskF : (Tryz.prog.info? 24).map (fun i => (i.zero, i.size)) = some (some (.agg #[.int .i64 0, .int .i64 0, .int .i64 0, .int .i64 0, .string ⟨#[]⟩, .slice none 0 0]), 6) := by kernel_rfl
theorem Tryz.infoSA : (Tryz.prog.info? 25).map (fun i => (i.zero, i.size)) = some (some (.slice none 0 0), 1) := by kernel_rfl
theorem Tryz.infoAskS : (Tryz.prog.info? 24).map (·.size) = some 6 := by kernel_rfl
section
variable {o : Oper} {ρ : Operand → Value} {w w0 : World} {x y z : Operand} {v vx vy vz : Value} {Φ : Value → World → Prop}
theorem gives_loadAsk {g : Nat} (ho : o.op = .load 24 x) (hx : ρ x = .pointer (some ⟨g, 0, none⟩)) (hg : BoxA w g) : Gives Tryz.prog o ρ w fun v w2 => Ex w w2 ∧ Fact.ask.holds v w2 := by
  obtain ⟨q, h1, h2⟩ := hg
  refine Gives.value (w' := w) (v := askV q) ?_ ⟨Ex.refl _, q, rfl, h2⟩
  unfold execOp
  simp only [ho, Instr.loadAt, Sem.run_bind, hx, Instr.sureAddr, Sem.run_pure, Result.andThen, run_loadVar_row w g 24 24 (acell q).toArray (0, 0) _ h1 Tryz.underlying24 rfl Tryz.infoAskS]
  rfl
theorem gives_mkAsk {parts : Array (Nat × Operand)} (k ch n m : Int) (s : ByteArray) (ho : o.op = .build 24 parts) (hc : Tryz.prog.built 24 (parts.map fun (i, x) => (i, ρ x)).toList = some #[.int .i64 k, .int .i64 ch, .int .i64 n, .int .i64 m, .string s, .slice none 0 0]) : Gives Tryz.prog o ρ w fun v w2 => Ex w w2 ∧ Fact.ask.holds v w2 :=
  gives_build ho hc ⟨Ex.refl _, ⟨k, ch, n, m, s, .slice none 0 0, []⟩, rfl, bsl_none _⟩
theorem gives_mkRaw (ho : o.op = .build 24 #[(0, .const (.int .i64 8)), (5, x)]) (h8 : ρ (.const (.int .i64 8)) = .int .i64 8) (hx : Fact.byt.holds (ρ x) w) : Gives Tryz.prog o ρ w fun v w2 => Ex w w2 ∧ Fact.ask.holds v w2 := by
  obtain ⟨xs, hb⟩ := hx
  obtain ⟨ba, bc, e⟩ := hb.len
  refine gives_build ho (cells := #[.int .i64 8, .int .i64 0, .int .i64 0, .int .i64 0, .string ⟨#[]⟩, .slice ba xs.length bc]) ?_ ⟨Ex.refl _, ⟨8, 0, 0, 0, ⟨#[]⟩, .slice ba xs.length bc, xs⟩, rfl, by rw [← e]; exact hb⟩
  simp only [List.map_toArray, List.map_cons, List.map_nil, h8, e]
  kernel_rfl
theorem gives_lenT (ho : o.op = .call { callee := .builtin .len, args := #[x], argTypes := #[26] }) (hx : Fact.tab.holds (ρ x) w) : Gives Tryz.prog o ρ w fun v w2 => Ex w w2 ∧ (Fact.val (.int .i64 21)).holds v w2 := by
  obtain ⟨G, R, e, _⟩ := hx
  exact gives_len ho e ⟨_, Tryz.underlying26⟩ ⟨Ex.refl _, rfl⟩
theorem info_two {t : TypeId} {z : Value} {n : Nat} (h : (Tryz.prog.info? t).map (fun i => (i.zero, i.size)) = some (some z, n)) : ∃ i, Tryz.prog.info? t = some i ∧ i.zero = some z ∧ i.size = n := by
  cases hi : Tryz.prog.info? t with
  | none => rw [hi] at h; cases h
  | some i => rw [hi] at h; simp at h; exact ⟨i, rfl, h.1, h.2⟩
theorem row_shape {w : World} {v : Value} (h : Fact.row.holds v w) : ∃ a n c, v = .slice a n c := by
  obtain ⟨qs, ⟨ao, cap, e, _⟩, _⟩ := h
  exact ⟨_, _, _, e⟩
theorem gives_byt1 (b0 : UInt8) (k0 : Int) (h0 : (b0.toNat : Int) = k0) (ho : o.op = .buildSlice 22 1 #[(0, .const (.int .u8 k0))]) (hρ : ∀ k : Int, ρ (.const (.int .u8 k)) = .int .u8 k) : Gives Tryz.prog o ρ w fun v w2 => Ex w w2 ∧ Fact.byt.holds v w2 := by
  obtain ⟨i0, hi, hz0, hz1, hz2⟩ := info_parts Tryz.infoU8
  refine Gives.value (w' := w.alloc (.cells #[.int .u8 k0] 5)) (v := .slice (some ⟨w.heap.size, 0, none⟩) 1 1) ?_ ⟨Ex.alloc w _, [b0], ?_⟩
  · unfold execOp
    simp only [ho]
    have hb := run_buildSlice (P := Tryz.prog) w 22 5 1 (#[((0 : Nat), Operand.const (.int .u8 k0))].map fun (i, x) => (i, ρ x)) #[.int .u8 k0] i0 (.int .u8 0) Tryz.underlying22 hi hz0 (by rw [hz1]; omega) (by rw [hz1]; omega) (by rw [hz1]; simp only [List.map_toArray, List.map_cons, List.map_nil, hρ]; kernel_rfl)
    rw [Sem.run_bind, hb]
    rfl
  · have := bsl_lit w [b0] (by simp)
    rw [show bcells [b0] = [.int .u8 k0] by simp [bcells, h0]] at this
    exact this
theorem gives_byt5 (b0 b1 b2 b3 b4 : UInt8) (k0 k1 k2 k3 k4 : Int) (h0 : (b0.toNat : Int) = k0) (h1 : (b1.toNat : Int) = k1) (h2 : (b2.toNat : Int) = k2) (h3 : (b3.toNat : Int) = k3) (h4 : (b4.toNat : Int) = k4) (ho : o.op = .buildSlice 22 5 #[(0, .const (.int .u8 k0)), (1, .const (.int .u8 k1)), (2, .const (.int .u8 k2)), (3, .const (.int .u8 k3)), (4, .const (.int .u8 k4))]) (hρ : ∀ k : Int, ρ (.const (.int .u8 k)) = .int .u8 k) : Gives Tryz.prog o ρ w fun v w2 => Ex w w2 ∧ Fact.byt.holds v w2 := by
  obtain ⟨i0, hi, hz0, hz1, hz2⟩ := info_parts Tryz.infoU8
  refine Gives.value (w' := w.alloc (.cells #[.int .u8 k0, .int .u8 k1, .int .u8 k2, .int .u8 k3, .int .u8 k4] 5)) (v := .slice (some ⟨w.heap.size, 0, none⟩) 5 5) ?_ ⟨Ex.alloc w _, [b0, b1, b2, b3, b4], ?_⟩
  · unfold execOp
    simp only [ho]
    have hb := run_buildSlice (P := Tryz.prog) w 22 5 5 (#[((0 : Nat), Operand.const (.int .u8 k0)), ((1 : Nat), Operand.const (.int .u8 k1)), ((2 : Nat), Operand.const (.int .u8 k2)), ((3 : Nat), Operand.const (.int .u8 k3)), ((4 : Nat), Operand.const (.int .u8 k4))].map fun (i, x) => (i, ρ x)) #[.int .u8 k0, .int .u8 k1, .int .u8 k2, .int .u8 k3, .int .u8 k4] i0 (.int .u8 0) Tryz.underlying22 hi hz0 (by rw [hz1]; omega) (by rw [hz1]; omega) (by rw [hz1]; simp only [List.map_toArray, List.map_cons, List.map_nil, hρ]; kernel_rfl)
    rw [Sem.run_bind, hb]
    rfl
  · have := bsl_lit w [b0, b1, b2, b3, b4] (by simp)
    rw [show bcells [b0, b1, b2, b3, b4] = [.int .u8 k0, .int .u8 k1, .int .u8 k2, .int .u8 k3, .int .u8 k4] by simp [bcells, h0, h1, h2, h3, h4]] at this
    exact this
theorem gives_byt9 (b0 b1 b2 b3 b4 b5 b6 b7 b8 : UInt8) (k0 k1 k2 k3 k4 k5 k6 k7 k8 : Int) (h0 : (b0.toNat : Int) = k0) (h1 : (b1.toNat : Int) = k1) (h2 : (b2.toNat : Int) = k2) (h3 : (b3.toNat : Int) = k3) (h4 : (b4.toNat : Int) = k4) (h5 : (b5.toNat : Int) = k5) (h6 : (b6.toNat : Int) = k6) (h7 : (b7.toNat : Int) = k7) (h8 : (b8.toNat : Int) = k8) (ho : o.op = .buildSlice 22 9 #[(0, .const (.int .u8 k0)), (1, .const (.int .u8 k1)), (2, .const (.int .u8 k2)), (3, .const (.int .u8 k3)), (4, .const (.int .u8 k4)), (5, .const (.int .u8 k5)), (6, .const (.int .u8 k6)), (7, .const (.int .u8 k7)), (8, .const (.int .u8 k8))]) (hρ : ∀ k : Int, ρ (.const (.int .u8 k)) = .int .u8 k) : Gives Tryz.prog o ρ w fun v w2 => Ex w w2 ∧ Fact.byt.holds v w2 := by
  obtain ⟨i0, hi, hz0, hz1, hz2⟩ := info_parts Tryz.infoU8
  refine Gives.value (w' := w.alloc (.cells #[.int .u8 k0, .int .u8 k1, .int .u8 k2, .int .u8 k3, .int .u8 k4, .int .u8 k5, .int .u8 k6, .int .u8 k7, .int .u8 k8] 5)) (v := .slice (some ⟨w.heap.size, 0, none⟩) 9 9) ?_ ⟨Ex.alloc w _, [b0, b1, b2, b3, b4, b5, b6, b7, b8], ?_⟩
  · unfold execOp
    simp only [ho]
    have hb := run_buildSlice (P := Tryz.prog) w 22 5 9 (#[((0 : Nat), Operand.const (.int .u8 k0)), ((1 : Nat), Operand.const (.int .u8 k1)), ((2 : Nat), Operand.const (.int .u8 k2)), ((3 : Nat), Operand.const (.int .u8 k3)), ((4 : Nat), Operand.const (.int .u8 k4)), ((5 : Nat), Operand.const (.int .u8 k5)), ((6 : Nat), Operand.const (.int .u8 k6)), ((7 : Nat), Operand.const (.int .u8 k7)), ((8 : Nat), Operand.const (.int .u8 k8))].map fun (i, x) => (i, ρ x)) #[.int .u8 k0, .int .u8 k1, .int .u8 k2, .int .u8 k3, .int .u8 k4, .int .u8 k5, .int .u8 k6, .int .u8 k7, .int .u8 k8] i0 (.int .u8 0) Tryz.underlying22 hi hz0 (by rw [hz1]; omega) (by rw [hz1]; omega) (by rw [hz1]; simp only [List.map_toArray, List.map_cons, List.map_nil, hρ]; kernel_rfl)
    rw [Sem.run_bind, hb]
    rfl
  · have := bsl_lit w [b0, b1, b2, b3, b4, b5, b6, b7, b8] (by simp)
    rw [show bcells [b0, b1, b2, b3, b4, b5, b6, b7, b8] = [.int .u8 k0, .int .u8 k1, .int .u8 k2, .int .u8 k3, .int .u8 k4, .int .u8 k5, .int .u8 k6, .int .u8 k7, .int .u8 k8] by simp [bcells, h0, h1, h2, h3, h4, h5, h6, h7, h8]] at this
    exact this
theorem gives_byt10 (b0 b1 b2 b3 b4 b5 b6 b7 b8 b9 : UInt8) (k0 k1 k2 k3 k4 k5 k6 k7 k8 k9 : Int) (h0 : (b0.toNat : Int) = k0) (h1 : (b1.toNat : Int) = k1) (h2 : (b2.toNat : Int) = k2) (h3 : (b3.toNat : Int) = k3) (h4 : (b4.toNat : Int) = k4) (h5 : (b5.toNat : Int) = k5) (h6 : (b6.toNat : Int) = k6) (h7 : (b7.toNat : Int) = k7) (h8 : (b8.toNat : Int) = k8) (h9 : (b9.toNat : Int) = k9) (ho : o.op = .buildSlice 22 10 #[(0, .const (.int .u8 k0)), (1, .const (.int .u8 k1)), (2, .const (.int .u8 k2)), (3, .const (.int .u8 k3)), (4, .const (.int .u8 k4)), (5, .const (.int .u8 k5)), (6, .const (.int .u8 k6)), (7, .const (.int .u8 k7)), (8, .const (.int .u8 k8)), (9, .const (.int .u8 k9))]) (hρ : ∀ k : Int, ρ (.const (.int .u8 k)) = .int .u8 k) : Gives Tryz.prog o ρ w fun v w2 => Ex w w2 ∧ Fact.byt.holds v w2 := by
  obtain ⟨i0, hi, hz0, hz1, hz2⟩ := info_parts Tryz.infoU8
  refine Gives.value (w' := w.alloc (.cells #[.int .u8 k0, .int .u8 k1, .int .u8 k2, .int .u8 k3, .int .u8 k4, .int .u8 k5, .int .u8 k6, .int .u8 k7, .int .u8 k8, .int .u8 k9] 5)) (v := .slice (some ⟨w.heap.size, 0, none⟩) 10 10) ?_ ⟨Ex.alloc w _, [b0, b1, b2, b3, b4, b5, b6, b7, b8, b9], ?_⟩
  · unfold execOp
    simp only [ho]
    have hb := run_buildSlice (P := Tryz.prog) w 22 5 10 (#[((0 : Nat), Operand.const (.int .u8 k0)), ((1 : Nat), Operand.const (.int .u8 k1)), ((2 : Nat), Operand.const (.int .u8 k2)), ((3 : Nat), Operand.const (.int .u8 k3)), ((4 : Nat), Operand.const (.int .u8 k4)), ((5 : Nat), Operand.const (.int .u8 k5)), ((6 : Nat), Operand.const (.int .u8 k6)), ((7 : Nat), Operand.const (.int .u8 k7)), ((8 : Nat), Operand.const (.int .u8 k8)), ((9 : Nat), Operand.const (.int .u8 k9))].map fun (i, x) => (i, ρ x)) #[.int .u8 k0, .int .u8 k1, .int .u8 k2, .int .u8 k3, .int .u8 k4, .int .u8 k5, .int .u8 k6, .int .u8 k7, .int .u8 k8, .int .u8 k9] i0 (.int .u8 0) Tryz.underlying22 hi hz0 (by rw [hz1]; omega) (by rw [hz1]; omega) (by rw [hz1]; simp only [List.map_toArray, List.map_cons, List.map_nil, hρ]; kernel_rfl)
    rw [Sem.run_bind, hb]
    rfl
  · have := bsl_lit w [b0, b1, b2, b3, b4, b5, b6, b7, b8, b9] (by simp)
    rw [show bcells [b0, b1, b2, b3, b4, b5, b6, b7, b8, b9] = [.int .u8 k0, .int .u8 k1, .int .u8 k2, .int .u8 k3, .int .u8 k4, .int .u8 k5, .int .u8 k6, .int .u8 k7, .int .u8 k8, .int .u8 k9] by simp [bcells, h0, h1, h2, h3, h4, h5, h6, h7, h8, h9]] at this
    exact this
theorem gives_row1 {x0 : Operand} (ho : o.op = .buildSlice 25 1 #[(0, x0)]) (h0 : Fact.ask.holds (ρ x0) w) : Gives Tryz.prog o ρ w fun v w2 => Ex w w2 ∧ Fact.row.holds v w2 := by
  obtain ⟨⟨ka0, kb0, kc0, kd0, ks0, kv0, kx0⟩, e0, g0⟩ := h0
  dsimp only at g0
  obtain ⟨ba0, bc0, rfl⟩ := g0.len
  unfold askV at e0
  dsimp only at e0
  generalize hl0 : kx0.length = kl0 at *
  obtain ⟨i0, hi, hz0, hz1⟩ := info_two Tryz.infoAskF
  refine Gives.value (w' := w.alloc (.cells (acells [⟨ka0, kb0, kc0, kd0, ks0, .slice ba0 kl0 bc0, kx0⟩]).toArray 24)) (v := .slice (some ⟨w.heap.size, 0, none⟩) 1 1) ?_ ⟨Ex.alloc w _, [⟨ka0, kb0, kc0, kd0, ks0, .slice ba0 kl0 bc0, kx0⟩], asl_lit w [⟨ka0, kb0, kc0, kd0, ks0, .slice ba0 kl0 bc0, kx0⟩] (fun q hq => by simp at hq; rcases hq with rfl <;> assumption) (by simp), by simp⟩
  unfold execOp
  simp only [ho]
  have hb := run_buildSlice (P := Tryz.prog) w 25 24 1 (#[((0 : Nat), x0)].map fun (i, x) => (i, ρ x)) (acells [⟨ka0, kb0, kc0, kd0, ks0, .slice ba0 kl0 bc0, kx0⟩]).toArray i0 (.agg #[.int .i64 0, .int .i64 0, .int .i64 0, .int .i64 0, .string ⟨#[]⟩, .slice none 0 0]) Tryz.underlying25 hi hz0 (by rw [hz1]; omega) (by rw [hz1]; omega) (by rw [hz1]; simp only [List.map_toArray, List.map_cons, List.map_nil, e0]; kernel_rfl)
  rw [Sem.run_bind, hb]
  rfl
theorem gives_row2 {x0 x1 : Operand} (ho : o.op = .buildSlice 25 2 #[(0, x0), (1, x1)]) (h0 : Fact.ask.holds (ρ x0) w) (h1 : Fact.ask.holds (ρ x1) w) : Gives Tryz.prog o ρ w fun v w2 => Ex w w2 ∧ Fact.row.holds v w2 := by
  obtain ⟨⟨ka0, kb0, kc0, kd0, ks0, kv0, kx0⟩, e0, g0⟩ := h0
  dsimp only at g0
  obtain ⟨ba0, bc0, rfl⟩ := g0.len
  unfold askV at e0
  dsimp only at e0
  generalize hl0 : kx0.length = kl0 at *
  obtain ⟨⟨ka1, kb1, kc1, kd1, ks1, kv1, kx1⟩, e1, g1⟩ := h1
  dsimp only at g1
  obtain ⟨ba1, bc1, rfl⟩ := g1.len
  unfold askV at e1
  dsimp only at e1
  generalize hl1 : kx1.length = kl1 at *
  obtain ⟨i0, hi, hz0, hz1⟩ := info_two Tryz.infoAskF
  refine Gives.value (w' := w.alloc (.cells (acells [⟨ka0, kb0, kc0, kd0, ks0, .slice ba0 kl0 bc0, kx0⟩, ⟨ka1, kb1, kc1, kd1, ks1, .slice ba1 kl1 bc1, kx1⟩]).toArray 24)) (v := .slice (some ⟨w.heap.size, 0, none⟩) 2 2) ?_ ⟨Ex.alloc w _, [⟨ka0, kb0, kc0, kd0, ks0, .slice ba0 kl0 bc0, kx0⟩, ⟨ka1, kb1, kc1, kd1, ks1, .slice ba1 kl1 bc1, kx1⟩], asl_lit w [⟨ka0, kb0, kc0, kd0, ks0, .slice ba0 kl0 bc0, kx0⟩, ⟨ka1, kb1, kc1, kd1, ks1, .slice ba1 kl1 bc1, kx1⟩] (fun q hq => by simp at hq; rcases hq with rfl | rfl <;> assumption) (by simp), by simp⟩
  unfold execOp
  simp only [ho]
  have hb := run_buildSlice (P := Tryz.prog) w 25 24 2 (#[((0 : Nat), x0), ((1 : Nat), x1)].map fun (i, x) => (i, ρ x)) (acells [⟨ka0, kb0, kc0, kd0, ks0, .slice ba0 kl0 bc0, kx0⟩, ⟨ka1, kb1, kc1, kd1, ks1, .slice ba1 kl1 bc1, kx1⟩]).toArray i0 (.agg #[.int .i64 0, .int .i64 0, .int .i64 0, .int .i64 0, .string ⟨#[]⟩, .slice none 0 0]) Tryz.underlying25 hi hz0 (by rw [hz1]; omega) (by rw [hz1]; omega) (by rw [hz1]; simp only [List.map_toArray, List.map_cons, List.map_nil, e0, e1]; kernel_rfl)
  rw [Sem.run_bind, hb]
  rfl
theorem gives_row3 {x0 x1 x2 : Operand} (ho : o.op = .buildSlice 25 3 #[(0, x0), (1, x1), (2, x2)]) (h0 : Fact.ask.holds (ρ x0) w) (h1 : Fact.ask.holds (ρ x1) w) (h2 : Fact.ask.holds (ρ x2) w) : Gives Tryz.prog o ρ w fun v w2 => Ex w w2 ∧ Fact.row.holds v w2 := by
  obtain ⟨⟨ka0, kb0, kc0, kd0, ks0, kv0, kx0⟩, e0, g0⟩ := h0
  dsimp only at g0
  obtain ⟨ba0, bc0, rfl⟩ := g0.len
  unfold askV at e0
  dsimp only at e0
  generalize hl0 : kx0.length = kl0 at *
  obtain ⟨⟨ka1, kb1, kc1, kd1, ks1, kv1, kx1⟩, e1, g1⟩ := h1
  dsimp only at g1
  obtain ⟨ba1, bc1, rfl⟩ := g1.len
  unfold askV at e1
  dsimp only at e1
  generalize hl1 : kx1.length = kl1 at *
  obtain ⟨⟨ka2, kb2, kc2, kd2, ks2, kv2, kx2⟩, e2, g2⟩ := h2
  dsimp only at g2
  obtain ⟨ba2, bc2, rfl⟩ := g2.len
  unfold askV at e2
  dsimp only at e2
  generalize hl2 : kx2.length = kl2 at *
  obtain ⟨i0, hi, hz0, hz1⟩ := info_two Tryz.infoAskF
  refine Gives.value (w' := w.alloc (.cells (acells [⟨ka0, kb0, kc0, kd0, ks0, .slice ba0 kl0 bc0, kx0⟩, ⟨ka1, kb1, kc1, kd1, ks1, .slice ba1 kl1 bc1, kx1⟩, ⟨ka2, kb2, kc2, kd2, ks2, .slice ba2 kl2 bc2, kx2⟩]).toArray 24)) (v := .slice (some ⟨w.heap.size, 0, none⟩) 3 3) ?_ ⟨Ex.alloc w _, [⟨ka0, kb0, kc0, kd0, ks0, .slice ba0 kl0 bc0, kx0⟩, ⟨ka1, kb1, kc1, kd1, ks1, .slice ba1 kl1 bc1, kx1⟩, ⟨ka2, kb2, kc2, kd2, ks2, .slice ba2 kl2 bc2, kx2⟩], asl_lit w [⟨ka0, kb0, kc0, kd0, ks0, .slice ba0 kl0 bc0, kx0⟩, ⟨ka1, kb1, kc1, kd1, ks1, .slice ba1 kl1 bc1, kx1⟩, ⟨ka2, kb2, kc2, kd2, ks2, .slice ba2 kl2 bc2, kx2⟩] (fun q hq => by simp at hq; rcases hq with rfl | rfl | rfl <;> assumption) (by simp), by simp⟩
  unfold execOp
  simp only [ho]
  have hb := run_buildSlice (P := Tryz.prog) w 25 24 3 (#[((0 : Nat), x0), ((1 : Nat), x1), ((2 : Nat), x2)].map fun (i, x) => (i, ρ x)) (acells [⟨ka0, kb0, kc0, kd0, ks0, .slice ba0 kl0 bc0, kx0⟩, ⟨ka1, kb1, kc1, kd1, ks1, .slice ba1 kl1 bc1, kx1⟩, ⟨ka2, kb2, kc2, kd2, ks2, .slice ba2 kl2 bc2, kx2⟩]).toArray i0 (.agg #[.int .i64 0, .int .i64 0, .int .i64 0, .int .i64 0, .string ⟨#[]⟩, .slice none 0 0]) Tryz.underlying25 hi hz0 (by rw [hz1]; omega) (by rw [hz1]; omega) (by rw [hz1]; simp only [List.map_toArray, List.map_cons, List.map_nil, e0, e1, e2]; kernel_rfl)
  rw [Sem.run_bind, hb]
  rfl
theorem gives_row4 {x0 x1 x2 x3 : Operand} (ho : o.op = .buildSlice 25 4 #[(0, x0), (1, x1), (2, x2), (3, x3)]) (h0 : Fact.ask.holds (ρ x0) w) (h1 : Fact.ask.holds (ρ x1) w) (h2 : Fact.ask.holds (ρ x2) w) (h3 : Fact.ask.holds (ρ x3) w) : Gives Tryz.prog o ρ w fun v w2 => Ex w w2 ∧ Fact.row.holds v w2 := by
  obtain ⟨⟨ka0, kb0, kc0, kd0, ks0, kv0, kx0⟩, e0, g0⟩ := h0
  dsimp only at g0
  obtain ⟨ba0, bc0, rfl⟩ := g0.len
  unfold askV at e0
  dsimp only at e0
  generalize hl0 : kx0.length = kl0 at *
  obtain ⟨⟨ka1, kb1, kc1, kd1, ks1, kv1, kx1⟩, e1, g1⟩ := h1
  dsimp only at g1
  obtain ⟨ba1, bc1, rfl⟩ := g1.len
  unfold askV at e1
  dsimp only at e1
  generalize hl1 : kx1.length = kl1 at *
  obtain ⟨⟨ka2, kb2, kc2, kd2, ks2, kv2, kx2⟩, e2, g2⟩ := h2
  dsimp only at g2
  obtain ⟨ba2, bc2, rfl⟩ := g2.len
  unfold askV at e2
  dsimp only at e2
  generalize hl2 : kx2.length = kl2 at *
  obtain ⟨⟨ka3, kb3, kc3, kd3, ks3, kv3, kx3⟩, e3, g3⟩ := h3
  dsimp only at g3
  obtain ⟨ba3, bc3, rfl⟩ := g3.len
  unfold askV at e3
  dsimp only at e3
  generalize hl3 : kx3.length = kl3 at *
  obtain ⟨i0, hi, hz0, hz1⟩ := info_two Tryz.infoAskF
  refine Gives.value (w' := w.alloc (.cells (acells [⟨ka0, kb0, kc0, kd0, ks0, .slice ba0 kl0 bc0, kx0⟩, ⟨ka1, kb1, kc1, kd1, ks1, .slice ba1 kl1 bc1, kx1⟩, ⟨ka2, kb2, kc2, kd2, ks2, .slice ba2 kl2 bc2, kx2⟩, ⟨ka3, kb3, kc3, kd3, ks3, .slice ba3 kl3 bc3, kx3⟩]).toArray 24)) (v := .slice (some ⟨w.heap.size, 0, none⟩) 4 4) ?_ ⟨Ex.alloc w _, [⟨ka0, kb0, kc0, kd0, ks0, .slice ba0 kl0 bc0, kx0⟩, ⟨ka1, kb1, kc1, kd1, ks1, .slice ba1 kl1 bc1, kx1⟩, ⟨ka2, kb2, kc2, kd2, ks2, .slice ba2 kl2 bc2, kx2⟩, ⟨ka3, kb3, kc3, kd3, ks3, .slice ba3 kl3 bc3, kx3⟩], asl_lit w [⟨ka0, kb0, kc0, kd0, ks0, .slice ba0 kl0 bc0, kx0⟩, ⟨ka1, kb1, kc1, kd1, ks1, .slice ba1 kl1 bc1, kx1⟩, ⟨ka2, kb2, kc2, kd2, ks2, .slice ba2 kl2 bc2, kx2⟩, ⟨ka3, kb3, kc3, kd3, ks3, .slice ba3 kl3 bc3, kx3⟩] (fun q hq => by simp at hq; rcases hq with rfl | rfl | rfl | rfl <;> assumption) (by simp), by simp⟩
  unfold execOp
  simp only [ho]
  have hb := run_buildSlice (P := Tryz.prog) w 25 24 4 (#[((0 : Nat), x0), ((1 : Nat), x1), ((2 : Nat), x2), ((3 : Nat), x3)].map fun (i, x) => (i, ρ x)) (acells [⟨ka0, kb0, kc0, kd0, ks0, .slice ba0 kl0 bc0, kx0⟩, ⟨ka1, kb1, kc1, kd1, ks1, .slice ba1 kl1 bc1, kx1⟩, ⟨ka2, kb2, kc2, kd2, ks2, .slice ba2 kl2 bc2, kx2⟩, ⟨ka3, kb3, kc3, kd3, ks3, .slice ba3 kl3 bc3, kx3⟩]).toArray i0 (.agg #[.int .i64 0, .int .i64 0, .int .i64 0, .int .i64 0, .string ⟨#[]⟩, .slice none 0 0]) Tryz.underlying25 hi hz0 (by rw [hz1]; omega) (by rw [hz1]; omega) (by rw [hz1]; simp only [List.map_toArray, List.map_cons, List.map_nil, e0, e1, e2, e3]; kernel_rfl)
  rw [Sem.run_bind, hb]
  rfl
theorem gives_row5 {x0 x1 x2 x3 x4 : Operand} (ho : o.op = .buildSlice 25 5 #[(0, x0), (1, x1), (2, x2), (3, x3), (4, x4)]) (h0 : Fact.ask.holds (ρ x0) w) (h1 : Fact.ask.holds (ρ x1) w) (h2 : Fact.ask.holds (ρ x2) w) (h3 : Fact.ask.holds (ρ x3) w) (h4 : Fact.ask.holds (ρ x4) w) : Gives Tryz.prog o ρ w fun v w2 => Ex w w2 ∧ Fact.row.holds v w2 := by
  obtain ⟨⟨ka0, kb0, kc0, kd0, ks0, kv0, kx0⟩, e0, g0⟩ := h0
  dsimp only at g0
  obtain ⟨ba0, bc0, rfl⟩ := g0.len
  unfold askV at e0
  dsimp only at e0
  generalize hl0 : kx0.length = kl0 at *
  obtain ⟨⟨ka1, kb1, kc1, kd1, ks1, kv1, kx1⟩, e1, g1⟩ := h1
  dsimp only at g1
  obtain ⟨ba1, bc1, rfl⟩ := g1.len
  unfold askV at e1
  dsimp only at e1
  generalize hl1 : kx1.length = kl1 at *
  obtain ⟨⟨ka2, kb2, kc2, kd2, ks2, kv2, kx2⟩, e2, g2⟩ := h2
  dsimp only at g2
  obtain ⟨ba2, bc2, rfl⟩ := g2.len
  unfold askV at e2
  dsimp only at e2
  generalize hl2 : kx2.length = kl2 at *
  obtain ⟨⟨ka3, kb3, kc3, kd3, ks3, kv3, kx3⟩, e3, g3⟩ := h3
  dsimp only at g3
  obtain ⟨ba3, bc3, rfl⟩ := g3.len
  unfold askV at e3
  dsimp only at e3
  generalize hl3 : kx3.length = kl3 at *
  obtain ⟨⟨ka4, kb4, kc4, kd4, ks4, kv4, kx4⟩, e4, g4⟩ := h4
  dsimp only at g4
  obtain ⟨ba4, bc4, rfl⟩ := g4.len
  unfold askV at e4
  dsimp only at e4
  generalize hl4 : kx4.length = kl4 at *
  obtain ⟨i0, hi, hz0, hz1⟩ := info_two Tryz.infoAskF
  refine Gives.value (w' := w.alloc (.cells (acells [⟨ka0, kb0, kc0, kd0, ks0, .slice ba0 kl0 bc0, kx0⟩, ⟨ka1, kb1, kc1, kd1, ks1, .slice ba1 kl1 bc1, kx1⟩, ⟨ka2, kb2, kc2, kd2, ks2, .slice ba2 kl2 bc2, kx2⟩, ⟨ka3, kb3, kc3, kd3, ks3, .slice ba3 kl3 bc3, kx3⟩, ⟨ka4, kb4, kc4, kd4, ks4, .slice ba4 kl4 bc4, kx4⟩]).toArray 24)) (v := .slice (some ⟨w.heap.size, 0, none⟩) 5 5) ?_ ⟨Ex.alloc w _, [⟨ka0, kb0, kc0, kd0, ks0, .slice ba0 kl0 bc0, kx0⟩, ⟨ka1, kb1, kc1, kd1, ks1, .slice ba1 kl1 bc1, kx1⟩, ⟨ka2, kb2, kc2, kd2, ks2, .slice ba2 kl2 bc2, kx2⟩, ⟨ka3, kb3, kc3, kd3, ks3, .slice ba3 kl3 bc3, kx3⟩, ⟨ka4, kb4, kc4, kd4, ks4, .slice ba4 kl4 bc4, kx4⟩], asl_lit w [⟨ka0, kb0, kc0, kd0, ks0, .slice ba0 kl0 bc0, kx0⟩, ⟨ka1, kb1, kc1, kd1, ks1, .slice ba1 kl1 bc1, kx1⟩, ⟨ka2, kb2, kc2, kd2, ks2, .slice ba2 kl2 bc2, kx2⟩, ⟨ka3, kb3, kc3, kd3, ks3, .slice ba3 kl3 bc3, kx3⟩, ⟨ka4, kb4, kc4, kd4, ks4, .slice ba4 kl4 bc4, kx4⟩] (fun q hq => by simp at hq; rcases hq with rfl | rfl | rfl | rfl | rfl <;> assumption) (by simp), by simp⟩
  unfold execOp
  simp only [ho]
  have hb := run_buildSlice (P := Tryz.prog) w 25 24 5 (#[((0 : Nat), x0), ((1 : Nat), x1), ((2 : Nat), x2), ((3 : Nat), x3), ((4 : Nat), x4)].map fun (i, x) => (i, ρ x)) (acells [⟨ka0, kb0, kc0, kd0, ks0, .slice ba0 kl0 bc0, kx0⟩, ⟨ka1, kb1, kc1, kd1, ks1, .slice ba1 kl1 bc1, kx1⟩, ⟨ka2, kb2, kc2, kd2, ks2, .slice ba2 kl2 bc2, kx2⟩, ⟨ka3, kb3, kc3, kd3, ks3, .slice ba3 kl3 bc3, kx3⟩, ⟨ka4, kb4, kc4, kd4, ks4, .slice ba4 kl4 bc4, kx4⟩]).toArray i0 (.agg #[.int .i64 0, .int .i64 0, .int .i64 0, .int .i64 0, .string ⟨#[]⟩, .slice none 0 0]) Tryz.underlying25 hi hz0 (by rw [hz1]; omega) (by rw [hz1]; omega) (by rw [hz1]; simp only [List.map_toArray, List.map_cons, List.map_nil, e0, e1, e2, e3, e4]; kernel_rfl)
  rw [Sem.run_bind, hb]
  rfl
theorem gives_row6 {x0 x1 x2 x3 x4 x5 : Operand} (ho : o.op = .buildSlice 25 6 #[(0, x0), (1, x1), (2, x2), (3, x3), (4, x4), (5, x5)]) (h0 : Fact.ask.holds (ρ x0) w) (h1 : Fact.ask.holds (ρ x1) w) (h2 : Fact.ask.holds (ρ x2) w) (h3 : Fact.ask.holds (ρ x3) w) (h4 : Fact.ask.holds (ρ x4) w) (h5 : Fact.ask.holds (ρ x5) w) : Gives Tryz.prog o ρ w fun v w2 => Ex w w2 ∧ Fact.row.holds v w2 := by
  obtain ⟨⟨ka0, kb0, kc0, kd0, ks0, kv0, kx0⟩, e0, g0⟩ := h0
  dsimp only at g0
  obtain ⟨ba0, bc0, rfl⟩ := g0.len
  unfold askV at e0
  dsimp only at e0
  generalize hl0 : kx0.length = kl0 at *
  obtain ⟨⟨ka1, kb1, kc1, kd1, ks1, kv1, kx1⟩, e1, g1⟩ := h1
  dsimp only at g1
  obtain ⟨ba1, bc1, rfl⟩ := g1.len
  unfold askV at e1
  dsimp only at e1
  generalize hl1 : kx1.length = kl1 at *
  obtain ⟨⟨ka2, kb2, kc2, kd2, ks2, kv2, kx2⟩, e2, g2⟩ := h2
  dsimp only at g2
  obtain ⟨ba2, bc2, rfl⟩ := g2.len
  unfold askV at e2
  dsimp only at e2
  generalize hl2 : kx2.length = kl2 at *
  obtain ⟨⟨ka3, kb3, kc3, kd3, ks3, kv3, kx3⟩, e3, g3⟩ := h3
  dsimp only at g3
  obtain ⟨ba3, bc3, rfl⟩ := g3.len
  unfold askV at e3
  dsimp only at e3
  generalize hl3 : kx3.length = kl3 at *
  obtain ⟨⟨ka4, kb4, kc4, kd4, ks4, kv4, kx4⟩, e4, g4⟩ := h4
  dsimp only at g4
  obtain ⟨ba4, bc4, rfl⟩ := g4.len
  unfold askV at e4
  dsimp only at e4
  generalize hl4 : kx4.length = kl4 at *
  obtain ⟨⟨ka5, kb5, kc5, kd5, ks5, kv5, kx5⟩, e5, g5⟩ := h5
  dsimp only at g5
  obtain ⟨ba5, bc5, rfl⟩ := g5.len
  unfold askV at e5
  dsimp only at e5
  generalize hl5 : kx5.length = kl5 at *
  obtain ⟨i0, hi, hz0, hz1⟩ := info_two Tryz.infoAskF
  refine Gives.value (w' := w.alloc (.cells (acells [⟨ka0, kb0, kc0, kd0, ks0, .slice ba0 kl0 bc0, kx0⟩, ⟨ka1, kb1, kc1, kd1, ks1, .slice ba1 kl1 bc1, kx1⟩, ⟨ka2, kb2, kc2, kd2, ks2, .slice ba2 kl2 bc2, kx2⟩, ⟨ka3, kb3, kc3, kd3, ks3, .slice ba3 kl3 bc3, kx3⟩, ⟨ka4, kb4, kc4, kd4, ks4, .slice ba4 kl4 bc4, kx4⟩, ⟨ka5, kb5, kc5, kd5, ks5, .slice ba5 kl5 bc5, kx5⟩]).toArray 24)) (v := .slice (some ⟨w.heap.size, 0, none⟩) 6 6) ?_ ⟨Ex.alloc w _, [⟨ka0, kb0, kc0, kd0, ks0, .slice ba0 kl0 bc0, kx0⟩, ⟨ka1, kb1, kc1, kd1, ks1, .slice ba1 kl1 bc1, kx1⟩, ⟨ka2, kb2, kc2, kd2, ks2, .slice ba2 kl2 bc2, kx2⟩, ⟨ka3, kb3, kc3, kd3, ks3, .slice ba3 kl3 bc3, kx3⟩, ⟨ka4, kb4, kc4, kd4, ks4, .slice ba4 kl4 bc4, kx4⟩, ⟨ka5, kb5, kc5, kd5, ks5, .slice ba5 kl5 bc5, kx5⟩], asl_lit w [⟨ka0, kb0, kc0, kd0, ks0, .slice ba0 kl0 bc0, kx0⟩, ⟨ka1, kb1, kc1, kd1, ks1, .slice ba1 kl1 bc1, kx1⟩, ⟨ka2, kb2, kc2, kd2, ks2, .slice ba2 kl2 bc2, kx2⟩, ⟨ka3, kb3, kc3, kd3, ks3, .slice ba3 kl3 bc3, kx3⟩, ⟨ka4, kb4, kc4, kd4, ks4, .slice ba4 kl4 bc4, kx4⟩, ⟨ka5, kb5, kc5, kd5, ks5, .slice ba5 kl5 bc5, kx5⟩] (fun q hq => by simp at hq; rcases hq with rfl | rfl | rfl | rfl | rfl | rfl <;> assumption) (by simp), by simp⟩
  unfold execOp
  simp only [ho]
  have hb := run_buildSlice (P := Tryz.prog) w 25 24 6 (#[((0 : Nat), x0), ((1 : Nat), x1), ((2 : Nat), x2), ((3 : Nat), x3), ((4 : Nat), x4), ((5 : Nat), x5)].map fun (i, x) => (i, ρ x)) (acells [⟨ka0, kb0, kc0, kd0, ks0, .slice ba0 kl0 bc0, kx0⟩, ⟨ka1, kb1, kc1, kd1, ks1, .slice ba1 kl1 bc1, kx1⟩, ⟨ka2, kb2, kc2, kd2, ks2, .slice ba2 kl2 bc2, kx2⟩, ⟨ka3, kb3, kc3, kd3, ks3, .slice ba3 kl3 bc3, kx3⟩, ⟨ka4, kb4, kc4, kd4, ks4, .slice ba4 kl4 bc4, kx4⟩, ⟨ka5, kb5, kc5, kd5, ks5, .slice ba5 kl5 bc5, kx5⟩]).toArray i0 (.agg #[.int .i64 0, .int .i64 0, .int .i64 0, .int .i64 0, .string ⟨#[]⟩, .slice none 0 0]) Tryz.underlying25 hi hz0 (by rw [hz1]; omega) (by rw [hz1]; omega) (by rw [hz1]; simp only [List.map_toArray, List.map_cons, List.map_nil, e0, e1, e2, e3, e4, e5]; kernel_rfl)
  rw [Sem.run_bind, hb]
  rfl
theorem gives_row7 {x0 x1 x2 x3 x4 x5 x6 : Operand} (ho : o.op = .buildSlice 25 7 #[(0, x0), (1, x1), (2, x2), (3, x3), (4, x4), (5, x5), (6, x6)]) (h0 : Fact.ask.holds (ρ x0) w) (h1 : Fact.ask.holds (ρ x1) w) (h2 : Fact.ask.holds (ρ x2) w) (h3 : Fact.ask.holds (ρ x3) w) (h4 : Fact.ask.holds (ρ x4) w) (h5 : Fact.ask.holds (ρ x5) w) (h6 : Fact.ask.holds (ρ x6) w) : Gives Tryz.prog o ρ w fun v w2 => Ex w w2 ∧ Fact.row.holds v w2 := by
  obtain ⟨⟨ka0, kb0, kc0, kd0, ks0, kv0, kx0⟩, e0, g0⟩ := h0
  dsimp only at g0
  obtain ⟨ba0, bc0, rfl⟩ := g0.len
  unfold askV at e0
  dsimp only at e0
  generalize hl0 : kx0.length = kl0 at *
  obtain ⟨⟨ka1, kb1, kc1, kd1, ks1, kv1, kx1⟩, e1, g1⟩ := h1
  dsimp only at g1
  obtain ⟨ba1, bc1, rfl⟩ := g1.len
  unfold askV at e1
  dsimp only at e1
  generalize hl1 : kx1.length = kl1 at *
  obtain ⟨⟨ka2, kb2, kc2, kd2, ks2, kv2, kx2⟩, e2, g2⟩ := h2
  dsimp only at g2
  obtain ⟨ba2, bc2, rfl⟩ := g2.len
  unfold askV at e2
  dsimp only at e2
  generalize hl2 : kx2.length = kl2 at *
  obtain ⟨⟨ka3, kb3, kc3, kd3, ks3, kv3, kx3⟩, e3, g3⟩ := h3
  dsimp only at g3
  obtain ⟨ba3, bc3, rfl⟩ := g3.len
  unfold askV at e3
  dsimp only at e3
  generalize hl3 : kx3.length = kl3 at *
  obtain ⟨⟨ka4, kb4, kc4, kd4, ks4, kv4, kx4⟩, e4, g4⟩ := h4
  dsimp only at g4
  obtain ⟨ba4, bc4, rfl⟩ := g4.len
  unfold askV at e4
  dsimp only at e4
  generalize hl4 : kx4.length = kl4 at *
  obtain ⟨⟨ka5, kb5, kc5, kd5, ks5, kv5, kx5⟩, e5, g5⟩ := h5
  dsimp only at g5
  obtain ⟨ba5, bc5, rfl⟩ := g5.len
  unfold askV at e5
  dsimp only at e5
  generalize hl5 : kx5.length = kl5 at *
  obtain ⟨⟨ka6, kb6, kc6, kd6, ks6, kv6, kx6⟩, e6, g6⟩ := h6
  dsimp only at g6
  obtain ⟨ba6, bc6, rfl⟩ := g6.len
  unfold askV at e6
  dsimp only at e6
  generalize hl6 : kx6.length = kl6 at *
  obtain ⟨i0, hi, hz0, hz1⟩ := info_two Tryz.infoAskF
  refine Gives.value (w' := w.alloc (.cells (acells [⟨ka0, kb0, kc0, kd0, ks0, .slice ba0 kl0 bc0, kx0⟩, ⟨ka1, kb1, kc1, kd1, ks1, .slice ba1 kl1 bc1, kx1⟩, ⟨ka2, kb2, kc2, kd2, ks2, .slice ba2 kl2 bc2, kx2⟩, ⟨ka3, kb3, kc3, kd3, ks3, .slice ba3 kl3 bc3, kx3⟩, ⟨ka4, kb4, kc4, kd4, ks4, .slice ba4 kl4 bc4, kx4⟩, ⟨ka5, kb5, kc5, kd5, ks5, .slice ba5 kl5 bc5, kx5⟩, ⟨ka6, kb6, kc6, kd6, ks6, .slice ba6 kl6 bc6, kx6⟩]).toArray 24)) (v := .slice (some ⟨w.heap.size, 0, none⟩) 7 7) ?_ ⟨Ex.alloc w _, [⟨ka0, kb0, kc0, kd0, ks0, .slice ba0 kl0 bc0, kx0⟩, ⟨ka1, kb1, kc1, kd1, ks1, .slice ba1 kl1 bc1, kx1⟩, ⟨ka2, kb2, kc2, kd2, ks2, .slice ba2 kl2 bc2, kx2⟩, ⟨ka3, kb3, kc3, kd3, ks3, .slice ba3 kl3 bc3, kx3⟩, ⟨ka4, kb4, kc4, kd4, ks4, .slice ba4 kl4 bc4, kx4⟩, ⟨ka5, kb5, kc5, kd5, ks5, .slice ba5 kl5 bc5, kx5⟩, ⟨ka6, kb6, kc6, kd6, ks6, .slice ba6 kl6 bc6, kx6⟩], asl_lit w [⟨ka0, kb0, kc0, kd0, ks0, .slice ba0 kl0 bc0, kx0⟩, ⟨ka1, kb1, kc1, kd1, ks1, .slice ba1 kl1 bc1, kx1⟩, ⟨ka2, kb2, kc2, kd2, ks2, .slice ba2 kl2 bc2, kx2⟩, ⟨ka3, kb3, kc3, kd3, ks3, .slice ba3 kl3 bc3, kx3⟩, ⟨ka4, kb4, kc4, kd4, ks4, .slice ba4 kl4 bc4, kx4⟩, ⟨ka5, kb5, kc5, kd5, ks5, .slice ba5 kl5 bc5, kx5⟩, ⟨ka6, kb6, kc6, kd6, ks6, .slice ba6 kl6 bc6, kx6⟩] (fun q hq => by simp at hq; rcases hq with rfl | rfl | rfl | rfl | rfl | rfl | rfl <;> assumption) (by simp), by simp⟩
  unfold execOp
  simp only [ho]
  have hb := run_buildSlice (P := Tryz.prog) w 25 24 7 (#[((0 : Nat), x0), ((1 : Nat), x1), ((2 : Nat), x2), ((3 : Nat), x3), ((4 : Nat), x4), ((5 : Nat), x5), ((6 : Nat), x6)].map fun (i, x) => (i, ρ x)) (acells [⟨ka0, kb0, kc0, kd0, ks0, .slice ba0 kl0 bc0, kx0⟩, ⟨ka1, kb1, kc1, kd1, ks1, .slice ba1 kl1 bc1, kx1⟩, ⟨ka2, kb2, kc2, kd2, ks2, .slice ba2 kl2 bc2, kx2⟩, ⟨ka3, kb3, kc3, kd3, ks3, .slice ba3 kl3 bc3, kx3⟩, ⟨ka4, kb4, kc4, kd4, ks4, .slice ba4 kl4 bc4, kx4⟩, ⟨ka5, kb5, kc5, kd5, ks5, .slice ba5 kl5 bc5, kx5⟩, ⟨ka6, kb6, kc6, kd6, ks6, .slice ba6 kl6 bc6, kx6⟩]).toArray i0 (.agg #[.int .i64 0, .int .i64 0, .int .i64 0, .int .i64 0, .string ⟨#[]⟩, .slice none 0 0]) Tryz.underlying25 hi hz0 (by rw [hz1]; omega) (by rw [hz1]; omega) (by rw [hz1]; simp only [List.map_toArray, List.map_cons, List.map_nil, e0, e1, e2, e3, e4, e5, e6]; kernel_rfl)
  rw [Sem.run_bind, hb]
  rfl
theorem gives_row8 {x0 x1 x2 x3 x4 x5 x6 x7 : Operand} (ho : o.op = .buildSlice 25 8 #[(0, x0), (1, x1), (2, x2), (3, x3), (4, x4), (5, x5), (6, x6), (7, x7)]) (h0 : Fact.ask.holds (ρ x0) w) (h1 : Fact.ask.holds (ρ x1) w) (h2 : Fact.ask.holds (ρ x2) w) (h3 : Fact.ask.holds (ρ x3) w) (h4 : Fact.ask.holds (ρ x4) w) (h5 : Fact.ask.holds (ρ x5) w) (h6 : Fact.ask.holds (ρ x6) w) (h7 : Fact.ask.holds (ρ x7) w) : Gives Tryz.prog o ρ w fun v w2 => Ex w w2 ∧ Fact.row.holds v w2 := by
  obtain ⟨⟨ka0, kb0, kc0, kd0, ks0, kv0, kx0⟩, e0, g0⟩ := h0
  dsimp only at g0
  obtain ⟨ba0, bc0, rfl⟩ := g0.len
  unfold askV at e0
  dsimp only at e0
  generalize hl0 : kx0.length = kl0 at *
  obtain ⟨⟨ka1, kb1, kc1, kd1, ks1, kv1, kx1⟩, e1, g1⟩ := h1
  dsimp only at g1
  obtain ⟨ba1, bc1, rfl⟩ := g1.len
  unfold askV at e1
  dsimp only at e1
  generalize hl1 : kx1.length = kl1 at *
  obtain ⟨⟨ka2, kb2, kc2, kd2, ks2, kv2, kx2⟩, e2, g2⟩ := h2
  dsimp only at g2
  obtain ⟨ba2, bc2, rfl⟩ := g2.len
  unfold askV at e2
  dsimp only at e2
  generalize hl2 : kx2.length = kl2 at *
  obtain ⟨⟨ka3, kb3, kc3, kd3, ks3, kv3, kx3⟩, e3, g3⟩ := h3
  dsimp only at g3
  obtain ⟨ba3, bc3, rfl⟩ := g3.len
  unfold askV at e3
  dsimp only at e3
  generalize hl3 : kx3.length = kl3 at *
  obtain ⟨⟨ka4, kb4, kc4, kd4, ks4, kv4, kx4⟩, e4, g4⟩ := h4
  dsimp only at g4
  obtain ⟨ba4, bc4, rfl⟩ := g4.len
  unfold askV at e4
  dsimp only at e4
  generalize hl4 : kx4.length = kl4 at *
  obtain ⟨⟨ka5, kb5, kc5, kd5, ks5, kv5, kx5⟩, e5, g5⟩ := h5
  dsimp only at g5
  obtain ⟨ba5, bc5, rfl⟩ := g5.len
  unfold askV at e5
  dsimp only at e5
  generalize hl5 : kx5.length = kl5 at *
  obtain ⟨⟨ka6, kb6, kc6, kd6, ks6, kv6, kx6⟩, e6, g6⟩ := h6
  dsimp only at g6
  obtain ⟨ba6, bc6, rfl⟩ := g6.len
  unfold askV at e6
  dsimp only at e6
  generalize hl6 : kx6.length = kl6 at *
  obtain ⟨⟨ka7, kb7, kc7, kd7, ks7, kv7, kx7⟩, e7, g7⟩ := h7
  dsimp only at g7
  obtain ⟨ba7, bc7, rfl⟩ := g7.len
  unfold askV at e7
  dsimp only at e7
  generalize hl7 : kx7.length = kl7 at *
  obtain ⟨i0, hi, hz0, hz1⟩ := info_two Tryz.infoAskF
  refine Gives.value (w' := w.alloc (.cells (acells [⟨ka0, kb0, kc0, kd0, ks0, .slice ba0 kl0 bc0, kx0⟩, ⟨ka1, kb1, kc1, kd1, ks1, .slice ba1 kl1 bc1, kx1⟩, ⟨ka2, kb2, kc2, kd2, ks2, .slice ba2 kl2 bc2, kx2⟩, ⟨ka3, kb3, kc3, kd3, ks3, .slice ba3 kl3 bc3, kx3⟩, ⟨ka4, kb4, kc4, kd4, ks4, .slice ba4 kl4 bc4, kx4⟩, ⟨ka5, kb5, kc5, kd5, ks5, .slice ba5 kl5 bc5, kx5⟩, ⟨ka6, kb6, kc6, kd6, ks6, .slice ba6 kl6 bc6, kx6⟩, ⟨ka7, kb7, kc7, kd7, ks7, .slice ba7 kl7 bc7, kx7⟩]).toArray 24)) (v := .slice (some ⟨w.heap.size, 0, none⟩) 8 8) ?_ ⟨Ex.alloc w _, [⟨ka0, kb0, kc0, kd0, ks0, .slice ba0 kl0 bc0, kx0⟩, ⟨ka1, kb1, kc1, kd1, ks1, .slice ba1 kl1 bc1, kx1⟩, ⟨ka2, kb2, kc2, kd2, ks2, .slice ba2 kl2 bc2, kx2⟩, ⟨ka3, kb3, kc3, kd3, ks3, .slice ba3 kl3 bc3, kx3⟩, ⟨ka4, kb4, kc4, kd4, ks4, .slice ba4 kl4 bc4, kx4⟩, ⟨ka5, kb5, kc5, kd5, ks5, .slice ba5 kl5 bc5, kx5⟩, ⟨ka6, kb6, kc6, kd6, ks6, .slice ba6 kl6 bc6, kx6⟩, ⟨ka7, kb7, kc7, kd7, ks7, .slice ba7 kl7 bc7, kx7⟩], asl_lit w [⟨ka0, kb0, kc0, kd0, ks0, .slice ba0 kl0 bc0, kx0⟩, ⟨ka1, kb1, kc1, kd1, ks1, .slice ba1 kl1 bc1, kx1⟩, ⟨ka2, kb2, kc2, kd2, ks2, .slice ba2 kl2 bc2, kx2⟩, ⟨ka3, kb3, kc3, kd3, ks3, .slice ba3 kl3 bc3, kx3⟩, ⟨ka4, kb4, kc4, kd4, ks4, .slice ba4 kl4 bc4, kx4⟩, ⟨ka5, kb5, kc5, kd5, ks5, .slice ba5 kl5 bc5, kx5⟩, ⟨ka6, kb6, kc6, kd6, ks6, .slice ba6 kl6 bc6, kx6⟩, ⟨ka7, kb7, kc7, kd7, ks7, .slice ba7 kl7 bc7, kx7⟩] (fun q hq => by simp at hq; rcases hq with rfl | rfl | rfl | rfl | rfl | rfl | rfl | rfl <;> assumption) (by simp), by simp⟩
  unfold execOp
  simp only [ho]
  have hb := run_buildSlice (P := Tryz.prog) w 25 24 8 (#[((0 : Nat), x0), ((1 : Nat), x1), ((2 : Nat), x2), ((3 : Nat), x3), ((4 : Nat), x4), ((5 : Nat), x5), ((6 : Nat), x6), ((7 : Nat), x7)].map fun (i, x) => (i, ρ x)) (acells [⟨ka0, kb0, kc0, kd0, ks0, .slice ba0 kl0 bc0, kx0⟩, ⟨ka1, kb1, kc1, kd1, ks1, .slice ba1 kl1 bc1, kx1⟩, ⟨ka2, kb2, kc2, kd2, ks2, .slice ba2 kl2 bc2, kx2⟩, ⟨ka3, kb3, kc3, kd3, ks3, .slice ba3 kl3 bc3, kx3⟩, ⟨ka4, kb4, kc4, kd4, ks4, .slice ba4 kl4 bc4, kx4⟩, ⟨ka5, kb5, kc5, kd5, ks5, .slice ba5 kl5 bc5, kx5⟩, ⟨ka6, kb6, kc6, kd6, ks6, .slice ba6 kl6 bc6, kx6⟩, ⟨ka7, kb7, kc7, kd7, ks7, .slice ba7 kl7 bc7, kx7⟩]).toArray i0 (.agg #[.int .i64 0, .int .i64 0, .int .i64 0, .int .i64 0, .string ⟨#[]⟩, .slice none 0 0]) Tryz.underlying25 hi hz0 (by rw [hz1]; omega) (by rw [hz1]; omega) (by rw [hz1]; simp only [List.map_toArray, List.map_cons, List.map_nil, e0, e1, e2, e3, e4, e5, e6, e7]; kernel_rfl)
  rw [Sem.run_bind, hb]
  rfl
theorem gives_tab {x0 x1 x2 x3 x4 x5 x6 x7 x8 x9 x10 x11 x12 x13 x14 x15 x16 x17 x18 x19 x20 : Operand} (ho : o.op = .buildSlice 26 21 #[(0, x0), (1, x1), (2, x2), (3, x3), (4, x4), (5, x5), (6, x6), (7, x7), (8, x8), (9, x9), (10, x10), (11, x11), (12, x12), (13, x13), (14, x14), (15, x15), (16, x16), (17, x17), (18, x18), (19, x19), (20, x20)]) (h0 : Fact.row.holds (ρ x0) w) (h1 : Fact.row.holds (ρ x1) w) (h2 : Fact.row.holds (ρ x2) w) (h3 : Fact.row.holds (ρ x3) w) (h4 : Fact.row.holds (ρ x4) w) (h5 : Fact.row.holds (ρ x5) w) (h6 : Fact.row.holds (ρ x6) w) (h7 : Fact.row.holds (ρ x7) w) (h8 : Fact.row.holds (ρ x8) w) (h9 : Fact.row.holds (ρ x9) w) (h10 : Fact.row.holds (ρ x10) w) (h11 : Fact.row.holds (ρ x11) w) (h12 : Fact.row.holds (ρ x12) w) (h13 : Fact.row.holds (ρ x13) w) (h14 : Fact.row.holds (ρ x14) w) (h15 : Fact.row.holds (ρ x15) w) (h16 : Fact.row.holds (ρ x16) w) (h17 : Fact.row.holds (ρ x17) w) (h18 : Fact.row.holds (ρ x18) w) (h19 : Fact.row.holds (ρ x19) w) (h20 : Fact.row.holds (ρ x20) w) : Gives Tryz.prog o ρ w fun v w2 => Ex w w2 ∧ Fact.tab.holds v w2 := by
  obtain ⟨a0, n0, c0, e0⟩ := row_shape h0
  rw [e0] at h0
  obtain ⟨a1, n1, c1, e1⟩ := row_shape h1
  rw [e1] at h1
  obtain ⟨a2, n2, c2, e2⟩ := row_shape h2
  rw [e2] at h2
  obtain ⟨a3, n3, c3, e3⟩ := row_shape h3
  rw [e3] at h3
  obtain ⟨a4, n4, c4, e4⟩ := row_shape h4
  rw [e4] at h4
  obtain ⟨a5, n5, c5, e5⟩ := row_shape h5
  rw [e5] at h5
  obtain ⟨a6, n6, c6, e6⟩ := row_shape h6
  rw [e6] at h6
  obtain ⟨a7, n7, c7, e7⟩ := row_shape h7
  rw [e7] at h7
  obtain ⟨a8, n8, c8, e8⟩ := row_shape h8
  rw [e8] at h8
  obtain ⟨a9, n9, c9, e9⟩ := row_shape h9
  rw [e9] at h9
  obtain ⟨a10, n10, c10, e10⟩ := row_shape h10
  rw [e10] at h10
  obtain ⟨a11, n11, c11, e11⟩ := row_shape h11
  rw [e11] at h11
  obtain ⟨a12, n12, c12, e12⟩ := row_shape h12
  rw [e12] at h12
  obtain ⟨a13, n13, c13, e13⟩ := row_shape h13
  rw [e13] at h13
  obtain ⟨a14, n14, c14, e14⟩ := row_shape h14
  rw [e14] at h14
  obtain ⟨a15, n15, c15, e15⟩ := row_shape h15
  rw [e15] at h15
  obtain ⟨a16, n16, c16, e16⟩ := row_shape h16
  rw [e16] at h16
  obtain ⟨a17, n17, c17, e17⟩ := row_shape h17
  rw [e17] at h17
  obtain ⟨a18, n18, c18, e18⟩ := row_shape h18
  rw [e18] at h18
  obtain ⟨a19, n19, c19, e19⟩ := row_shape h19
  rw [e19] at h19
  obtain ⟨a20, n20, c20, e20⟩ := row_shape h20
  rw [e20] at h20
  obtain ⟨i0, hi, hz0, hz1⟩ := info_two Tryz.infoSA
  refine Gives.value (w' := w.alloc (.cells ([.slice a0 n0 c0, .slice a1 n1 c1, .slice a2 n2 c2, .slice a3 n3 c3, .slice a4 n4 c4, .slice a5 n5 c5, .slice a6 n6 c6, .slice a7 n7 c7, .slice a8 n8 c8, .slice a9 n9 c9, .slice a10 n10 c10, .slice a11 n11 c11, .slice a12 n12 c12, .slice a13 n13 c13, .slice a14 n14 c14, .slice a15 n15 c15, .slice a16 n16 c16, .slice a17 n17 c17, .slice a18 n18 c18, .slice a19 n19 c19, .slice a20 n20 c20] : List Value).toArray 25)) (v := .slice (some ⟨w.heap.size, 0, none⟩) 21 21) ?_ ⟨Ex.alloc w _, w.heap.size, [.slice a0 n0 c0, .slice a1 n1 c1, .slice a2 n2 c2, .slice a3 n3 c3, .slice a4 n4 c4, .slice a5 n5 c5, .slice a6 n6 c6, .slice a7 n7 c7, .slice a8 n8 c8, .slice a9 n9 c9, .slice a10 n10 c10, .slice a11 n11 c11, .slice a12 n12 c12, .slice a13 n13 c13, .slice a14 n14 c14, .slice a15 n15 c15, .slice a16 n16 c16, .slice a17 n17 c17, .slice a18 n18 c18, .slice a19 n19 c19, .slice a20 n20 c20], rfl, rfl, heap_alloc_new w _, fun u hu => Fact.row.ext _ _ _ (Ex.alloc w _) (by simp at hu; rcases hu with rfl | rfl | rfl | rfl | rfl | rfl | rfl | rfl | rfl | rfl | rfl | rfl | rfl | rfl | rfl | rfl | rfl | rfl | rfl | rfl | rfl <;> assumption)⟩
  unfold execOp
  simp only [ho]
  have hb := run_buildSlice (P := Tryz.prog) w 26 25 21 (#[((0 : Nat), x0), ((1 : Nat), x1), ((2 : Nat), x2), ((3 : Nat), x3), ((4 : Nat), x4), ((5 : Nat), x5), ((6 : Nat), x6), ((7 : Nat), x7), ((8 : Nat), x8), ((9 : Nat), x9), ((10 : Nat), x10), ((11 : Nat), x11), ((12 : Nat), x12), ((13 : Nat), x13), ((14 : Nat), x14), ((15 : Nat), x15), ((16 : Nat), x16), ((17 : Nat), x17), ((18 : Nat), x18), ((19 : Nat), x19), ((20 : Nat), x20)].map fun (i, x) => (i, ρ x)) ([.slice a0 n0 c0, .slice a1 n1 c1, .slice a2 n2 c2, .slice a3 n3 c3, .slice a4 n4 c4, .slice a5 n5 c5, .slice a6 n6 c6, .slice a7 n7 c7, .slice a8 n8 c8, .slice a9 n9 c9, .slice a10 n10 c10, .slice a11 n11 c11, .slice a12 n12 c12, .slice a13 n13 c13, .slice a14 n14 c14, .slice a15 n15 c15, .slice a16 n16 c16, .slice a17 n17 c17, .slice a18 n18 c18, .slice a19 n19 c19, .slice a20 n20 c20] : List Value).toArray i0 (.slice none 0 0) Tryz.underlying26 hi hz0 (by rw [hz1]; omega) (by rw [hz1]; omega) (by rw [hz1]; simp only [List.map_toArray, List.map_cons, List.map_nil, e0, e1, e2, e3, e4, e5, e6, e7, e8, e9, e10, e11, e12, e13, e14, e15, e16, e17, e18, e19, e20]; kernel_rfl)
  rw [Sem.run_bind, hb]
  rfl
end

set_option maxHeartbeats 6400000 in
set_option maxRecDepth 100000 in
theorem chansNumbers_c (w : World) :
    Calls Tryz.prog 3 #[] w fun e w' => e = .returned (.bool true) ∧ Below w.heap.size w w' := by
  have HKN : Hid (∀ w1, Calls Tryz.prog 8 #[] w1 fun e w' => e = .returned (.bool true) ∧ Below w1.heap.size w1 w') := hidden known_c
  go_enter Tryz.func3, Tryz.ntmps3
  go_upto_region 2 with fail
  have hx : BoxA (w.alloc (.cells #[.int .i64 1, .int .i64 1, .int .i64 50, .int .i64 20, .string ⟨#[]⟩, .slice none 0 0] 24)) w.heap.size := ⟨⟨1, 1, 50, 20, ⟨#[]⟩, .slice none 0 0, []⟩, heap_alloc_new _ _, bsl_none _⟩
  have he : Ex w (w.alloc (.cells #[.int .i64 1, .int .i64 1, .int .i64 50, .int .i64 20, .string ⟨#[]⟩, .slice none 0 0] 24)) := Ex.alloc _ _
  obtain ⟨b1, hb1⟩ : ∃ b, b = w.heap.size := ⟨_, rfl⟩
  rw [← hb1] at hx
  rw [← hb1]
  clear hb1
  generalize w.alloc (.cells #[.int .i64 1, .int .i64 1, .int .i64 50, .int .i64 20, .string ⟨#[]⟩, .slice none 0 0] 24) = v1 at *
  have B1 := hidden hx
  have HE := hidden he
  clear hx he
  go_upto_region 3 with fail
  have hx : BoxA (v1.alloc (.cells #[.int .i64 2, .int .i64 0, .int .i64 0, .int .i64 0, .string ⟨#[]⟩, .slice none 0 0] 24)) v1.heap.size := ⟨⟨2, 0, 0, 0, ⟨#[]⟩, .slice none 0 0, []⟩, heap_alloc_new _ _, bsl_none _⟩
  have he : Ex v1 (v1.alloc (.cells #[.int .i64 2, .int .i64 0, .int .i64 0, .int .i64 0, .string ⟨#[]⟩, .slice none 0 0] 24)) := Ex.alloc _ _
  obtain ⟨b2, hb2⟩ : ∃ b, b = v1.heap.size := ⟨_, rfl⟩
  rw [← hb2] at hx
  rw [← hb2]
  clear hb2
  generalize v1.alloc (.cells #[.int .i64 2, .int .i64 0, .int .i64 0, .int .i64 0, .string ⟨#[]⟩, .slice none 0 0] 24) = v2 at *
  replace B1 := hidden (B1.out.fresh he)
  have B2 := hidden hx
  replace HE := hidden (HE.out.trans he)
  clear hx he
  have kc := Lib.run_convert_bytes_const (P := Tryz.prog) v2 22 5 #[.int .u8 120] 1 1 Tryz.underlying22 Tryz.underlying5
  rw [show (#[.int .u8 120] : Array Value).size = 1 from rfl] at kc
  go_upto_region 4 with fail
  clear kc
  have hx : BoxA ((v2.alloc (.cells #[.int .u8 120] 5 (1, 2))).alloc (.cells #[.int .i64 3, .int .i64 0, .int .i64 10, .int .i64 0, .string ⟨#[]⟩, .slice (some ⟨v2.heap.size, 0, none⟩) 1 1] 24)) (v2.heap.size + 1) := ⟨⟨3, 0, 10, 0, ⟨#[]⟩, .slice (some ⟨v2.heap.size, 0, none⟩) 1 1, [120]⟩, by rw [show v2.heap.size + 1 = (v2.alloc (.cells #[.int .u8 120] 5 (1, 2))).heap.size by simp]; exact heap_alloc_new _ _, (bsl_mark v2 [120] (1, 2) (by simp)).alloc _⟩
  have he : Ex v2 ((v2.alloc (.cells #[.int .u8 120] 5 (1, 2))).alloc (.cells #[.int .i64 3, .int .i64 0, .int .i64 10, .int .i64 0, .string ⟨#[]⟩, .slice (some ⟨v2.heap.size, 0, none⟩) 1 1] 24)) := (Ex.alloc _ _).trans (Ex.alloc _ _)
  obtain ⟨b3, hb3⟩ : ∃ b, b = v2.heap.size + 1 := ⟨_, rfl⟩
  rw [← hb3] at hx
  rw [← hb3]
  clear hb3
  generalize (v2.alloc (.cells #[.int .u8 120] 5 (1, 2))).alloc (.cells #[.int .i64 3, .int .i64 0, .int .i64 10, .int .i64 0, .string ⟨#[]⟩, .slice (some ⟨v2.heap.size, 0, none⟩) 1 1] 24) = v3 at *
  replace B1 := hidden (B1.out.fresh he)
  replace B2 := hidden (B2.out.fresh he)
  have B3 := hidden hx
  replace HE := hidden (HE.out.trans he)
  clear hx he
  have kc := Lib.run_convert_bytes_const (P := Tryz.prog) v3 22 5 #[.int .u8 120] 1 1 Tryz.underlying22 Tryz.underlying5
  rw [show (#[.int .u8 120] : Array Value).size = 1 from rfl] at kc
  go_upto_region 5 with fail
  clear kc
  have hx : BoxA ((v3.alloc (.cells #[.int .u8 120] 5 (1, 2))).alloc (.cells #[.int .i64 3, .int .i64 0, .int .i64 0, .int .i64 1, .string ⟨#[]⟩, .slice (some ⟨v3.heap.size, 0, none⟩) 1 1] 24)) (v3.heap.size + 1) := ⟨⟨3, 0, 0, 1, ⟨#[]⟩, .slice (some ⟨v3.heap.size, 0, none⟩) 1 1, [120]⟩, by rw [show v3.heap.size + 1 = (v3.alloc (.cells #[.int .u8 120] 5 (1, 2))).heap.size by simp]; exact heap_alloc_new _ _, (bsl_mark v3 [120] (1, 2) (by simp)).alloc _⟩
  have he : Ex v3 ((v3.alloc (.cells #[.int .u8 120] 5 (1, 2))).alloc (.cells #[.int .i64 3, .int .i64 0, .int .i64 0, .int .i64 1, .string ⟨#[]⟩, .slice (some ⟨v3.heap.size, 0, none⟩) 1 1] 24)) := (Ex.alloc _ _).trans (Ex.alloc _ _)
  obtain ⟨b4, hb4⟩ : ∃ b, b = v3.heap.size + 1 := ⟨_, rfl⟩
  rw [← hb4] at hx
  rw [← hb4]
  clear hb4
  generalize (v3.alloc (.cells #[.int .u8 120] 5 (1, 2))).alloc (.cells #[.int .i64 3, .int .i64 0, .int .i64 0, .int .i64 1, .string ⟨#[]⟩, .slice (some ⟨v3.heap.size, 0, none⟩) 1 1] 24) = v4 at *
  replace B1 := hidden (B1.out.fresh he)
  replace B2 := hidden (B2.out.fresh he)
  replace B3 := hidden (B3.out.fresh he)
  have B4 := hidden hx
  replace HE := hidden (HE.out.trans he)
  clear hx he
  have kc := Lib.run_convert_bytes_const (P := Tryz.prog) v4 22 5 #[.int .u8 48, .int .u8 49, .int .u8 50, .int .u8 51, .int .u8 52, .int .u8 53, .int .u8 54, .int .u8 55, .int .u8 56, .int .u8 57, .int .u8 48, .int .u8 49, .int .u8 50, .int .u8 51, .int .u8 52, .int .u8 53, .int .u8 54, .int .u8 55, .int .u8 56, .int .u8 57, .int .u8 48, .int .u8 49, .int .u8 50, .int .u8 51, .int .u8 52, .int .u8 53, .int .u8 54, .int .u8 55, .int .u8 56, .int .u8 57, .int .u8 48, .int .u8 49, .int .u8 50, .int .u8 51, .int .u8 52, .int .u8 53, .int .u8 54, .int .u8 55, .int .u8 56, .int .u8 57] 40 40 Tryz.underlying22 Tryz.underlying5
  rw [show (#[.int .u8 48, .int .u8 49, .int .u8 50, .int .u8 51, .int .u8 52, .int .u8 53, .int .u8 54, .int .u8 55, .int .u8 56, .int .u8 57, .int .u8 48, .int .u8 49, .int .u8 50, .int .u8 51, .int .u8 52, .int .u8 53, .int .u8 54, .int .u8 55, .int .u8 56, .int .u8 57, .int .u8 48, .int .u8 49, .int .u8 50, .int .u8 51, .int .u8 52, .int .u8 53, .int .u8 54, .int .u8 55, .int .u8 56, .int .u8 57, .int .u8 48, .int .u8 49, .int .u8 50, .int .u8 51, .int .u8 52, .int .u8 53, .int .u8 54, .int .u8 55, .int .u8 56, .int .u8 57] : Array Value).size = 40 from rfl] at kc
  go_upto_region 6 with fail
  clear kc
  have hx : BoxA ((v4.alloc (.cells #[.int .u8 48, .int .u8 49, .int .u8 50, .int .u8 51, .int .u8 52, .int .u8 53, .int .u8 54, .int .u8 55, .int .u8 56, .int .u8 57, .int .u8 48, .int .u8 49, .int .u8 50, .int .u8 51, .int .u8 52, .int .u8 53, .int .u8 54, .int .u8 55, .int .u8 56, .int .u8 57, .int .u8 48, .int .u8 49, .int .u8 50, .int .u8 51, .int .u8 52, .int .u8 53, .int .u8 54, .int .u8 55, .int .u8 56, .int .u8 57, .int .u8 48, .int .u8 49, .int .u8 50, .int .u8 51, .int .u8 52, .int .u8 53, .int .u8 54, .int .u8 55, .int .u8 56, .int .u8 57] 5 (40, 41))).alloc (.cells #[.int .i64 9, .int .i64 0, .int .i64 0, .int .i64 0, .string ⟨#[]⟩, .slice (some ⟨v4.heap.size, 0, none⟩) 40 40] 24)) (v4.heap.size + 1) := ⟨⟨9, 0, 0, 0, ⟨#[]⟩, .slice (some ⟨v4.heap.size, 0, none⟩) 40 40, [48, 49, 50, 51, 52, 53, 54, 55, 56, 57, 48, 49, 50, 51, 52, 53, 54, 55, 56, 57, 48, 49, 50, 51, 52, 53, 54, 55, 56, 57, 48, 49, 50, 51, 52, 53, 54, 55, 56, 57]⟩, by rw [show v4.heap.size + 1 = (v4.alloc (.cells #[.int .u8 48, .int .u8 49, .int .u8 50, .int .u8 51, .int .u8 52, .int .u8 53, .int .u8 54, .int .u8 55, .int .u8 56, .int .u8 57, .int .u8 48, .int .u8 49, .int .u8 50, .int .u8 51, .int .u8 52, .int .u8 53, .int .u8 54, .int .u8 55, .int .u8 56, .int .u8 57, .int .u8 48, .int .u8 49, .int .u8 50, .int .u8 51, .int .u8 52, .int .u8 53, .int .u8 54, .int .u8 55, .int .u8 56, .int .u8 57, .int .u8 48, .int .u8 49, .int .u8 50, .int .u8 51, .int .u8 52, .int .u8 53, .int .u8 54, .int .u8 55, .int .u8 56, .int .u8 57] 5 (40, 41))).heap.size by simp]; exact heap_alloc_new _ _, (bsl_mark v4 [48, 49, 50, 51, 52, 53, 54, 55, 56, 57, 48, 49, 50, 51, 52, 53, 54, 55, 56, 57, 48, 49, 50, 51, 52, 53, 54, 55, 56, 57, 48, 49, 50, 51, 52, 53, 54, 55, 56, 57] (40, 41) (by simp)).alloc _⟩
  have he : Ex v4 ((v4.alloc (.cells #[.int .u8 48, .int .u8 49, .int .u8 50, .int .u8 51, .int .u8 52, .int .u8 53, .int .u8 54, .int .u8 55, .int .u8 56, .int .u8 57, .int .u8 48, .int .u8 49, .int .u8 50, .int .u8 51, .int .u8 52, .int .u8 53, .int .u8 54, .int .u8 55, .int .u8 56, .int .u8 57, .int .u8 48, .int .u8 49, .int .u8 50, .int .u8 51, .int .u8 52, .int .u8 53, .int .u8 54, .int .u8 55, .int .u8 56, .int .u8 57, .int .u8 48, .int .u8 49, .int .u8 50, .int .u8 51, .int .u8 52, .int .u8 53, .int .u8 54, .int .u8 55, .int .u8 56, .int .u8 57] 5 (40, 41))).alloc (.cells #[.int .i64 9, .int .i64 0, .int .i64 0, .int .i64 0, .string ⟨#[]⟩, .slice (some ⟨v4.heap.size, 0, none⟩) 40 40] 24)) := (Ex.alloc _ _).trans (Ex.alloc _ _)
  obtain ⟨b5, hb5⟩ : ∃ b, b = v4.heap.size + 1 := ⟨_, rfl⟩
  rw [← hb5] at hx
  rw [← hb5]
  clear hb5
  generalize (v4.alloc (.cells #[.int .u8 48, .int .u8 49, .int .u8 50, .int .u8 51, .int .u8 52, .int .u8 53, .int .u8 54, .int .u8 55, .int .u8 56, .int .u8 57, .int .u8 48, .int .u8 49, .int .u8 50, .int .u8 51, .int .u8 52, .int .u8 53, .int .u8 54, .int .u8 55, .int .u8 56, .int .u8 57, .int .u8 48, .int .u8 49, .int .u8 50, .int .u8 51, .int .u8 52, .int .u8 53, .int .u8 54, .int .u8 55, .int .u8 56, .int .u8 57, .int .u8 48, .int .u8 49, .int .u8 50, .int .u8 51, .int .u8 52, .int .u8 53, .int .u8 54, .int .u8 55, .int .u8 56, .int .u8 57] 5 (40, 41))).alloc (.cells #[.int .i64 9, .int .i64 0, .int .i64 0, .int .i64 0, .string ⟨#[]⟩, .slice (some ⟨v4.heap.size, 0, none⟩) 40 40] 24) = v5 at *
  replace B1 := hidden (B1.out.fresh he)
  replace B2 := hidden (B2.out.fresh he)
  replace B3 := hidden (B3.out.fresh he)
  replace B4 := hidden (B4.out.fresh he)
  have B5 := hidden hx
  replace HE := hidden (HE.out.trans he)
  clear hx he
  go_upto_region 7 with fail
  have hx : BoxA (v5.alloc (.cells #[.int .i64 5, .int .i64 0, .int .i64 0, .int .i64 0, .string ⟨#[]⟩, .slice none 0 0] 24)) v5.heap.size := ⟨⟨5, 0, 0, 0, ⟨#[]⟩, .slice none 0 0, []⟩, heap_alloc_new _ _, bsl_none _⟩
  have he : Ex v5 (v5.alloc (.cells #[.int .i64 5, .int .i64 0, .int .i64 0, .int .i64 0, .string ⟨#[]⟩, .slice none 0 0] 24)) := Ex.alloc _ _
  obtain ⟨b6, hb6⟩ : ∃ b, b = v5.heap.size := ⟨_, rfl⟩
  rw [← hb6] at hx
  rw [← hb6]
  clear hb6
  generalize v5.alloc (.cells #[.int .i64 5, .int .i64 0, .int .i64 0, .int .i64 0, .string ⟨#[]⟩, .slice none 0 0] 24) = v6 at *
  replace B1 := hidden (B1.out.fresh he)
  replace B2 := hidden (B2.out.fresh he)
  replace B3 := hidden (B3.out.fresh he)
  replace B4 := hidden (B4.out.fresh he)
  replace B5 := hidden (B5.out.fresh he)
  have B6 := hidden hx
  replace HE := hidden (HE.out.trans he)
  clear hx he
  go_upto_region 8 with fail
  have hx : BoxA (v6.alloc (.cells #[.int .i64 6, .int .i64 0, .int .i64 0, .int .i64 0, .string ⟨#[]⟩, .slice none 0 0] 24)) v6.heap.size := ⟨⟨6, 0, 0, 0, ⟨#[]⟩, .slice none 0 0, []⟩, heap_alloc_new _ _, bsl_none _⟩
  have he : Ex v6 (v6.alloc (.cells #[.int .i64 6, .int .i64 0, .int .i64 0, .int .i64 0, .string ⟨#[]⟩, .slice none 0 0] 24)) := Ex.alloc _ _
  obtain ⟨b7, hb7⟩ : ∃ b, b = v6.heap.size := ⟨_, rfl⟩
  rw [← hb7] at hx
  rw [← hb7]
  clear hb7
  generalize v6.alloc (.cells #[.int .i64 6, .int .i64 0, .int .i64 0, .int .i64 0, .string ⟨#[]⟩, .slice none 0 0] 24) = v7 at *
  replace B1 := hidden (B1.out.fresh he)
  replace B2 := hidden (B2.out.fresh he)
  replace B3 := hidden (B3.out.fresh he)
  replace B4 := hidden (B4.out.fresh he)
  replace B5 := hidden (B5.out.fresh he)
  replace B6 := hidden (B6.out.fresh he)
  have B7 := hidden hx
  replace HE := hidden (HE.out.trans he)
  clear hx he
  go_upto_region 9 with fail
  have hx : BoxA (v7.alloc (.cells #[.int .i64 10, .int .i64 0, .int .i64 0, .int .i64 0, .string ⟨#[]⟩, .slice none 0 0] 24)) v7.heap.size := ⟨⟨10, 0, 0, 0, ⟨#[]⟩, .slice none 0 0, []⟩, heap_alloc_new _ _, bsl_none _⟩
  have he : Ex v7 (v7.alloc (.cells #[.int .i64 10, .int .i64 0, .int .i64 0, .int .i64 0, .string ⟨#[]⟩, .slice none 0 0] 24)) := Ex.alloc _ _
  obtain ⟨b8, hb8⟩ : ∃ b, b = v7.heap.size := ⟨_, rfl⟩
  rw [← hb8] at hx
  rw [← hb8]
  clear hb8
  generalize v7.alloc (.cells #[.int .i64 10, .int .i64 0, .int .i64 0, .int .i64 0, .string ⟨#[]⟩, .slice none 0 0] 24) = v8 at *
  replace B1 := hidden (B1.out.fresh he)
  replace B2 := hidden (B2.out.fresh he)
  replace B3 := hidden (B3.out.fresh he)
  replace B4 := hidden (B4.out.fresh he)
  replace B5 := hidden (B5.out.fresh he)
  replace B6 := hidden (B6.out.fresh he)
  replace B7 := hidden (B7.out.fresh he)
  have B8 := hidden hx
  replace HE := hidden (HE.out.trans he)
  clear hx he
  refine wp_region_lit (seq_free [.ask, .ask, .ask, .ask, .ask, .row, .ask, .ask, .ask, .ask, .ask, .row, .ask, .ask, .ask, .ask, .ask, .ask, .row, .ask, .ask, .ask, .ask, .ask, .ask, .ask, .ask, .row, .ask, .ask, .ask, .row, .ask, .ask, .ask, .ask, .row, .ask, .ask, .ask, .ask, .row, .ask, .ask, .ask, .ask, .ask, .ask, .ask, .ask, .row, .ask, .ask, .ask, .row, .ask, .ask, .ask, .ask, .ask, .ask, .ask, .ask, .row, .ask, .ask, .ask, .ask, .ask, .row, .ask, .row, .ask, .row, .ask, .ask, .ask, .ask, .ask, .ask, .ask, .row, .ask, .ask, .ask, .row, .ask, .byt, .ask, .row, .ask, .byt, .ask, .row, .ask, .byt, .ask, .row, .ask, .byt, .ask, .row, .ask, .ask, .ask, .row, .ask, .ask, .ask, .ask, .ask, .ask, .row, .tab, (.val (.int .i64 21)), (.val (.int .i64 0))] (by kernel_rfl) ?_ ?_)
  · refine reqS_cons .ask (by kernel_rfl) (fun vs w1 he hd => gives_loadAsk (x := .tmp 1) (by kernel_rfl) (Eq.trans (offN 1 0 (by kernel_rfl)) (by kernel_rfl)) (B1.out.fresh he)) ?_
    refine reqS_cons .ask (by kernel_rfl) (fun vs w1 he hd => gives_loadAsk (x := .tmp 1) (by kernel_rfl) (Eq.trans (offN 1 1 (by kernel_rfl)) (by kernel_rfl)) (B1.out.fresh he)) ?_
    refine reqS_cons .ask (by kernel_rfl) (fun vs w1 he hd => gives_loadAsk (x := .tmp 1) (by kernel_rfl) (Eq.trans (offN 1 2 (by kernel_rfl)) (by kernel_rfl)) (B1.out.fresh he)) ?_
    refine reqS_cons .ask (by kernel_rfl) (fun vs w1 he hd => gives_loadAsk (x := .tmp 1) (by kernel_rfl) (Eq.trans (offN 1 3 (by kernel_rfl)) (by kernel_rfl)) (B1.out.fresh he)) ?_
    refine reqS_cons .ask (by kernel_rfl) (fun vs w1 he hd => gives_loadAsk (x := .tmp 1) (by kernel_rfl) (Eq.trans (offN 1 4 (by kernel_rfl)) (by kernel_rfl)) (B1.out.fresh he)) ?_
    refine reqS_cons .row (by kernel_rfl) (fun vs w1 he hd => gives_row5 (by kernel_rfl) (by rw [atN 28 0 5 (by kernel_rfl) (by kernel_rfl) (by decide)]; exact hd 0 .ask (by decide) (by kernel_rfl)) (by rw [atN 29 1 5 (by kernel_rfl) (by kernel_rfl) (by decide)]; exact hd 1 .ask (by decide) (by kernel_rfl)) (by rw [atN 30 2 5 (by kernel_rfl) (by kernel_rfl) (by decide)]; exact hd 2 .ask (by decide) (by kernel_rfl)) (by rw [atN 31 3 5 (by kernel_rfl) (by kernel_rfl) (by decide)]; exact hd 3 .ask (by decide) (by kernel_rfl)) (by rw [atN 32 4 5 (by kernel_rfl) (by kernel_rfl) (by decide)]; exact hd 4 .ask (by decide) (by kernel_rfl))) ?_
    refine reqS_cons .ask (by kernel_rfl) (fun vs w1 he hd => gives_mkAsk (parts := #[(0, .const (.int .i64 1)), (2, .const (.int .i64 7)), (4, .const (.string ⟨#[120, 49, 49]⟩))]) 1 0 7 0 ⟨#[120, 49, 49]⟩ (by kernel_rfl) (by kernel_rfl)) ?_
    refine reqS_cons .ask (by kernel_rfl) (fun vs w1 he hd => gives_mkAsk (parts := #[(0, .const (.int .i64 1)), (2, .const (.int .i64 8))]) 1 0 8 0 ⟨#[]⟩ (by kernel_rfl) (by kernel_rfl)) ?_
    refine reqS_cons .ask (by kernel_rfl) (fun vs w1 he hd => gives_mkAsk (parts := #[(0, .const (.int .i64 1)), (2, .const (.int .i64 0)), (3, .const (.int .i64 5))]) 1 0 0 5 ⟨#[]⟩ (by kernel_rfl) (by kernel_rfl)) ?_
    refine reqS_cons .ask (by kernel_rfl) (fun vs w1 he hd => gives_loadAsk (x := .tmp 2) (by kernel_rfl) (Eq.trans (offN 2 9 (by kernel_rfl)) (by kernel_rfl)) (B2.out.fresh he)) ?_
    refine reqS_cons .ask (by kernel_rfl) (fun vs w1 he hd => gives_loadAsk (x := .tmp 5) (by kernel_rfl) (Eq.trans (offN 5 10 (by kernel_rfl)) (by kernel_rfl)) (B5.out.fresh he)) ?_
    refine reqS_cons .row (by kernel_rfl) (fun vs w1 he hd => gives_row5 (by kernel_rfl) (by rw [atN 34 6 11 (by kernel_rfl) (by kernel_rfl) (by decide)]; exact hd 6 .ask (by decide) (by kernel_rfl)) (by rw [atN 35 7 11 (by kernel_rfl) (by kernel_rfl) (by decide)]; exact hd 7 .ask (by decide) (by kernel_rfl)) (by rw [atN 36 8 11 (by kernel_rfl) (by kernel_rfl) (by decide)]; exact hd 8 .ask (by decide) (by kernel_rfl)) (by rw [atN 37 9 11 (by kernel_rfl) (by kernel_rfl) (by decide)]; exact hd 9 .ask (by decide) (by kernel_rfl)) (by rw [atN 38 10 11 (by kernel_rfl) (by kernel_rfl) (by decide)]; exact hd 10 .ask (by decide) (by kernel_rfl))) ?_
    refine reqS_cons .ask (by kernel_rfl) (fun vs w1 he hd => gives_loadAsk (x := .tmp 1) (by kernel_rfl) (Eq.trans (offN 1 12 (by kernel_rfl)) (by kernel_rfl)) (B1.out.fresh he)) ?_
    refine reqS_cons .ask (by kernel_rfl) (fun vs w1 he hd => gives_loadAsk (x := .tmp 2) (by kernel_rfl) (Eq.trans (offN 2 13 (by kernel_rfl)) (by kernel_rfl)) (B2.out.fresh he)) ?_
    refine reqS_cons .ask (by kernel_rfl) (fun vs w1 he hd => gives_loadAsk (x := .tmp 2) (by kernel_rfl) (Eq.trans (offN 2 14 (by kernel_rfl)) (by kernel_rfl)) (B2.out.fresh he)) ?_
    refine reqS_cons .ask (by kernel_rfl) (fun vs w1 he hd => gives_mkAsk (parts := #[(0, .const (.int .i64 2)), (2, .const (.int .i64 1)), (4, .const (.string ⟨#[115, 104, 101, 108, 108]⟩))]) 2 0 1 0 ⟨#[115, 104, 101, 108, 108]⟩ (by kernel_rfl) (by kernel_rfl)) ?_
    refine reqS_cons .ask (by kernel_rfl) (fun vs w1 he hd => gives_mkAsk (parts := #[(0, .const (.int .i64 2)), (3, .const (.int .i64 1)), (4, .const (.string ⟨#[115, 99, 112]⟩))]) 2 0 0 1 ⟨#[115, 99, 112]⟩ (by kernel_rfl) (by kernel_rfl)) ?_
    refine reqS_cons .ask (by kernel_rfl) (fun vs w1 he hd => gives_mkAsk (parts := #[(0, .const (.int .i64 2)), (2, .const (.int .i64 9)), (4, .const (.string ⟨#[101, 110, 118]⟩))]) 2 0 9 0 ⟨#[101, 110, 118]⟩ (by kernel_rfl) (by kernel_rfl)) ?_
    refine reqS_cons .row (by kernel_rfl) (fun vs w1 he hd => gives_row6 (by kernel_rfl) (by rw [atN 40 12 18 (by kernel_rfl) (by kernel_rfl) (by decide)]; exact hd 12 .ask (by decide) (by kernel_rfl)) (by rw [atN 41 13 18 (by kernel_rfl) (by kernel_rfl) (by decide)]; exact hd 13 .ask (by decide) (by kernel_rfl)) (by rw [atN 42 14 18 (by kernel_rfl) (by kernel_rfl) (by decide)]; exact hd 14 .ask (by decide) (by kernel_rfl)) (by rw [atN 43 15 18 (by kernel_rfl) (by kernel_rfl) (by decide)]; exact hd 15 .ask (by decide) (by kernel_rfl)) (by rw [atN 44 16 18 (by kernel_rfl) (by kernel_rfl) (by decide)]; exact hd 16 .ask (by decide) (by kernel_rfl)) (by rw [atN 45 17 18 (by kernel_rfl) (by kernel_rfl) (by decide)]; exact hd 17 .ask (by decide) (by kernel_rfl))) ?_
    refine reqS_cons .ask (by kernel_rfl) (fun vs w1 he hd => gives_loadAsk (x := .tmp 1) (by kernel_rfl) (Eq.trans (offN 1 19 (by kernel_rfl)) (by kernel_rfl)) (B1.out.fresh he)) ?_
    refine reqS_cons .ask (by kernel_rfl) (fun vs w1 he hd => gives_loadAsk (x := .tmp 3) (by kernel_rfl) (Eq.trans (offN 3 20 (by kernel_rfl)) (by kernel_rfl)) (B3.out.fresh he)) ?_
    refine reqS_cons .ask (by kernel_rfl) (fun vs w1 he hd => gives_loadAsk (x := .tmp 2) (by kernel_rfl) (Eq.trans (offN 2 21 (by kernel_rfl)) (by kernel_rfl)) (B2.out.fresh he)) ?_
    refine reqS_cons .ask (by kernel_rfl) (fun vs w1 he hd => gives_loadAsk (x := .tmp 3) (by kernel_rfl) (Eq.trans (offN 3 22 (by kernel_rfl)) (by kernel_rfl)) (B3.out.fresh he)) ?_
    refine reqS_cons .ask (by kernel_rfl) (fun vs w1 he hd => gives_loadAsk (x := .tmp 4) (by kernel_rfl) (Eq.trans (offN 4 23 (by kernel_rfl)) (by kernel_rfl)) (B4.out.fresh he)) ?_
    refine reqS_cons .ask (by kernel_rfl) (fun vs w1 he hd => gives_loadAsk (x := .tmp 4) (by kernel_rfl) (Eq.trans (offN 4 24 (by kernel_rfl)) (by kernel_rfl)) (B4.out.fresh he)) ?_
    refine reqS_cons .ask (by kernel_rfl) (fun vs w1 he hd => gives_loadAsk (x := .tmp 4) (by kernel_rfl) (Eq.trans (offN 4 25 (by kernel_rfl)) (by kernel_rfl)) (B4.out.fresh he)) ?_
    refine reqS_cons .ask (by kernel_rfl) (fun vs w1 he hd => gives_loadAsk (x := .tmp 3) (by kernel_rfl) (Eq.trans (offN 3 26 (by kernel_rfl)) (by kernel_rfl)) (B3.out.fresh he)) ?_
    refine reqS_cons .row (by kernel_rfl) (fun vs w1 he hd => gives_row8 (by kernel_rfl) (by rw [atN 47 19 27 (by kernel_rfl) (by kernel_rfl) (by decide)]; exact hd 19 .ask (by decide) (by kernel_rfl)) (by rw [atN 48 20 27 (by kernel_rfl) (by kernel_rfl) (by decide)]; exact hd 20 .ask (by decide) (by kernel_rfl)) (by rw [atN 49 21 27 (by kernel_rfl) (by kernel_rfl) (by decide)]; exact hd 21 .ask (by decide) (by kernel_rfl)) (by rw [atN 50 22 27 (by kernel_rfl) (by kernel_rfl) (by decide)]; exact hd 22 .ask (by decide) (by kernel_rfl)) (by rw [atN 51 23 27 (by kernel_rfl) (by kernel_rfl) (by decide)]; exact hd 23 .ask (by decide) (by kernel_rfl)) (by rw [atN 52 24 27 (by kernel_rfl) (by kernel_rfl) (by decide)]; exact hd 24 .ask (by decide) (by kernel_rfl)) (by rw [atN 53 25 27 (by kernel_rfl) (by kernel_rfl) (by decide)]; exact hd 25 .ask (by decide) (by kernel_rfl)) (by rw [atN 54 26 27 (by kernel_rfl) (by kernel_rfl) (by decide)]; exact hd 26 .ask (by decide) (by kernel_rfl))) ?_
    refine reqS_cons .ask (by kernel_rfl) (fun vs w1 he hd => gives_loadAsk (x := .tmp 1) (by kernel_rfl) (Eq.trans (offN 1 28 (by kernel_rfl)) (by kernel_rfl)) (B1.out.fresh he)) ?_
    refine reqS_cons .ask (by kernel_rfl) (fun vs w1 he hd => gives_loadAsk (x := .tmp 2) (by kernel_rfl) (Eq.trans (offN 2 29 (by kernel_rfl)) (by kernel_rfl)) (B2.out.fresh he)) ?_
    refine reqS_cons .ask (by kernel_rfl) (fun vs w1 he hd => gives_mkAsk (parts := #[(0, .const (.int .i64 3)), (3, .const (.int .i64 2))]) 3 0 0 2 ⟨#[]⟩ (by kernel_rfl) (by kernel_rfl)) ?_
    refine reqS_cons .row (by kernel_rfl) (fun vs w1 he hd => gives_row3 (by kernel_rfl) (by rw [atN 56 28 31 (by kernel_rfl) (by kernel_rfl) (by decide)]; exact hd 28 .ask (by decide) (by kernel_rfl)) (by rw [atN 57 29 31 (by kernel_rfl) (by kernel_rfl) (by decide)]; exact hd 29 .ask (by decide) (by kernel_rfl)) (by rw [atN 58 30 31 (by kernel_rfl) (by kernel_rfl) (by decide)]; exact hd 30 .ask (by decide) (by kernel_rfl))) ?_
    refine reqS_cons .ask (by kernel_rfl) (fun vs w1 he hd => gives_loadAsk (x := .tmp 1) (by kernel_rfl) (Eq.trans (offN 1 32 (by kernel_rfl)) (by kernel_rfl)) (B1.out.fresh he)) ?_
    refine reqS_cons .ask (by kernel_rfl) (fun vs w1 he hd => gives_loadAsk (x := .tmp 2) (by kernel_rfl) (Eq.trans (offN 2 33 (by kernel_rfl)) (by kernel_rfl)) (B2.out.fresh he)) ?_
    refine reqS_cons .ask (by kernel_rfl) (fun vs w1 he hd => gives_loadAsk (x := .tmp 6) (by kernel_rfl) (Eq.trans (offN 6 34 (by kernel_rfl)) (by kernel_rfl)) (B6.out.fresh he)) ?_
    refine reqS_cons .ask (by kernel_rfl) (fun vs w1 he hd => gives_loadAsk (x := .tmp 3) (by kernel_rfl) (Eq.trans (offN 3 35 (by kernel_rfl)) (by kernel_rfl)) (B3.out.fresh he)) ?_
    refine reqS_cons .row (by kernel_rfl) (fun vs w1 he hd => gives_row4 (by kernel_rfl) (by rw [atN 60 32 36 (by kernel_rfl) (by kernel_rfl) (by decide)]; exact hd 32 .ask (by decide) (by kernel_rfl)) (by rw [atN 61 33 36 (by kernel_rfl) (by kernel_rfl) (by decide)]; exact hd 33 .ask (by decide) (by kernel_rfl)) (by rw [atN 62 34 36 (by kernel_rfl) (by kernel_rfl) (by decide)]; exact hd 34 .ask (by decide) (by kernel_rfl)) (by rw [atN 63 35 36 (by kernel_rfl) (by kernel_rfl) (by decide)]; exact hd 35 .ask (by decide) (by kernel_rfl))) ?_
    refine reqS_cons .ask (by kernel_rfl) (fun vs w1 he hd => gives_loadAsk (x := .tmp 1) (by kernel_rfl) (Eq.trans (offN 1 37 (by kernel_rfl)) (by kernel_rfl)) (B1.out.fresh he)) ?_
    refine reqS_cons .ask (by kernel_rfl) (fun vs w1 he hd => gives_loadAsk (x := .tmp 2) (by kernel_rfl) (Eq.trans (offN 2 38 (by kernel_rfl)) (by kernel_rfl)) (B2.out.fresh he)) ?_
    refine reqS_cons .ask (by kernel_rfl) (fun vs w1 he hd => gives_loadAsk (x := .tmp 6) (by kernel_rfl) (Eq.trans (offN 6 39 (by kernel_rfl)) (by kernel_rfl)) (B6.out.fresh he)) ?_
    refine reqS_cons .ask (by kernel_rfl) (fun vs w1 he hd => gives_loadAsk (x := .tmp 6) (by kernel_rfl) (Eq.trans (offN 6 40 (by kernel_rfl)) (by kernel_rfl)) (B6.out.fresh he)) ?_
    refine reqS_cons .row (by kernel_rfl) (fun vs w1 he hd => gives_row4 (by kernel_rfl) (by rw [atN 65 37 41 (by kernel_rfl) (by kernel_rfl) (by decide)]; exact hd 37 .ask (by decide) (by kernel_rfl)) (by rw [atN 66 38 41 (by kernel_rfl) (by kernel_rfl) (by decide)]; exact hd 38 .ask (by decide) (by kernel_rfl)) (by rw [atN 67 39 41 (by kernel_rfl) (by kernel_rfl) (by decide)]; exact hd 39 .ask (by decide) (by kernel_rfl)) (by rw [atN 68 40 41 (by kernel_rfl) (by kernel_rfl) (by decide)]; exact hd 40 .ask (by decide) (by kernel_rfl))) ?_
    refine reqS_cons .ask (by kernel_rfl) (fun vs w1 he hd => gives_loadAsk (x := .tmp 1) (by kernel_rfl) (Eq.trans (offN 1 42 (by kernel_rfl)) (by kernel_rfl)) (B1.out.fresh he)) ?_
    refine reqS_cons .ask (by kernel_rfl) (fun vs w1 he hd => gives_loadAsk (x := .tmp 2) (by kernel_rfl) (Eq.trans (offN 2 43 (by kernel_rfl)) (by kernel_rfl)) (B2.out.fresh he)) ?_
    refine reqS_cons .ask (by kernel_rfl) (fun vs w1 he hd => gives_loadAsk (x := .tmp 5) (by kernel_rfl) (Eq.trans (offN 5 44 (by kernel_rfl)) (by kernel_rfl)) (B5.out.fresh he)) ?_
    refine reqS_cons .ask (by kernel_rfl) (fun vs w1 he hd => gives_loadAsk (x := .tmp 5) (by kernel_rfl) (Eq.trans (offN 5 45 (by kernel_rfl)) (by kernel_rfl)) (B5.out.fresh he)) ?_
    refine reqS_cons .ask (by kernel_rfl) (fun vs w1 he hd => gives_mkAsk (parts := #[(0, .const (.int .i64 4)), (2, .const (.int .i64 30))]) 4 0 30 0 ⟨#[]⟩ (by kernel_rfl) (by kernel_rfl)) ?_
    refine reqS_cons .ask (by kernel_rfl) (fun vs w1 he hd => gives_mkAsk (parts := #[(0, .const (.int .i64 4)), (2, .const (.int .i64 25))]) 4 0 25 0 ⟨#[]⟩ (by kernel_rfl) (by kernel_rfl)) ?_
    refine reqS_cons .ask (by kernel_rfl) (fun vs w1 he hd => gives_mkAsk (parts := #[(0, .const (.int .i64 4)), (2, .const (.int .i64 (-1)))]) 4 0 (-1) 0 ⟨#[]⟩ (by kernel_rfl) (by kernel_rfl)) ?_
    refine reqS_cons .ask (by kernel_rfl) (fun vs w1 he hd => gives_mkAsk (parts := #[(0, .const (.int .i64 4)), (2, .const (.int .i64 5))]) 4 0 5 0 ⟨#[]⟩ (by kernel_rfl) (by kernel_rfl)) ?_
    refine reqS_cons .row (by kernel_rfl) (fun vs w1 he hd => gives_row8 (by kernel_rfl) (by rw [atN 70 42 50 (by kernel_rfl) (by kernel_rfl) (by decide)]; exact hd 42 .ask (by decide) (by kernel_rfl)) (by rw [atN 71 43 50 (by kernel_rfl) (by kernel_rfl) (by decide)]; exact hd 43 .ask (by decide) (by kernel_rfl)) (by rw [atN 72 44 50 (by kernel_rfl) (by kernel_rfl) (by decide)]; exact hd 44 .ask (by decide) (by kernel_rfl)) (by rw [atN 73 45 50 (by kernel_rfl) (by kernel_rfl) (by decide)]; exact hd 45 .ask (by decide) (by kernel_rfl)) (by rw [atN 74 46 50 (by kernel_rfl) (by kernel_rfl) (by decide)]; exact hd 46 .ask (by decide) (by kernel_rfl)) (by rw [atN 75 47 50 (by kernel_rfl) (by kernel_rfl) (by decide)]; exact hd 47 .ask (by decide) (by kernel_rfl)) (by rw [atN 76 48 50 (by kernel_rfl) (by kernel_rfl) (by decide)]; exact hd 48 .ask (by decide) (by kernel_rfl)) (by rw [atN 77 49 50 (by kernel_rfl) (by kernel_rfl) (by decide)]; exact hd 49 .ask (by decide) (by kernel_rfl))) ?_
    refine reqS_cons .ask (by kernel_rfl) (fun vs w1 he hd => gives_loadAsk (x := .tmp 1) (by kernel_rfl) (Eq.trans (offN 1 51 (by kernel_rfl)) (by kernel_rfl)) (B1.out.fresh he)) ?_
    refine reqS_cons .ask (by kernel_rfl) (fun vs w1 he hd => gives_loadAsk (x := .tmp 7) (by kernel_rfl) (Eq.trans (offN 7 52 (by kernel_rfl)) (by kernel_rfl)) (B7.out.fresh he)) ?_
    refine reqS_cons .ask (by kernel_rfl) (fun vs w1 he hd => gives_loadAsk (x := .tmp 7) (by kernel_rfl) (Eq.trans (offN 7 53 (by kernel_rfl)) (by kernel_rfl)) (B7.out.fresh he)) ?_
    refine reqS_cons .row (by kernel_rfl) (fun vs w1 he hd => gives_row3 (by kernel_rfl) (by rw [atN 79 51 54 (by kernel_rfl) (by kernel_rfl) (by decide)]; exact hd 51 .ask (by decide) (by kernel_rfl)) (by rw [atN 80 52 54 (by kernel_rfl) (by kernel_rfl) (by decide)]; exact hd 52 .ask (by decide) (by kernel_rfl)) (by rw [atN 81 53 54 (by kernel_rfl) (by kernel_rfl) (by decide)]; exact hd 53 .ask (by decide) (by kernel_rfl))) ?_
    refine reqS_cons .ask (by kernel_rfl) (fun vs w1 he hd => gives_loadAsk (x := .tmp 1) (by kernel_rfl) (Eq.trans (offN 1 55 (by kernel_rfl)) (by kernel_rfl)) (B1.out.fresh he)) ?_
    refine reqS_cons .ask (by kernel_rfl) (fun vs w1 he hd => gives_loadAsk (x := .tmp 8) (by kernel_rfl) (Eq.trans (offN 8 56 (by kernel_rfl)) (by kernel_rfl)) (B8.out.fresh he)) ?_
    refine reqS_cons .ask (by kernel_rfl) (fun vs w1 he hd => gives_loadAsk (x := .tmp 5) (by kernel_rfl) (Eq.trans (offN 5 57 (by kernel_rfl)) (by kernel_rfl)) (B5.out.fresh he)) ?_
    refine reqS_cons .ask (by kernel_rfl) (fun vs w1 he hd => gives_loadAsk (x := .tmp 8) (by kernel_rfl) (Eq.trans (offN 8 58 (by kernel_rfl)) (by kernel_rfl)) (B8.out.fresh he)) ?_
    refine reqS_cons .ask (by kernel_rfl) (fun vs w1 he hd => gives_loadAsk (x := .tmp 3) (by kernel_rfl) (Eq.trans (offN 3 59 (by kernel_rfl)) (by kernel_rfl)) (B3.out.fresh he)) ?_
    refine reqS_cons .ask (by kernel_rfl) (fun vs w1 he hd => gives_mkAsk (parts := #[(0, .const (.int .i64 4)), (2, .const (.int .i64 5))]) 4 0 5 0 ⟨#[]⟩ (by kernel_rfl) (by kernel_rfl)) ?_
    refine reqS_cons .ask (by kernel_rfl) (fun vs w1 he hd => gives_loadAsk (x := .tmp 7) (by kernel_rfl) (Eq.trans (offN 7 61 (by kernel_rfl)) (by kernel_rfl)) (B7.out.fresh he)) ?_
    refine reqS_cons .ask (by kernel_rfl) (fun vs w1 he hd => gives_loadAsk (x := .tmp 5) (by kernel_rfl) (Eq.trans (offN 5 62 (by kernel_rfl)) (by kernel_rfl)) (B5.out.fresh he)) ?_
    refine reqS_cons .row (by kernel_rfl) (fun vs w1 he hd => gives_row8 (by kernel_rfl) (by rw [atN 83 55 63 (by kernel_rfl) (by kernel_rfl) (by decide)]; exact hd 55 .ask (by decide) (by kernel_rfl)) (by rw [atN 84 56 63 (by kernel_rfl) (by kernel_rfl) (by decide)]; exact hd 56 .ask (by decide) (by kernel_rfl)) (by rw [atN 85 57 63 (by kernel_rfl) (by kernel_rfl) (by decide)]; exact hd 57 .ask (by decide) (by kernel_rfl)) (by rw [atN 86 58 63 (by kernel_rfl) (by kernel_rfl) (by decide)]; exact hd 58 .ask (by decide) (by kernel_rfl)) (by rw [atN 87 59 63 (by kernel_rfl) (by kernel_rfl) (by decide)]; exact hd 59 .ask (by decide) (by kernel_rfl)) (by rw [atN 88 60 63 (by kernel_rfl) (by kernel_rfl) (by decide)]; exact hd 60 .ask (by decide) (by kernel_rfl)) (by rw [atN 89 61 63 (by kernel_rfl) (by kernel_rfl) (by decide)]; exact hd 61 .ask (by decide) (by kernel_rfl)) (by rw [atN 90 62 63 (by kernel_rfl) (by kernel_rfl) (by decide)]; exact hd 62 .ask (by decide) (by kernel_rfl))) ?_
    refine reqS_cons .ask (by kernel_rfl) (fun vs w1 he hd => gives_loadAsk (x := .tmp 1) (by kernel_rfl) (Eq.trans (offN 1 64 (by kernel_rfl)) (by kernel_rfl)) (B1.out.fresh he)) ?_
    refine reqS_cons .ask (by kernel_rfl) (fun vs w1 he hd => gives_loadAsk (x := .tmp 8) (by kernel_rfl) (Eq.trans (offN 8 65 (by kernel_rfl)) (by kernel_rfl)) (B8.out.fresh he)) ?_
    refine reqS_cons .ask (by kernel_rfl) (fun vs w1 he hd => gives_loadAsk (x := .tmp 1) (by kernel_rfl) (Eq.trans (offN 1 66 (by kernel_rfl)) (by kernel_rfl)) (B1.out.fresh he)) ?_
    refine reqS_cons .ask (by kernel_rfl) (fun vs w1 he hd => gives_loadAsk (x := .tmp 7) (by kernel_rfl) (Eq.trans (offN 7 67 (by kernel_rfl)) (by kernel_rfl)) (B7.out.fresh he)) ?_
    refine reqS_cons .ask (by kernel_rfl) (fun vs w1 he hd => gives_loadAsk (x := .tmp 1) (by kernel_rfl) (Eq.trans (offN 1 68 (by kernel_rfl)) (by kernel_rfl)) (B1.out.fresh he)) ?_
    refine reqS_cons .row (by kernel_rfl) (fun vs w1 he hd => gives_row5 (by kernel_rfl) (by rw [atN 92 64 69 (by kernel_rfl) (by kernel_rfl) (by decide)]; exact hd 64 .ask (by decide) (by kernel_rfl)) (by rw [atN 93 65 69 (by kernel_rfl) (by kernel_rfl) (by decide)]; exact hd 65 .ask (by decide) (by kernel_rfl)) (by rw [atN 94 66 69 (by kernel_rfl) (by kernel_rfl) (by decide)]; exact hd 66 .ask (by decide) (by kernel_rfl)) (by rw [atN 95 67 69 (by kernel_rfl) (by kernel_rfl) (by decide)]; exact hd 67 .ask (by decide) (by kernel_rfl)) (by rw [atN 96 68 69 (by kernel_rfl) (by kernel_rfl) (by decide)]; exact hd 68 .ask (by decide) (by kernel_rfl))) ?_
    refine reqS_cons .ask (by kernel_rfl) (fun vs w1 he hd => gives_loadAsk (x := .tmp 3) (by kernel_rfl) (Eq.trans (offN 3 70 (by kernel_rfl)) (by kernel_rfl)) (B3.out.fresh he)) ?_
    refine reqS_cons .row (by kernel_rfl) (fun vs w1 he hd => gives_row1 (by kernel_rfl) (by rw [atN 98 70 71 (by kernel_rfl) (by kernel_rfl) (by decide)]; exact hd 70 .ask (by decide) (by kernel_rfl))) ?_
    refine reqS_cons .ask (by kernel_rfl) (fun vs w1 he hd => gives_mkAsk (parts := #[(0, .const (.int .i64 4)), (1, .const (.int .i64 4))]) 4 4 0 0 ⟨#[]⟩ (by kernel_rfl) (by kernel_rfl)) ?_
    refine reqS_cons .row (by kernel_rfl) (fun vs w1 he hd => gives_row1 (by kernel_rfl) (by rw [atN 100 72 73 (by kernel_rfl) (by kernel_rfl) (by decide)]; exact hd 72 .ask (by decide) (by kernel_rfl))) ?_
    refine reqS_cons .ask (by kernel_rfl) (fun vs w1 he hd => gives_mkAsk (parts := #[(0, .const (.int .i64 7)), (2, .const (.int .i64 2))]) 7 0 2 0 ⟨#[]⟩ (by kernel_rfl) (by kernel_rfl)) ?_
    refine reqS_cons .ask (by kernel_rfl) (fun vs w1 he hd => gives_mkAsk (parts := #[(0, .const (.int .i64 7)), (2, .const (.int .i64 3))]) 7 0 3 0 ⟨#[]⟩ (by kernel_rfl) (by kernel_rfl)) ?_
    refine reqS_cons .ask (by kernel_rfl) (fun vs w1 he hd => gives_mkAsk (parts := #[(0, .const (.int .i64 7)), (2, .const (.int .i64 4))]) 7 0 4 0 ⟨#[]⟩ (by kernel_rfl) (by kernel_rfl)) ?_
    refine reqS_cons .ask (by kernel_rfl) (fun vs w1 he hd => gives_loadAsk (x := .tmp 1) (by kernel_rfl) (Eq.trans (offN 1 77 (by kernel_rfl)) (by kernel_rfl)) (B1.out.fresh he)) ?_
    refine reqS_cons .ask (by kernel_rfl) (fun vs w1 he hd => gives_mkAsk (parts := #[(0, .const (.int .i64 7)), (2, .const (.int .i64 1))]) 7 0 1 0 ⟨#[]⟩ (by kernel_rfl) (by kernel_rfl)) ?_
    refine reqS_cons .ask (by kernel_rfl) (fun vs w1 he hd => gives_loadAsk (x := .tmp 5) (by kernel_rfl) (Eq.trans (offN 5 79 (by kernel_rfl)) (by kernel_rfl)) (B5.out.fresh he)) ?_
    refine reqS_cons .ask (by kernel_rfl) (fun vs w1 he hd => gives_loadAsk (x := .tmp 1) (by kernel_rfl) (Eq.trans (offN 1 80 (by kernel_rfl)) (by kernel_rfl)) (B1.out.fresh he)) ?_
    refine reqS_cons .row (by kernel_rfl) (fun vs w1 he hd => gives_row7 (by kernel_rfl) (by rw [atN 102 74 81 (by kernel_rfl) (by kernel_rfl) (by decide)]; exact hd 74 .ask (by decide) (by kernel_rfl)) (by rw [atN 103 75 81 (by kernel_rfl) (by kernel_rfl) (by decide)]; exact hd 75 .ask (by decide) (by kernel_rfl)) (by rw [atN 104 76 81 (by kernel_rfl) (by kernel_rfl) (by decide)]; exact hd 76 .ask (by decide) (by kernel_rfl)) (by rw [atN 105 77 81 (by kernel_rfl) (by kernel_rfl) (by decide)]; exact hd 77 .ask (by decide) (by kernel_rfl)) (by rw [atN 106 78 81 (by kernel_rfl) (by kernel_rfl) (by decide)]; exact hd 78 .ask (by decide) (by kernel_rfl)) (by rw [atN 107 79 81 (by kernel_rfl) (by kernel_rfl) (by decide)]; exact hd 79 .ask (by decide) (by kernel_rfl)) (by rw [atN 108 80 81 (by kernel_rfl) (by kernel_rfl) (by decide)]; exact hd 80 .ask (by decide) (by kernel_rfl))) ?_
    refine reqS_cons .ask (by kernel_rfl) (fun vs w1 he hd => gives_loadAsk (x := .tmp 1) (by kernel_rfl) (Eq.trans (offN 1 82 (by kernel_rfl)) (by kernel_rfl)) (B1.out.fresh he)) ?_
    refine reqS_cons .ask (by kernel_rfl) (fun vs w1 he hd => gives_mkAsk (parts := #[(0, .const (.int .i64 7)), (2, .const (.int .i64 99))]) 7 0 99 0 ⟨#[]⟩ (by kernel_rfl) (by kernel_rfl)) ?_
    refine reqS_cons .ask (by kernel_rfl) (fun vs w1 he hd => gives_loadAsk (x := .tmp 1) (by kernel_rfl) (Eq.trans (offN 1 84 (by kernel_rfl)) (by kernel_rfl)) (B1.out.fresh he)) ?_
    refine reqS_cons .row (by kernel_rfl) (fun vs w1 he hd => gives_row3 (by kernel_rfl) (by rw [atN 110 82 85 (by kernel_rfl) (by kernel_rfl) (by decide)]; exact hd 82 .ask (by decide) (by kernel_rfl)) (by rw [atN 111 83 85 (by kernel_rfl) (by kernel_rfl) (by decide)]; exact hd 83 .ask (by decide) (by kernel_rfl)) (by rw [atN 112 84 85 (by kernel_rfl) (by kernel_rfl) (by decide)]; exact hd 84 .ask (by decide) (by kernel_rfl))) ?_
    refine reqS_cons .ask (by kernel_rfl) (fun vs w1 he hd => gives_loadAsk (x := .tmp 1) (by kernel_rfl) (Eq.trans (offN 1 86 (by kernel_rfl)) (by kernel_rfl)) (B1.out.fresh he)) ?_
    refine reqS_cons .byt (by kernel_rfl) (fun vs w1 he hd => gives_byt9 94 0 0 0 0 0 0 0 1 94 0 0 0 0 0 0 0 1 rfl rfl rfl rfl rfl rfl rfl rfl rfl (by kernel_rfl) (fun _ => rfl)) ?_
    refine reqS_cons .ask (by kernel_rfl) (fun vs w1 he hd => gives_mkRaw (x := .tmp 115) (by kernel_rfl) (by kernel_rfl) (by rw [atN 115 87 88 (by kernel_rfl) (by kernel_rfl) (by decide)]; exact hd 87 .byt (by decide) (by kernel_rfl))) ?_
    refine reqS_cons .row (by kernel_rfl) (fun vs w1 he hd => gives_row2 (by kernel_rfl) (by rw [atN 114 86 89 (by kernel_rfl) (by kernel_rfl) (by decide)]; exact hd 86 .ask (by decide) (by kernel_rfl)) (by rw [atN 116 88 89 (by kernel_rfl) (by kernel_rfl) (by decide)]; exact hd 88 .ask (by decide) (by kernel_rfl))) ?_
    refine reqS_cons .ask (by kernel_rfl) (fun vs w1 he hd => gives_loadAsk (x := .tmp 1) (by kernel_rfl) (Eq.trans (offN 1 90 (by kernel_rfl)) (by kernel_rfl)) (B1.out.fresh he)) ?_
    refine reqS_cons .byt (by kernel_rfl) (fun vs w1 he hd => gives_byt10 93 0 0 0 0 0 0 0 1 0 93 0 0 0 0 0 0 0 1 0 rfl rfl rfl rfl rfl rfl rfl rfl rfl rfl (by kernel_rfl) (fun _ => rfl)) ?_
    refine reqS_cons .ask (by kernel_rfl) (fun vs w1 he hd => gives_mkRaw (x := .tmp 119) (by kernel_rfl) (by kernel_rfl) (by rw [atN 119 91 92 (by kernel_rfl) (by kernel_rfl) (by decide)]; exact hd 91 .byt (by decide) (by kernel_rfl))) ?_
    refine reqS_cons .row (by kernel_rfl) (fun vs w1 he hd => gives_row2 (by kernel_rfl) (by rw [atN 118 90 93 (by kernel_rfl) (by kernel_rfl) (by decide)]; exact hd 90 .ask (by decide) (by kernel_rfl)) (by rw [atN 120 92 93 (by kernel_rfl) (by kernel_rfl) (by decide)]; exact hd 92 .ask (by decide) (by kernel_rfl))) ?_
    refine reqS_cons .ask (by kernel_rfl) (fun vs w1 he hd => gives_loadAsk (x := .tmp 1) (by kernel_rfl) (Eq.trans (offN 1 94 (by kernel_rfl)) (by kernel_rfl)) (B1.out.fresh he)) ?_
    refine reqS_cons .byt (by kernel_rfl) (fun vs w1 he hd => gives_byt5 98 0 0 0 0 98 0 0 0 0 rfl rfl rfl rfl rfl (by kernel_rfl) (fun _ => rfl)) ?_
    refine reqS_cons .ask (by kernel_rfl) (fun vs w1 he hd => gives_mkRaw (x := .tmp 123) (by kernel_rfl) (by kernel_rfl) (by rw [atN 123 95 96 (by kernel_rfl) (by kernel_rfl) (by decide)]; exact hd 95 .byt (by decide) (by kernel_rfl))) ?_
    refine reqS_cons .row (by kernel_rfl) (fun vs w1 he hd => gives_row2 (by kernel_rfl) (by rw [atN 122 94 97 (by kernel_rfl) (by kernel_rfl) (by decide)]; exact hd 94 .ask (by decide) (by kernel_rfl)) (by rw [atN 124 96 97 (by kernel_rfl) (by kernel_rfl) (by decide)]; exact hd 96 .ask (by decide) (by kernel_rfl))) ?_
    refine reqS_cons .ask (by kernel_rfl) (fun vs w1 he hd => gives_mkAsk (parts := #[(0, .const (.int .i64 8))]) 8 0 0 0 ⟨#[]⟩ (by kernel_rfl) (by kernel_rfl)) ?_
    refine reqS_cons .byt (by kernel_rfl) (fun vs w1 he hd => gives_byt1 90 90 rfl (by kernel_rfl) (fun _ => rfl)) ?_
    refine reqS_cons .ask (by kernel_rfl) (fun vs w1 he hd => gives_mkRaw (x := .tmp 127) (by kernel_rfl) (by kernel_rfl) (by rw [atN 127 99 100 (by kernel_rfl) (by kernel_rfl) (by decide)]; exact hd 99 .byt (by decide) (by kernel_rfl))) ?_
    refine reqS_cons .row (by kernel_rfl) (fun vs w1 he hd => gives_row2 (by kernel_rfl) (by rw [atN 126 98 101 (by kernel_rfl) (by kernel_rfl) (by decide)]; exact hd 98 .ask (by decide) (by kernel_rfl)) (by rw [atN 128 100 101 (by kernel_rfl) (by kernel_rfl) (by decide)]; exact hd 100 .ask (by decide) (by kernel_rfl))) ?_
    refine reqS_cons .ask (by kernel_rfl) (fun vs w1 he hd => gives_loadAsk (x := .tmp 1) (by kernel_rfl) (Eq.trans (offN 1 102 (by kernel_rfl)) (by kernel_rfl)) (B1.out.fresh he)) ?_
    refine reqS_cons .ask (by kernel_rfl) (fun vs w1 he hd => gives_loadAsk (x := .tmp 5) (by kernel_rfl) (Eq.trans (offN 5 103 (by kernel_rfl)) (by kernel_rfl)) (B5.out.fresh he)) ?_
    refine reqS_cons .ask (by kernel_rfl) (fun vs w1 he hd => gives_loadAsk (x := .tmp 7) (by kernel_rfl) (Eq.trans (offN 7 104 (by kernel_rfl)) (by kernel_rfl)) (B7.out.fresh he)) ?_
    refine reqS_cons .row (by kernel_rfl) (fun vs w1 he hd => gives_row3 (by kernel_rfl) (by rw [atN 130 102 105 (by kernel_rfl) (by kernel_rfl) (by decide)]; exact hd 102 .ask (by decide) (by kernel_rfl)) (by rw [atN 131 103 105 (by kernel_rfl) (by kernel_rfl) (by decide)]; exact hd 103 .ask (by decide) (by kernel_rfl)) (by rw [atN 132 104 105 (by kernel_rfl) (by kernel_rfl) (by decide)]; exact hd 104 .ask (by decide) (by kernel_rfl))) ?_
    refine reqS_cons .ask (by kernel_rfl) (fun vs w1 he hd => gives_mkAsk (parts := #[(0, .const (.int .i64 9)), (1, .const (.int .i64 (-1)))]) 9 (-1) 0 0 ⟨#[]⟩ (by kernel_rfl) (by kernel_rfl)) ?_
    refine reqS_cons .ask (by kernel_rfl) (fun vs w1 he hd => gives_mkAsk (parts := #[(0, .const (.int .i64 10)), (1, .const (.int .i64 4))]) 10 4 0 0 ⟨#[]⟩ (by kernel_rfl) (by kernel_rfl)) ?_
    refine reqS_cons .ask (by kernel_rfl) (fun vs w1 he hd => gives_mkAsk (parts := #[(0, .const (.int .i64 1)), (2, .const (.int .i64 50)), (3, .const (.int .i64 1073741824))]) 1 0 50 1073741824 ⟨#[]⟩ (by kernel_rfl) (by kernel_rfl)) ?_
    refine reqS_cons .ask (by kernel_rfl) (fun vs w1 he hd => gives_mkAsk (parts := #[(0, .const (.int .i64 1)), (2, .const (.int .i64 (-1))), (3, .const (.int .i64 5)), (1, .const (.int .i64 3))]) 1 3 (-1) 5 ⟨#[]⟩ (by kernel_rfl) (by kernel_rfl)) ?_
    refine reqS_cons .ask (by kernel_rfl) (fun vs w1 he hd => gives_mkAsk (parts := #[(0, .const (.int .i64 4)), (2, .const (.int .i64 0)), (1, .const (.int .i64 1))]) 4 1 0 0 ⟨#[]⟩ (by kernel_rfl) (by kernel_rfl)) ?_
    refine reqS_cons .ask (by kernel_rfl) (fun vs w1 he hd => gives_mkAsk (parts := #[(0, .const (.int .i64 4)), (2, .const (.int .i64 1)), (1, .const (.int .i64 1))]) 4 1 1 0 ⟨#[]⟩ (by kernel_rfl) (by kernel_rfl)) ?_
    refine reqS_cons .row (by kernel_rfl) (fun vs w1 he hd => gives_row6 (by kernel_rfl) (by rw [atN 134 106 112 (by kernel_rfl) (by kernel_rfl) (by decide)]; exact hd 106 .ask (by decide) (by kernel_rfl)) (by rw [atN 135 107 112 (by kernel_rfl) (by kernel_rfl) (by decide)]; exact hd 107 .ask (by decide) (by kernel_rfl)) (by rw [atN 136 108 112 (by kernel_rfl) (by kernel_rfl) (by decide)]; exact hd 108 .ask (by decide) (by kernel_rfl)) (by rw [atN 137 109 112 (by kernel_rfl) (by kernel_rfl) (by decide)]; exact hd 109 .ask (by decide) (by kernel_rfl)) (by rw [atN 138 110 112 (by kernel_rfl) (by kernel_rfl) (by decide)]; exact hd 110 .ask (by decide) (by kernel_rfl)) (by rw [atN 139 111 112 (by kernel_rfl) (by kernel_rfl) (by decide)]; exact hd 111 .ask (by decide) (by kernel_rfl))) ?_
    refine reqS_cons .tab (by kernel_rfl) (fun vs w1 he hd => gives_tab (by kernel_rfl) (by rw [atN 33 5 113 (by kernel_rfl) (by kernel_rfl) (by decide)]; exact hd 5 .row (by decide) (by kernel_rfl)) (by rw [atN 39 11 113 (by kernel_rfl) (by kernel_rfl) (by decide)]; exact hd 11 .row (by decide) (by kernel_rfl)) (by rw [atN 46 18 113 (by kernel_rfl) (by kernel_rfl) (by decide)]; exact hd 18 .row (by decide) (by kernel_rfl)) (by rw [atN 55 27 113 (by kernel_rfl) (by kernel_rfl) (by decide)]; exact hd 27 .row (by decide) (by kernel_rfl)) (by rw [atN 59 31 113 (by kernel_rfl) (by kernel_rfl) (by decide)]; exact hd 31 .row (by decide) (by kernel_rfl)) (by rw [atN 64 36 113 (by kernel_rfl) (by kernel_rfl) (by decide)]; exact hd 36 .row (by decide) (by kernel_rfl)) (by rw [atN 69 41 113 (by kernel_rfl) (by kernel_rfl) (by decide)]; exact hd 41 .row (by decide) (by kernel_rfl)) (by rw [atN 78 50 113 (by kernel_rfl) (by kernel_rfl) (by decide)]; exact hd 50 .row (by decide) (by kernel_rfl)) (by rw [atN 82 54 113 (by kernel_rfl) (by kernel_rfl) (by decide)]; exact hd 54 .row (by decide) (by kernel_rfl)) (by rw [atN 91 63 113 (by kernel_rfl) (by kernel_rfl) (by decide)]; exact hd 63 .row (by decide) (by kernel_rfl)) (by rw [atN 97 69 113 (by kernel_rfl) (by kernel_rfl) (by decide)]; exact hd 69 .row (by decide) (by kernel_rfl)) (by rw [atN 99 71 113 (by kernel_rfl) (by kernel_rfl) (by decide)]; exact hd 71 .row (by decide) (by kernel_rfl)) (by rw [atN 101 73 113 (by kernel_rfl) (by kernel_rfl) (by decide)]; exact hd 73 .row (by decide) (by kernel_rfl)) (by rw [atN 109 81 113 (by kernel_rfl) (by kernel_rfl) (by decide)]; exact hd 81 .row (by decide) (by kernel_rfl)) (by rw [atN 113 85 113 (by kernel_rfl) (by kernel_rfl) (by decide)]; exact hd 85 .row (by decide) (by kernel_rfl)) (by rw [atN 117 89 113 (by kernel_rfl) (by kernel_rfl) (by decide)]; exact hd 89 .row (by decide) (by kernel_rfl)) (by rw [atN 121 93 113 (by kernel_rfl) (by kernel_rfl) (by decide)]; exact hd 93 .row (by decide) (by kernel_rfl)) (by rw [atN 125 97 113 (by kernel_rfl) (by kernel_rfl) (by decide)]; exact hd 97 .row (by decide) (by kernel_rfl)) (by rw [atN 129 101 113 (by kernel_rfl) (by kernel_rfl) (by decide)]; exact hd 101 .row (by decide) (by kernel_rfl)) (by rw [atN 133 105 113 (by kernel_rfl) (by kernel_rfl) (by decide)]; exact hd 105 .row (by decide) (by kernel_rfl)) (by rw [atN 140 112 113 (by kernel_rfl) (by kernel_rfl) (by decide)]; exact hd 112 .row (by decide) (by kernel_rfl))) ?_
    refine reqS_cons (.val (.int .i64 21)) (by kernel_rfl) (fun vs w1 he hd => gives_lenT (x := .tmp 141) (by kernel_rfl) (by rw [atN 141 113 114 (by kernel_rfl) (by kernel_rfl) (by decide)]; exact hd 113 .tab (by decide) (by kernel_rfl))) ?_
    refine reqS_cons (.val (.int .i64 0)) (by kernel_rfl) (fun vs w1 he hd => gives_move (x := .const (.int .i64 0)) (by kernel_rfl) (by kernel_rfl) ⟨Ex.refl _, rfl⟩) reqS_nil
  · intro vs w5 he hF
    obtain ⟨Gt, R, e113, hR, hblk, hrow⟩ : ∃ (G : Nat) (R : List Value), vs 113 = .slice (some ⟨G, 0, none⟩) 21 21 ∧ R.length = 21 ∧ w5.heap[G]? = some (.cells R.toArray 25 (0, 0)) ∧ ∀ u, u ∈ R → Fact.row.holds u w5 := told_at hF 113 .tab (by decide) (by kernel_rfl)
    have e114 : vs 114 = .int .i64 21 := told_at hF 114 (.val (.int .i64 21)) (by decide) (by kernel_rfl)
    have e115 : vs 115 = .int .i64 0 := told_at hF 115 (.val (.int .i64 0)) (by decide) (by kernel_rfl)
    have HTB := hidden (And.intro hblk hrow)
    have HE5 := hidden (HE.out.trans he)
    have HRl := hidden hR
    refine cast_frame (a' := ⟨#[.bool false, .pointer (some ⟨b1, 0, none⟩), .pointer (some ⟨b2, 0, none⟩), .pointer (some ⟨b3, 0, none⟩), .pointer (some ⟨b4, 0, none⟩), .pointer (some ⟨b5, 0, none⟩), .pointer (some ⟨b6, 0, none⟩), .pointer (some ⟨b7, 0, none⟩), .pointer (some ⟨b8, 0, none⟩), undef, undef, undef, undef, undef, .agg #[.int .i64 1, .int .i64 1, .int .i64 50, .int .i64 20, .string ⟨#[]⟩, .slice none 0 0], .agg #[.int .i64 2, .int .i64 0, .int .i64 0, .int .i64 0, .string ⟨#[]⟩, .slice none 0 0], .slice (some ⟨v2.heap.size, 0, none⟩) 1 1, .slice (some ⟨v2.heap.size, 0, none⟩) 1 1, .agg #[.int .i64 3, .int .i64 0, .int .i64 10, .int .i64 0, .string ⟨#[]⟩, .slice (some ⟨v2.heap.size, 0, none⟩) 1 1], .slice (some ⟨v3.heap.size, 0, none⟩) 1 1, .slice (some ⟨v3.heap.size, 0, none⟩) 1 1, .agg #[.int .i64 3, .int .i64 0, .int .i64 0, .int .i64 1, .string ⟨#[]⟩, .slice (some ⟨v3.heap.size, 0, none⟩) 1 1], .slice (some ⟨v4.heap.size, 0, none⟩) 40 40, .slice (some ⟨v4.heap.size, 0, none⟩) 40 40, .agg #[.int .i64 9, .int .i64 0, .int .i64 0, .int .i64 0, .string ⟨#[]⟩, .slice (some ⟨v4.heap.size, 0, none⟩) 40 40], .agg #[.int .i64 5, .int .i64 0, .int .i64 0, .int .i64 0, .string ⟨#[]⟩, .slice none 0 0], .agg #[.int .i64 6, .int .i64 0, .int .i64 0, .int .i64 0, .string ⟨#[]⟩, .slice none 0 0], .agg #[.int .i64 10, .int .i64 0, .int .i64 0, .int .i64 0, .string ⟨#[]⟩, .slice none 0 0], vs 0, vs 1, vs 2, vs 3, vs 4, vs 5, vs 6, vs 7, vs 8, vs 9, vs 10, vs 11, vs 12, vs 13, vs 14, vs 15, vs 16, vs 17, vs 18, vs 19, vs 20, vs 21, vs 22, vs 23, vs 24, vs 25, vs 26, vs 27, vs 28, vs 29, vs 30, vs 31, vs 32, vs 33, vs 34, vs 35, vs 36, vs 37, vs 38, vs 39, vs 40, vs 41, vs 42, vs 43, vs 44, vs 45, vs 46, vs 47, vs 48, vs 49, vs 50, vs 51, vs 52, vs 53, vs 54, vs 55, vs 56, vs 57, vs 58, vs 59, vs 60, vs 61, vs 62, vs 63, vs 64, vs 65, vs 66, vs 67, vs 68, vs 69, vs 70, vs 71, vs 72, vs 73, vs 74, vs 75, vs 76, vs 77, vs 78, vs 79, vs 80, vs 81, vs 82, vs 83, vs 84, vs 85, vs 86, vs 87, vs 88, vs 89, vs 90, vs 91, vs 92, vs 93, vs 94, vs 95, vs 96, vs 97, vs 98, vs 99, vs 100, vs 101, vs 102, vs 103, vs 104, vs 105, vs 106, vs 107, vs 108, vs 109, vs 110, vs 111, vs 112, vs 113, vs 114, vs 115, undef, undef, undef, undef, undef, undef, undef, undef, undef, undef, undef, undef, undef, undef, undef, undef, undef, undef, undef, undef, undef, undef, undef, undef], []⟩) (by kernel_rfl) ?_
    rw [e113, e114, e115]
    clear hF he e113 e114 e115 hblk hrow hR B1 B2 B3 B4 B5 B6 B7 B8 HE
    go_wp2_with fail
    go_loopw [143, 10, 11, 12, 13] (fun t _ _ _ _ wr => ∃ (j : Nat), j ≤ 21 ∧ t = .int .i64 (j : Int) ∧ Ex w5 wr) (fun t _ _ _ _ _ => 21 - (intOf t).toNat)
    case atStart => exact ⟨0, by omega, rfl, Ex.refl _⟩
    case round =>
      obtain ⟨j, hj, rfl, hex⟩ := hrel
      have HX := hidden hex
      clear hex
      by_cases hlt : j < 21
      · have i1 : (j : Int) < 21 := by omega
        obtain ⟨wo, eo⟩ : ∃ x, x = wr := ⟨_, rfl⟩
        subst eo
        have hjR : j < R.length := by rw [HRl.out]; exact hlt
        have hcell : wo.cell? ⟨Gt, j, none⟩ = some R[j] := by
          rw [cell_row ((HX.out.block Gt (lt_of_block HTB.out.1)).trans HTB.out.1) j, List.getElem?_eq_getElem hjR]
        obtain ⟨qs, hasl, hq10⟩ : ∃ qs : List AskD, ASl wo R[j] qs ∧ qs.length ≤ 10 := Fact.row.ext _ _ _ HX.out (HTB.out.2 _ (List.getElem_mem hjR))
        obtain ⟨ua, uc, eu, _⟩ := id hasl
        rw [eu] at hcell hasl
        have HA := hidden hasl
        clear hasl eu hjR
        go_wp2_with fail
        refine (New_c wo).mono ?_
        rintro e w1 ⟨rfl, hm1, hb1⟩
        have HJ0 := hidden (JI.new hm1 hb1)
        clear hm1 hb1
        obtain ⟨a, ha⟩ : ∃ a, a = wo.heap.size := ⟨_, rfl⟩
        obtain ⟨b, hb⟩ : ∃ b, b = w1.heap.size := ⟨_, rfl⟩
        rw [← ha, ← hb] at HJ0
        rw [← ha]
        clear ha hcell
        go_wp2_with fail
        rw [← hb]
        clear hb
        generalize w1.alloc (.cells #[.bool false, .bool false, .bool false, .bool false, .int .u32 0, .complex .f64 0 0, .int .i64 0, .slice none 0 0, .bool false, .bool false, .bool false, .bool false, .int .u32 0, .complex .f64 0 0, .int .i64 0, .slice none 0 0, .bool false, .bool false, .bool false, .bool false, .int .u32 0, .complex .f64 0 0, .int .i64 0, .slice none 0 0, .bool false, .bool false, .bool false, .bool false, .int .u32 0, .complex .f64 0 0, .int .i64 0, .slice none 0 0, .bool false] 36) = w2 at *
        generalize Value.agg #[.bool false, .bool false, .bool false, .bool false, .int .u32 0, .complex .f64 0 0, .int .i64 0, .slice none 0 0, .bool false, .bool false, .bool false, .bool false, .int .u32 0, .complex .f64 0 0, .int .i64 0, .slice none 0 0, .bool false, .bool false, .bool false, .bool false, .int .u32 0, .complex .f64 0 0, .int .i64 0, .slice none 0 0, .bool false, .bool false, .bool false, .bool false, .int .u32 0, .complex .f64 0 0, .int .i64 0, .slice none 0 0, .bool false] = zq
        generalize hn : qs.length = n at *
        have HN := hidden hn
        clear hn
        go_loopw [13] (fun t wr => ∃ (i : Nat), i ≤ n ∧ t = .int .i64 (i : Int) ∧ ∃ P Q S, OkM (300 * i) S ∧ JI wo wr P Q a b S) (fun t _ => n - (intOf t).toNat)
        case atStart => exact ⟨0, by omega, rfl, _, _, _, okM_new _, HJ0.out⟩
        case round =>
          obtain ⟨i, hi, rfl, P, Q, S, hok, hji⟩ := hrel
          have HOK := hidden hok
          have HJ := hidden hji
          clear hok hji HJ0
          by_cases hli : i < n
          · have l1 : (i : Int) < (n : Int) := by omega
            have hiq : i < qs.length := by rw [HN.out]; exact hli
            obtain ⟨ab, off, eu, ⟨c0, c1, c2, c3, c4, c5⟩, hb5⟩ := (HA.out.fresh HJ.out.bl).at i hiq
            subst eu
            have hbq : BSl wo (qs[i]).b (qs[i]).bs := (HA.out.at i hiq).choose_spec.choose_spec.2.2
            have HDO := hidden (do_q (qs[i]).k (qs[i]).ch (qs[i]).n (qs[i]).m (qs[i]).s (qs[i]).b (qs[i]).bs wr HJ.out HOK.out (by omega) hbq)
            unfold AskV at HDO
            obtain ⟨ba, bc, eb⟩ := hbq.len
            clear hb5 hbq
            obtain ⟨x, hx⟩ : ∃ x, x = qs[i] := ⟨_, rfl⟩
            rw [← hx] at HDO c0 c1 c2 c3 c4 c5 eb
            clear hx
            generalize x.k = xk at *
            generalize x.ch = xc at *
            generalize x.n = xn at *
            generalize x.m = xm at *
            generalize x.s = xs at *
            generalize x.b = xb at *
            generalize x.bs.length = xbl at *
            subst eb
            clear hiq
            go_wp2_with fail
            refine HDO.out.mono ?_
            rintro e w3 ⟨rfl, P', Q', S', hok', hji'⟩
            have HOK' := hidden hok'
            have HJ' := hidden hji'
            clear hok' hji' HOK HJ HDO c0 c1 c2 c3 c4 c5
            go_wp2_with fail
            go_roundw
            case rel => exact ⟨i + 1, by omega, by go_num, P', Q', S', HOK'.out.mono (by omega), HJ'.out⟩
            case measure => simp [intOf]; omega
          · have l1 : ¬ (i : Int) < (n : Int) := by omega
            have HX2 := hidden (HX.out.trans HJ.out.bl)
            clear HJ HOK
            go_wp2_with fail
            go_roundw
            case rel => exact ⟨j + 1, by omega, by go_num, HX2.out⟩
            case measure => simp [intOf]; omega
      · have i1 : ¬ (j : Int) < 21 := by omega
        have HBL := hidden (HE5.out.trans HX.out)
        clear HX HTB
        go_wp2_with fail
        refine (HKN.out _).mono ?_
        rintro e w3 ⟨rfl, hb3⟩
        have HB3 := hidden (HBL.out.trans hb3)
        clear hb3
        go_wp2_with fail
        go_ret
        exact ⟨rfl, HB3.out⟩
end Go.Proofs.YtnimdbjbkoggdaaGreat
