/- A drawn region with one operation that comes behind some and ahead of the others; rows of rows; a Reader in a new box. -/
import Derived.Test.YtnimdbjbkoggdaaCnU
namespace Go.Proofs.Ytnimdbjbkoggdaa
open Go Go.RowKit

theorem Gives.mono {o : Oper} {ρ : Operand → Value} {w : World} {Φ Ψ : Value → World → Prop} (h : Gives Try.prog o ρ w Φ) (hi : ∀ v w', Φ v w' → Ψ v w') : Gives Try.prog o ρ w Ψ := by
  have h2 := h.out
  refine ⟨?_⟩
  unfold GivesM at h2 ⊢
  split at h2
  · exact hi _ _ h2
  · exact hi _ _ h2
  · exact h2.mono fun e w'' ⟨v, h3, h4⟩ => ⟨v, h3, hi _ _ h4⟩
  · exact h2
def pivOk (ops : Array Oper) (p : Nat) : Bool :=
  decide (p < ops.size) && (List.range ops.size).all (fun i => match ops[i]? with
    | some o => o.guard.isNone && (if i < p then under ops ops.size p i else if i = p then true else under ops ops.size i p)
    | none => false)
/-- What operation i ahead of the pivot must show. -/
def ReqP (l : List Oper) (fs : List Fact) (a : Act) (w : World) (i : Nat) (o : Oper) : Prop :=
  ∀ vs w1, Ex w w1 → (∀ j, (edgesOf o).contains j = true → (fs.getD j .any).holds (vs j) w1) → Gives Try.prog o (actsTo l.toArray a (fun _ => true) vs l.length).eval w1 fun v w2 => Ex w1 w2 ∧ (fs.getD i .any).holds v w2
/-- What operation i behind the pivot must show. -/
def ReqT (l : List Oper) (ts : List (Value → Value)) (p : Nat) (H : Value → Prop) (a : Act) (i : Nat) (o : Oper) : Prop :=
  ∀ vs w1, H (vs p) → (∀ j, (edgesOf o).contains j = true → p < j → vs j = (ts.getD j id) (vs p)) → Gives Try.prog o (actsTo l.toArray a (fun _ => true) vs l.length).eval w1 fun v w2 => w2 = w1 ∧ v = (ts.getD i id) (vs p)
theorem region_pivot {id : Nat} {l : List Oper} {Q : Exit → Act → World → Prop} {a : Act} {w : World} (fs : List Fact) (p : Nat) (H : Value → Prop) (G : Value → World → World → Prop) (ts : List (Value → Value)) (hk : freeOk l.toArray = true) (hp : pivOk l.toArray p = true)
    (hU : eachF (ReqP l fs a w) 0 (l.take p))
    (po : Oper) (hpo : l[p]? = some po)
    (hP : ∀ vs w1, Ex w w1 → (∀ j, j < p → (fs.getD j .any).holds (vs j) w1) → Gives Try.prog po (actsTo l.toArray a (fun _ => true) vs l.length).eval w1 fun v w2 => H v ∧ G v w1 w2)
    (hT : eachF (ReqT l ts p H a) (p + 1) (l.drop (p + 1)))
    (hrest : ∀ vs w1 w2, Ex w w1 → H (vs p) → G (vs p) w1 w2 → (∀ j, p < j → j < l.length → vs j = (ts.getD j _root_.id) (vs p)) → Q .normal (actsTo l.toArray a (fun _ => true) vs l.length) w2) :
    (Code.region id l.toArray true).wp Try.prog Q a w := by
  unfold pivOk at hp
  rw [Bool.and_eq_true, decide_eq_true_eq, List.all_eq_true] at hp
  obtain ⟨hp1, hp2⟩ := hp
  have hsz : l.toArray.size = l.length := by simp
  rw [hsz] at hp1 hp2
  have each : ∀ (i : Nat) (o : Oper), l.toArray[i]? = some o → i < l.length ∧ o.guard = none ∧ (i < p → under l.toArray l.toArray.size p i = true) ∧ (p < i → under l.toArray l.toArray.size i p = true) := fun i o ho => by
    have hi : i < l.length := by have := (Array.getElem?_eq_some_iff.1 ho).1; simpa using this
    have := hp2 i (List.mem_range.2 hi)
    rw [ho] at this
    simp only [Bool.and_eq_true, Option.isNone_iff_eq_none] at this
    refine ⟨hi, this.1, fun h => ?_, fun h => ?_⟩
    · have h2 := this.2
      rw [if_pos h] at h2
      rw [hsz]; exact h2
    · have h2 := this.2
      rw [if_neg (by omega), if_neg (by omega)] at h2
      rw [hsz]; exact h2
  have hop : l.toArray[p]? = some l[p] := by simp [hp1]
  refine region_inv (by kernel_rfl) hk (fun L vs w1 => (L p = false → Ex w w1 ∧ ∀ j, j < p → L j = true → (fs.getD j .any).holds (vs j) w1) ∧ (L p = true → ∃ wp, Ex w wp ∧ H (vs p) ∧ G (vs p) wp w1 ∧ ∀ j, p < j → j < l.length → L j = true → vs j = (ts.getD j _root_.id) (vs p))) ?_ ?_ ?_
  · exact ⟨fun _ => ⟨Ex.drew w, fun _ _ h => by cases h⟩, fun h => by cases h⟩
  · intro i o ho L vs w1 hI hli hcl hed
    obtain ⟨hil, hg, h1, h2⟩ := each i o ho
    refine StepG.plain hg ?_
    rcases Nat.lt_trichotomy i p with hip | hip | hip
    · have hLp : L p = false := by
        cases hL : L p with
        | false => rfl
        | true =>
          have := under_listed hcl l.toArray.size p i l[p] hop (hcl p l[p] hop hL) (h1 hip)
          rw [this] at hli
          cases hli
      obtain ⟨hw, hf⟩ := hI.1 hLp
      have hip' : (l.take p)[i]? = some o := by rw [List.getElem?_take_of_lt hip]; simpa using ho
      have hz := eachF_at (l.take p) 0 hU i o hip' vs w1 hw (fun j hj => by
        have hj' : j ∈ edgesOf o := by simpa using hj
        have hji := (freeOk_spec hk).down i o ho j hj'
        exact hf j (by omega) (hed j hj'))
      rw [Nat.zero_add] at hz
      rw [hsz]
      refine hz.mono fun v w2 ⟨g1, g2⟩ => ⟨fun _ => ⟨hw.trans g1, fun j hj hL => ?_⟩, fun h => ?_⟩
      · unfold upd at hL ⊢
        by_cases hji : j = i
        · subst hji
          rw [if_pos rfl]
          exact g2
        · rw [if_neg hji] at hL ⊢
          exact (fs.getD j .any).ext _ _ _ g1 (hf j hj hL)
      · unfold upd at h
        rw [if_neg (by omega), hLp] at h
        cases h
    · subst hip
      obtain ⟨hw, hf⟩ := hI.1 hli
      have hall : ∀ j, j < i → L j = true := fun j hj => by
        have hoj : l.toArray[j]? = some l[j] := by simp [show j < l.length by omega]
        exact under_listed hcl l.toArray.size i j o ho hed ((each j _ hoj).2.2.1 hj)
      have hoe : o = po := by have h5 : l[i]? = some o := by simpa using ho
                              rw [hpo] at h5; cases h5; rfl
      subst hoe
      have hz := hP vs w1 hw (fun j hj => hf j hj (hall j hj))
      rw [hsz]
      refine hz.mono fun v w2 ⟨g0, g1⟩ => ⟨fun h => ?_, fun _ => ⟨w1, hw, ?_, ?_, fun j hj hjl hL => ?_⟩⟩
      · unfold upd at h
        rw [if_pos rfl] at h
        cases h
      · unfold upd; rw [if_pos rfl]; exact g0
      · unfold upd; rw [if_pos rfl]; exact g1
      · exfalso
        unfold upd at hL
        rw [if_neg (by omega)] at hL
        have hoj : l.toArray[j]? = some l[j] := by simp [hjl]
        have := under_listed hcl l.toArray.size j i l[j] hoj (hcl j l[j] hoj hL) ((each j _ hoj).2.2.2 hj)
        rw [this] at hli
        cases hli
    · have hLp : L p = true := under_listed hcl l.toArray.size i p o ho hed (h2 hip)
      obtain ⟨wp, k1, k2, k3, k4⟩ := hI.2 hLp
      have hip' : (l.drop (p + 1))[i - (p + 1)]? = some o := by rw [List.getElem?_drop, show p + 1 + (i - (p + 1)) = i by omega]; simpa using ho
      have hz := eachF_at (l.drop (p + 1)) (p + 1) hT (i - (p + 1)) o hip' vs w1 k2 (fun j hj hpj => k4 j hpj (by have := (freeOk_spec hk).down i o ho j (by simpa using hj); omega) (hed j (by simpa using hj)))
      rw [show p + 1 + (i - (p + 1)) = i by omega] at hz
      rw [hsz]
      refine hz.mono fun v w2 ⟨g0, g1⟩ => ⟨fun h => ?_, fun _ => ⟨wp, k1, ?_, ?_, fun j hj hjl hL => ?_⟩⟩
      · unfold upd at h
        rw [if_neg (by omega), hLp] at h
        cases h
      · unfold upd; rw [if_neg (by omega)]; exact k2
      · unfold upd; rw [if_neg (by omega), g0]; exact k3
      · unfold upd at hL ⊢
        rw [if_neg (show ¬ p = i by omega)]
        by_cases hji : j = i
        · subst hji
          rw [if_pos rfl]
          exact g1
        · rw [if_neg hji] at hL ⊢
          exact k4 j hj hjl hL
  · intro L vs w1 hall hI
    rw [hsz] at hall
    obtain ⟨wp, k1, k2, k3, k4⟩ := hI.2 (hall p hp1)
    rw [hsz]
    exact hrest vs wp w1 k1 k2 k3 (fun j hj hjl => k4 j hj hjl (hall j hjl))
theorem reqP_cons {l : List Oper} {fs : List Fact} {a : Act} {w : World} {i : Nat} {o : Oper} {r : List Oper} (f : Fact) (hf : fs.getD i .any = f)
    (h : ∀ vs w1, Ex w w1 → (∀ j (f : Fact), (edgesOf o).contains j = true → fs.getD j .any = f → f.holds (vs j) w1) → Gives Try.prog o (actsTo l.toArray a (fun _ => true) vs l.length).eval w1 fun v w2 => Ex w1 w2 ∧ f.holds v w2)
    (t : eachF (ReqP l fs a w) (i + 1) r) : eachF (ReqP l fs a w) i (o :: r) := by
  refine ⟨fun vs w1 he hd => ?_, t⟩
  rw [hf]
  exact h vs w1 he fun j f h2 h3 => by have := hd j h2; rwa [h3] at this
theorem reqP_nil {l : List Oper} {fs : List Fact} {a : Act} {w : World} {i : Nat} : eachF (ReqP l fs a w) i [] := trivial
theorem reqT_cons {l : List Oper} {ts : List (Value → Value)} {p : Nat} {H : Value → Prop} {a : Act} {i : Nat} {o : Oper} {r : List Oper} (f : Value → Value) (hf : ts.getD i id = f)
    (h : ∀ vs w1, H (vs p) → (∀ j (f : Value → Value), (edgesOf o).contains j = true → p < j → ts.getD j id = f → vs j = f (vs p)) → Gives Try.prog o (actsTo l.toArray a (fun _ => true) vs l.length).eval w1 fun v w2 => w2 = w1 ∧ v = f (vs p))
    (t : eachF (ReqT l ts p H a) (i + 1) r) : eachF (ReqT l ts p H a) i (o :: r) := by
  refine ⟨fun vs w1 he hd => ?_, t⟩
  rw [hf]
  exact h vs w1 he fun j f h2 h3 h4 => by have := hd j h2 h3; rwa [h4] at this
theorem reqT_nil {l : List Oper} {ts : List (Value → Value)} {p : Nat} {H : Value → Prop} {a : Act} {i : Nat} : eachF (ReqT l ts p H a) i [] := trivial
def fst2 (v : Value) : Value := match v with | .tuple cs => cs.getD 0 undef | _ => undef
def snd2 (v : Value) : Value := match v with | .tuple cs => cs.getD 1 undef | _ => undef
def IsPair (v : Value) : Prop := ∃ x y, v = .tuple #[x, y]
section
variable {o : Oper} {ρ : Operand → Value} {w w0 : World} {x y z : Operand} {v vx vy vz : Value} {Φ : Value → World → Prop}
theorem gives_ext0 (hp : IsPair vx) (ho : o.op = .extract x 0) (hx : ρ x = vx) (h : Φ (fst2 vx) w) : Gives Try.prog o ρ w Φ := by
  obtain ⟨a, b, rfl⟩ := hp
  refine Gives.value (w' := w) (v := a) ?_ h
  unfold execOp
  simp only [ho, hx]
  rfl
theorem gives_ext1 (hp : IsPair vx) (ho : o.op = .extract x 1) (hx : ρ x = vx) (h : Φ (snd2 vx) w) : Gives Try.prog o ρ w Φ := by
  obtain ⟨a, b, rfl⟩ := hp
  refine Gives.value (w' := w) (v := b) ?_ h
  unfold execOp
  simp only [ho, hx]
  rfl
theorem gives_indexO {b off n cp i : Nat} (hi : i < n) (ho : o.op = .indexAddr 22 x y) (hx : ρ x = .slice (some ⟨b, off, none⟩) n cp) (hy : ρ y = .int .i64 (i : Int)) (h : Φ (.pointer (some ⟨b, off + i, none⟩)) w) : Gives Try.prog o ρ w Φ := by
  refine Gives.value (w' := w) (v := .pointer (some ⟨b, off + i, none⟩)) ?_ h
  obtain ⟨i0, hi0, hz0, hz1, hz2⟩ := info_parts Try.infoBs
  unfold execOp
  simp only [ho]
  rw [hx, hy]
  simp [run_indexAt_slice w _ _ _ _ _ _ elemBs, elemBsEq, sizeOf, typeInfo, hi0, hz1, add_lit', show (i : Int) < (n : Int) by omega]
theorem elemIs : Try.prog.underlying 23 = some (.slice (Try.prog.elem 23)) := by kernel_rfl
theorem elemIsEq : Try.prog.elem 23 = 3 := by kernel_rfl
theorem Try.infoIn : (Try.prog.info? 3).map (·.size) = some 1 := by kernel_rfl
theorem gives_indexI {b off n cp i : Nat} (hi : i < n) (ho : o.op = .indexAddr 23 x y) (hx : ρ x = .slice (some ⟨b, off, none⟩) n cp) (hy : ρ y = .int .i64 (i : Int)) (h : Φ (.pointer (some ⟨b, off + i, none⟩)) w) : Gives Try.prog o ρ w Φ := by
  refine Gives.value (w' := w) (v := .pointer (some ⟨b, off + i, none⟩)) ?_ h
  obtain ⟨i0, hi0, hz1⟩ := Option.map_eq_some_iff.1 Try.infoIn
  unfold execOp
  simp only [ho]
  rw [hx, hy]
  simp [run_indexAt_slice w _ _ _ _ _ _ elemIs, elemIsEq, sizeOf, typeInfo, hi0, hz1, add_lit', show (i : Int) < (n : Int) by omega]
theorem gives_ltI {t : TypeId} {k : IntKind} {a b : Int} {r : Bool} (ho : o.op = .binOp .lss t x y t) (hx : ρ x = .int k a) (hy : ρ y = .int k b) (hr : decide (a < b) = r) (h : Φ (.bool r) w) : Gives Try.prog o ρ w Φ := by
  refine Gives.value (w' := w) (v := .bool r) ?_ h
  unfold execOp
  simp only [ho, hx, hy]
  simp [eqGuard, binOp, Op.intCmp, ← hr]
theorem gives_fieldE2 {g : Nat} (ho : o.op = .fieldAddr 51 x 2) (hx : ρ x = .pointer (some ⟨g, 0, none⟩)) (h : Φ (.pointer (some ⟨g, 2, none⟩)) w) : Gives Try.prog o ρ w Φ := by
  refine Gives.value (w' := w) (v := .pointer (some ⟨g, 2, none⟩)) ?_ h
  unfold execOp
  simp only [ho, hx]
  simp [Instr.fieldAt, run_underlying Try.underlying51, Instr.sureAddr, fieldPlace, Addr.add]
end
/-- No operation of the list writes the slot. -/
def offD (d : Nat) : List Oper → Bool
  | [] => true
  | o :: r => (match o.dst with | some e => !(Nat.beq e d) | none => true) && offD d r
/-- Operation j of the list alone writes the slot. -/
def atD (d : Nat) : Nat → List Oper → Bool
  | _, [] => false
  | 0, o :: r => (match o.dst with | some e => Nat.beq e d | none => false) && offD d r
  | j + 1, o :: r => (match o.dst with | some e => !(Nat.beq e d) | none => true) && atD d j r
theorem offD_at {d : Nat} : ∀ {l : List Oper}, offD d l = true → ∀ k, dstOf l.toArray k ≠ some d
  | [], _, k => by simp [dstOf]
  | o :: r, h, k => by
    unfold offD at h
    rw [Bool.and_eq_true] at h
    cases k with
    | zero =>
      have h1 := h.1
      simp only [dstOf, List.getElem?_toArray, List.getElem?_cons_zero, Option.bind_some]
      intro e
      rw [e] at h1
      simp at h1
    | succ k =>
      have := offD_at h.2 k
      simpa [dstOf] using this
theorem atD_at {d : Nat} : ∀ {l : List Oper} {j : Nat}, atD d j l = true → dstOf l.toArray j = some d ∧ j < l.length ∧ ∀ k, k ≠ j → dstOf l.toArray k ≠ some d
  | [], j, h => by cases j <;> simp [atD] at h
  | o :: r, 0, h => by
    unfold atD at h
    rw [Bool.and_eq_true] at h
    have h1 := h.1
    refine ⟨?_, by simp, fun k hk => ?_⟩
    · simp only [dstOf, List.getElem?_toArray, List.getElem?_cons_zero, Option.bind_some]
      cases e : o.dst with
      | none => rw [e] at h1; simp at h1
      | some x => rw [e] at h1; simp at h1; rw [h1]
    · cases k with
      | zero => exact absurd rfl hk
      | succ k =>
        have := offD_at h.2 k
        simpa [dstOf] using this
  | o :: r, j + 1, h => by
    unfold atD at h
    rw [Bool.and_eq_true] at h
    have h1 := h.1
    obtain ⟨q1, q2, q3⟩ := atD_at h.2
    refine ⟨by simpa [dstOf] using q1, by simpa using q2, fun k hk => ?_⟩
    cases k with
    | zero =>
      simp only [dstOf, List.getElem?_toArray, List.getElem?_cons_zero, Option.bind_some]
      intro e
      rw [e] at h1
      simp at h1
    | succ k =>
      have := q3 k (by omega)
      simpa [dstOf] using this
theorem evals_off {ops : Array Oper} {a : Act} {vs : Nat → Value} {d : Nat} : ∀ n, (∀ k, k < n → dstOf ops k ≠ some d) → (actsTo ops a (fun _ => true) vs n).eval (.tmp d) = a.eval (.tmp d)
  | 0, _ => rfl
  | n + 1, h => by
    unfold actsTo
    rw [if_pos rfl, eval_put_tmp, if_neg (fun e => h n (by omega) e.1)]
    exact evals_off n fun k hk => h k (by omega)
theorem evals_at {ops : Array Oper} {a : Act} {vs : Nat → Value} {d j : Nat} (hj : dstOf ops j = some d) (hs : d < a.tmps.size) : ∀ n, j < n → (∀ k, k ≠ j → dstOf ops k ≠ some d) → (actsTo ops a (fun _ => true) vs n).eval (.tmp d) = vs j
  | 0, h, _ => by omega
  | n + 1, h, hn => by
    unfold actsTo
    rw [if_pos rfl, eval_put_tmp, actsTo_size]
    by_cases e : n = j
    · subst e
      rw [if_pos ⟨hj, hs⟩]
    · rw [if_neg (fun q => hn n e q.1)]
      exact evals_at hj hs n (by omega) hn
theorem off_eval {l : List Oper} {a : Act} {vs : Nat → Value} (d : Nat) (h : offD d l = true) : (actsTo l.toArray a (fun _ => true) vs l.length).eval (.tmp d) = a.eval (.tmp d) :=
  evals_off _ fun k _ => offD_at h k
theorem at_eval {l : List Oper} {a : Act} {vs : Nat → Value} (d j : Nat) (h : atD d j l = true) (hs : decide (d < a.tmps.size) = true) : (actsTo l.toArray a (fun _ => true) vs l.length).eval (.tmp d) = vs j := by
  obtain ⟨h1, h2, h3⟩ := atD_at h
  exact evals_at h1 (of_decide_eq_true hs) _ h2 h3
theorem at_tmps {l : List Oper} {a : Act} {vs : Nat → Value} (d j : Nat) (h : atD d j l = true) (hs : decide (d < a.tmps.size) = true) : (actsTo l.toArray a (fun _ => true) vs l.length).tmps[d]? = some (vs j) := by
  have h1 := at_eval (vs := vs) d j h hs
  have h2 : d < (actsTo l.toArray a (fun _ => true) vs l.length).tmps.size := by rw [actsTo_size]; exact of_decide_eq_true hs
  rw [Array.getElem?_eq_getElem h2]
  simpa [Act.eval, h2] using h1
set_option maxHeartbeats 400000 in
theorem qfine_c (w : World) {c : Nat} {g : Option Nat} {bs : List UInt8} {p : Nat} {why : Int} (h : QR w c g bs p why) :
    Calls Try.prog 16 #[.pointer (some ⟨c, 0, none⟩)] w fun e w' => e = .returned (.bool ((ends bs p why).1 == 0)) ∧ Keeps (fun _ => False) w w' := by
  have HQ := hidden (qend_c w h)
  generalize ends bs p why = E at HQ ⊢
  obtain ⟨E1, E2⟩ := E
  go_enter Try.func16, Try.ntmps16
  go_wp2_with fail
  refine HQ.out.mono ?_
  rintro e w1 ⟨rfl, hk⟩
  go_wp2
  go_ret
  exact ⟨rfl, hk⟩
/-- The slice value v reads as the rows of bytes ps in w. -/
def LSl (w : World) (v : Value) (ps : List (List UInt8)) : Prop :=
  ∃ ao cap, v = .slice ao ps.length cap ∧ ps.length ≤ cap ∧ cap ≤ maxLen ∧ ∀ j, j < ps.length → ∃ b off x, ao = some ⟨b, off, none⟩ ∧ w.cell? ⟨b, off + j, none⟩ = some x ∧ BSl w x (ps.getD j [])
theorem LSl.fresh {w w' : World} {v : Value} {ps : List (List UInt8)} (h : LSl w v ps) (hb : Below w.heap.size w w') : LSl w' v ps := by
  obtain ⟨ao, cap, rfl, h1, h2, h3⟩ := h
  refine ⟨ao, cap, rfl, h1, h2, fun j hj => ?_⟩
  obtain ⟨b, off, x, e, k1, k2⟩ := h3 j hj
  exact ⟨b, off, x, e, (Keeps.ofFresh (S := fun _ => False) hb).cell k1 (fun h => h), k2.fresh hb⟩
theorem LSl.at {w : World} {ao : Option Addr} {n cap : Nat} {ps : List (List UInt8)} (h : LSl w (.slice ao n cap) ps) (j : Nat) (hj : j < ps.length) : ∃ b off x, ao = some ⟨b, off, none⟩ ∧ w.cell? ⟨b, off + j, none⟩ = some x ∧ BSl w x (ps.getD j []) := by
  obtain ⟨ao, cap, e, _, _, hx⟩ := h
  cases e
  exact hx j hj
/-- While a law goes on: its Mux, made since w. -/
structure MI (w wr : World) (P : Nat → Prop) (a : Nat) (S : MS) : Prop where
  m : MX wr P a S
  ge : w.heap.size ≤ a
  pg : ∀ k, P k → w.heap.size ≤ k
  below : Below w.heap.size w wr
theorem MI.fresh {w wr w1 : World} {P : Nat → Prop} {a : Nat} {S : MS} (h : MI w wr P a S) (hb : Below wr.heap.size wr w1) : MI w w1 P a S := ⟨h.m.fresh hb, h.ge, h.pg, h.below.trans (hb.mono h.below.size)⟩
theorem MI.done {w wr w1 : World} {P : Nat → Prop} {a : Nat} {S S' : MS} (h : MI w wr P a S) (hm : MX w1 P a S') (hk : Keeps (fun k => k = a) wr w1) : MI w w1 P a S' := ⟨hm, h.ge, h.pg, h.below.trans (Keeps.below hk h.below.size (fun k e => by rw [e]; exact h.ge))⟩
/-- The slice value v reads as ints. -/
def IntS (w : World) (v : Value) (zs : List Int) : Prop :=
  ∃ ao cap, v = .slice ao zs.length cap ∧ zs.length ≤ cap ∧ cap ≤ maxLen ∧ ∀ j (hj : j < zs.length), ∃ b off, ao = some ⟨b, off, none⟩ ∧ w.cell? ⟨b, off + j, none⟩ = some (.int .i64 zs[j])
theorem IntS.at {w w' : World} {ao : Option Addr} {n cap : Nat} {zs : List Int} (h : IntS w (.slice ao n cap) zs) (hb : Below w.heap.size w w') (j : Nat) (hj : j < zs.length) : ∃ b off, ao = some ⟨b, off, none⟩ ∧ w'.cell? ⟨b, off + j, none⟩ = some (.int .i64 zs[j]) := by
  obtain ⟨ao, cap, e, _, _, hx⟩ := h
  cases e
  obtain ⟨b, off, h1, h2⟩ := hx j hj
  exact ⟨b, off, h1, (Keeps.ofFresh (S := fun _ => False) hb).cell h2 (fun h => h)⟩
/-- A Reader of the document, in a new box. -/
theorem QR.make {w : World} {v : Value} {bs : List UInt8} (hb : BSl w v bs) (hl : bs.length ≤ 1000000000000) (hlt : ∀ k, v.ownBlock = some k → k < w.heap.size) : QR (w.alloc (.cells #[v, .int .i64 0, .bool false, .int .i64 0, .int .i64 0] 40)) w.heap.size v.ownBlock bs 0 0 :=
  ⟨v, 0, false, 0, 0, heap_alloc_new w _, hb.alloc _, rfl, (fun e => by have := hlt _ e; omega), by omega, hl, .inl ⟨rfl, rfl, rfl⟩⟩
end Go.Proofs.Ytnimdbjbkoggdaa
