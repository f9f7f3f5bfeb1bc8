/- A place that is made in a region that draws its order, and filled at last. -/
import Derived.Test.YtookapglookphaaDoorXfC
import Derived.Test.YtookapglookphaaDoorKxI
import Derived.Laws.Tables
namespace Go.Proofs.YtookapglookphaaDoor
section
open Go Go.RowKit

def ptrB : Value → Option Nat
  | .pointer (some a) => some a.block
  | _ => none
/-- A value that hangs on no memory. -/
def FactB.pure (p : Value → Prop) : FactB := ⟨fun v _ => p v, fun _ => none, fun _ _ _ _ _ _ h => h, fun _ _ _ _ h => by cases h⟩
/-- A place of its own, from base on, with such cells. -/
def FactB.place (base : Nat) (t : TypeId) (cs : Array Value) : FactB := ⟨fun v w => ∃ B, v = .pointer (some ⟨B, 0, none⟩) ∧ base ≤ B ∧ w.heap[B]? = some (.cells cs t (0, 0)), ptrB,
  fun S v x y hk hn h => by
    obtain ⟨B, rfl, h1, h2⟩ := h
    exact ⟨B, rfl, h1, (hk.block B (lt_of_block h2) (hn B rfl)).trans h2⟩,
  fun v x k h hb => by
    obtain ⟨B, rfl, h1, h2⟩ := h
    cases hb
    exact lt_of_block h2⟩
section
variable {l : List Oper} {fs : List FactB} {rt : List Nat} {cons : List (Option Nat)} {last : Nat} {E : (Nat → Value) → World → Prop} {a : Act} {w : World} {i : Nat} {o : Oper} {r : List Oper}
/-- The operation that fills a place of the region's own. -/
theorem rowsE_put (j0 : Nat) (f0 : FactB) (hf0 : fs.getD j0 .any = f0) (hfi : fs.getD i .any = .any) (hbase : ∀ v x k, f0.holds v x → f0.blk v = some k → w.heap.size ≤ k)
    (hj0 : (edgesOf o).contains j0 = true) (hc0 : cons.getD j0 none = some i) (hr0 : rt.getD j0 0 = rt.getD i 0) (hd : deadOk l rt cons i o = true)
    (h : ∀ vs w1, Ex w w1 → (∀ j (f : FactB), (edgesOf o).contains j = true → fs.getD j .any = f → (cons.getD j none).all (· == i) = true → f.holds (vs j) w1) → StepG Tryd.prog l.toArray o (actsTo l.toArray a (fun _ => true) vs l.length) w1 fun v w2 => Keeps (fun k => f0.blk (vs j0) = some k) w1 w2 ∧ E (upd vs i v) w2)
    (t : eachF (ReqE l fs rt cons last E a w) (i + 1) r) : eachF (ReqE l fs rt cons last E a w) i (o :: r) := by
  refine ⟨fun L vs w1 hI hE hL hc he => ?_, t⟩
  have hLj : L j0 = true := he j0 (by simpa using hj0)
  have hlj : live cons L j0 := fun c hcc => by rw [hc0] at hcc; cases hcc; exact hL
  have h0 := hI.hold j0 hLj hlj
  rw [hf0] at h0
  refine (h vs w1 hI.ex fun j f h2 h3 h4 => ?_).mono fun v w2 ⟨h5, h6⟩ => ⟨?_, fun _ => h6⟩
  · have := hI.hold j (he j (by simpa using h2)) (fun c hcc => by rw [hcc] at h4; simp at h4; rw [h4]; exact hL)
    rwa [h3] at this
  · unfold deadOk at hd
    rw [Bool.and_eq_true, List.all_eq_true] at hd
    refine hI.inplace (j0 := j0) hLj hlj hr0 (fun m hm hLm hrm hlive => ?_) ?_ ?_ (by rw [hfi]; trivial) ?_
    · have hlt : m < rt.length := by
        refine Nat.lt_of_not_le fun hn => ?_
        have h8 : rt.getD m 0 = 0 := by simp [List.getD_eq_getElem?_getD, List.getElem?_eq_none hn]
        rw [h8] at hrm
        have := hd.1
        rw [← hrm] at this
        simp at this
      have h8 := hd.2 m (List.mem_range.2 hlt)
      simp only [Bool.or_eq_true, beq_iff_eq, bne_iff_ne, ne_eq] at h8
      rcases h8 with ((h8 | h8) | h8) | h8
      · exact hm h8
      · exact h8 hrm
      · split at h8
        · rename_i c hcm
          have h9 := hlive c hcm
          simp only [Bool.or_eq_true, beq_iff_eq] at h8
          rcases h8 with h8 | h8
          · rw [h8] at h9; simp [upd] at h9
          · have := he c (by simpa using h8)
            unfold upd at h9
            split at h9
            · cases h9
            · rw [this] at h9; cases h9
        · cases h8
      · split at h8
        · rename_i om hom
          have := hc m om hom hLm i (by simpa using h8)
          rw [this] at hL
          cases hL
        · cases h8
    · rw [hf0]; exact h5
    · rw [hf0]; exact fun k hk => hbase _ _ k h0 hk
    · rw [hfi]; exact fun k hk => by cases hk
end
/-- Behind the store: the place j holds two slices that are empty. -/
def EmptyE (base j : Nat) (vs : Nat → Value) (w : World) : Prop := ∃ B ak ck ah ch, vs j = .pointer (some ⟨B, 0, none⟩) ∧ base ≤ B ∧ w.heap[B]? = some (.cells #[.slice ak 0 ck, .slice ah 0 ch] 30 (0, 0))
theorem empty_ex (base j : Nat) (vs : Nat → Value) (x y : World) (he : Ex x y) (h : EmptyE base j vs x) : EmptyE base j vs y := by
  obtain ⟨B, ak, ck, ah, ch, h1, h2, h3⟩ := h
  exact ⟨B, ak, ck, ah, ch, h1, h2, (Below.block he B (lt_of_block h3)).trans h3⟩
theorem empty_upd (base j last : Nat) (es : List Nat) (hes : es.contains j = true) (vs : Nat → Value) (m : Nat) (v : Value) (x : World) (hm : es.contains m = false) (_ : m ≠ last) (h : EmptyE base j vs x) : EmptyE base j (upd vs m v) x := by
  obtain ⟨B, ak, ck, ah, ch, h1, h2, h3⟩ := h
  refine ⟨B, ak, ck, ah, ch, ?_, h2, h3⟩
  have hne : ¬ j = m := fun e => by rw [← e, hes] at hm; cases hm
  rw [upd, if_neg hne]
  exact h1
/-- Two empty slices, as a value. -/
def FactB.sec0 : FactB := .pure fun v => ∃ ak ck ah ch, v = .agg #[.slice ak 0 ck, .slice ah 0 ch]
def FactB.sl0 : FactB := .pure fun v => ∃ ao c, v = .slice ao 0 c
def FactB.srv0 : FactB := .pure fun v => ∃ ar cr ak ck ah ch, v = .tuple #[.slice ar 0 cr, .agg #[.slice ak 0 ck, .slice ah 0 ch], .int .i64 12]
def FactB.cli0 : FactB := .pure fun v => ∃ ak ck ah ch, v = .tuple #[.agg #[.slice ak 0 ck, .slice ah 0 ch], .int .i64 12]
def FactB.upto (n : Nat) : FactB := .pure fun v => ∃ k : Nat, k ≤ n ∧ v = .int .i64 k
def FactB.cutS (ao : Option Addr) (c n : Nat) : FactB := .pure fun v => ∃ k : Nat, k ≤ n ∧ v = .slice ao k c
theorem same_pure {p : Value → Prop} {v : Value} {w : World} (h : p v) : Ex w w ∧ (FactB.pure p).holds v w ∧ ∀ k, (FactB.pure p).blk v = some k → w.heap.size ≤ k := ⟨Ex.refl w, h, fun _ h => by cases h⟩
theorem toldR_pure {p : Value → Prop} {w : World} {f : FuncId} {args : Array Value} (h : Calls Tryd.prog f args w fun e w' => ∃ v, e = .returned v ∧ p v ∧ Below w.heap.size w w') : Calls Tryd.prog f args w fun e w' => ∃ v, e = .returned v ∧ Ex w w' ∧ (FactB.pure p).holds v w' ∧ ∀ k, (FactB.pure p).blk v = some k → w.heap.size ≤ k :=
  h.mono fun _ _ ⟨v, h1, h2, h3⟩ => ⟨v, h1, h3, h2, fun _ h => by cases h⟩
theorem told_srv0 {w : World} {args : Array Value} {o : Int × List UInt8 × List UInt8 × List UInt8} (ho : o = (12, [], [], [])) (h : Calls Tryd.prog 8 args w (SrvPost w o)) : Calls Tryd.prog 8 args w fun e w' => ∃ v, e = .returned v ∧ Ex w w' ∧ FactB.srv0.holds v w' ∧ ∀ k, FactB.srv0.blk v = some k → w.heap.size ≤ k := by
  subst ho
  refine toldR_pure (h.mono ?_)
  rintro e w' ⟨hb, vr, vk, vh, rfl, h1, h2, h3⟩
  obtain ⟨a1, c1, rfl⟩ := h1.nil
  obtain ⟨a2, c2, rfl⟩ := h2.nil
  obtain ⟨a3, c3, rfl⟩ := h3.nil
  exact ⟨_, rfl, ⟨_, _, _, _, _, _, rfl⟩, hb⟩
theorem told_cli0 {w : World} {args : Array Value} {o : Int × List UInt8 × List UInt8} (ho : o = (12, [], [])) (h : Calls Tryd.prog 9 args w (CliPost w o)) : Calls Tryd.prog 9 args w fun e w' => ∃ v, e = .returned v ∧ Ex w w' ∧ FactB.cli0.holds v w' ∧ ∀ k, FactB.cli0.blk v = some k → w.heap.size ≤ k := by
  subst ho
  refine toldR_pure (h.mono ?_)
  rintro e w' ⟨hb, vk, vh, rfl, h2, h3⟩
  obtain ⟨a2, c2, rfl⟩ := h2.nil
  obtain ⟨a3, c3, rfl⟩ := h3.nil
  exact ⟨_, rfl, ⟨_, _, _, _, rfl⟩, hb⟩
theorem told_within (n : Int) (h : Nat) (hh : h ≤ 1000000000) (w : World) : Calls Tryd.prog 16 #[.int .i64 n, .int .i64 0, .int .i64 h] w fun e w' => ∃ v, e = .returned v ∧ Ex w w' ∧ (FactB.upto h).holds v w' ∧ ∀ k, (FactB.upto h).blk v = some k → w.heap.size ≤ k :=
  toldR_pure ((within_c n h hh w).mono fun _ _ ⟨k, h1, h2, h3⟩ => ⟨_, h1, ⟨k, h2, rfl⟩, by rw [h3]; exact Below.refl _ _⟩)
section
variable {o : Oper} {ρ : Operand → Value} {w w0 : World} {x y : Operand} {Φ : Value → World → Prop}
theorem gives_loadAgg {ty t : TypeId} {g : Nat} {cs : Array Value} {fr : Nat × Nat} {fs : Array Field} (ho : o.op = .load ty x) (hx : ρ x = .pointer (some ⟨g, 0, none⟩)) (hg : w.heap[g]? = some (.cells cs t fr))
    (hu : Tryd.prog.underlying ty = some (.struct fs)) (hi : (Tryd.prog.info? ty).map (·.size) = some cs.size) (h : Φ (.agg cs) w) : Gives Tryd.prog o ρ w Φ := by
  refine Gives.value (w' := w) (v := .agg cs) ?_ h
  unfold execOp
  simp only [ho, Instr.loadAt, Sem.run_bind, hx, Instr.sureAddr, Sem.run_pure, Result.andThen, run_loadVar_row w g t ty cs fr _ hg hu rfl hi]
theorem gives_ext {i : Nat} {us : Array Value} {v : Value} (ho : o.op = .extract x i) (hx : ρ x = .tuple us) (hv : us[i]? = some v) (h : Φ v w) : Gives Tryd.prog o ρ w Φ := by
  refine Gives.value (w' := w) (v := v) ?_ h
  unfold execOp
  simp [ho, hx, hv, Instr.extract]
theorem gives_store {ty t : TypeId} {g : Nat} {cs old : Array Value} (ho : o.op = .store ty x y) (hx : ρ x = .pointer (some ⟨g, 0, none⟩)) (hy : ρ y = .agg cs) (hg : w.heap[g]? = some (.cells old t (0, 0))) (hi : (Tryd.prog.info? ty).map (·.size) = some cs.size) (hold : old.size = cs.size) (h1 : cs.all (·.oneCell') = true) (h : Φ undef (w.setRow g cs)) : Gives Tryd.prog o ρ w Φ := by
  refine ⟨?_⟩
  unfold GivesM execOp
  simp only [ho, hx, hy, Instr.storeAt, Instr.sureAddr, Sem.run_bind, Sem.run_pure, Result.andThen_ok, run_storeVar_row w g t ty old cs hg hi hold h1]
  exact h
theorem gives_allocS (ho : o.op = .alloc 30) (he : Ex w0 w) : Gives Tryd.prog o ρ w fun v w2 => Ex w w2 ∧ (FactB.place w0.heap.size 30 #[.slice none 0 0, .slice none 0 0]).holds v w2 ∧ ∀ k, (FactB.place w0.heap.size 30 #[.slice none 0 0, .slice none 0 0]).blk v = some k → w.heap.size ≤ k := by
  refine Gives.value (w' := w.alloc (.cells #[.slice none 0 0, .slice none 0 0] 30)) (v := .pointer (some ⟨w.heap.size, 0, none⟩)) ?_ ⟨Ex.alloc w _, ⟨w.heap.size, rfl, he.size, heap_alloc_new w _⟩, fun k hk => ?_⟩
  · unfold execOp
    simp only [ho]
    have hz : (zeroValue 30).run Tryd.prog w = .ok (.agg #[.slice none 0 0, .slice none 0 0]) w := (zero_of_info (P := Tryd.prog) (t := 30) (v := .agg #[.slice none 0 0, .slice none 0 0]) (n := 2) (by kernel_rfl)).1 w
    simp [Instr.alloc, hz, newVar]
    rfl
  · have hk' : ptrB (.pointer (some ⟨w.heap.size, 0, none⟩)) = some k := hk
    cases hk'
    exact Nat.le_refl _
/-- The store of two empty slices into the place. -/
theorem gives_put {v0 v1 : Value} {j i : Nat} {vs : Nat → Value} (hji : ¬ j = i) (ho : o.op = .store 30 x y) (hx : ρ x = v0) (hy : ρ y = v1) (hj : vs j = v0) (h0 : (FactB.place w0.heap.size 30 #[.slice none 0 0, .slice none 0 0]).holds v0 w) (h1 : FactB.sec0.holds v1 w) :
    Gives Tryd.prog o ρ w fun v w2 => Keeps (fun k => (FactB.place w0.heap.size 30 #[.slice none 0 0, .slice none 0 0]).blk (vs j) = some k) w w2 ∧ EmptyE w0.heap.size j (upd vs i v) w2 := by
  obtain ⟨B, rfl, hB, hrow⟩ := h0
  obtain ⟨ak, ck, ah, ch, rfl⟩ := h1
  refine gives_store ho hx hy hrow (by kernel_rfl) rfl (by simp [Value.oneCell']) ⟨?_, B, ak, ck, ah, ch, ?_, hB, setRow_heap w B _ _ _ _ hrow⟩
  · rw [hj]
    refine Keeps.setRow (Keeps.refl _ w) (g := B) ?_ _
    show ptrB (.pointer (some ⟨B, 0, none⟩)) = some B
    rfl
  · rw [upd, if_neg hji]
    exact hj
end
end
end Go.Proofs.YtookapglookphaaDoor
