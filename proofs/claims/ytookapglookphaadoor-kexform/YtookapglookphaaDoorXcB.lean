/- curve: the ladder. -/
import Derived.Test.YtookapglookphaaDoorXcA
import Derived.Deep.QuietTactic
import Derived.BigQuiet
namespace Go.Proofs.YtookapglookphaaDoor
section
open Go Go.RowKit

def Z10 : List Nat := [0, 0, 0, 0, 0, 0, 0, 0, 0, 0]
theorem results_cell2 {fn : Func} {p q : Tmp} {ty : TypeId} (h : fn.results = #[.cell p ty, .cell q ty]) (tmps : Array Value) (P : Program) (w : World) (g g2 : Nat) (cs cs2 : Array Value) (t t2 : TypeId) (d : TypeDesc) (hp : tmps.getD p undef = .pointer (some ⟨g, 0, none⟩)) (hq : tmps.getD q undef = .pointer (some ⟨g2, 0, none⟩)) (hg : w.heap[g]? = some (.cells cs t (0, 0))) (hg2 : w.heap[g2]? = some (.cells cs2 t2 (0, 0)))
    (hu : P.underlying ty = some d) (hd : d.isRow = true) (hi : (P.info? ty).map (·.size) = some cs.size) (hi2 : (P.info? ty).map (·.size) = some cs2.size) :
    (results fn tmps).run P w = .ok (.tuple #[.agg cs, .agg cs2]) w := by
  have hp' : tmps[p]?.getD undef = .pointer (some ⟨g, 0, none⟩) := by rw [← hp]; simp
  have hq' : tmps[q]?.getD undef = .pointer (some ⟨g2, 0, none⟩) := by rw [← hq]; simp
  have r1 : w.rangeAt g 0 cs.toList := fun j v hv => by rw [Nat.zero_add, cell_of_row w g j cs t (0, 0) hg]; simpa using hv
  have r2 : w.rangeAt g2 0 cs2.toList := fun j v hv => by rw [Nat.zero_add, cell_of_row w g2 j cs2 t2 (0, 0) hg2]; simpa using hv
  have l1 := run_loadVar_mid (P := P) w g 0 ty cs.toList d r1 hu hd (by simpa using hi)
  have l2 := run_loadVar_mid (P := P) w g2 0 ty cs2.toList d r2 hu hd (by simpa using hi2)
  simp only [results, h]
  simp [hp', hq', asAddr, l1, l2]
theorem ST.start (w : World) (htp : Tp w) {X2 Z2 X3 Z3 U : List Nat} {x2 z2 x3 z3 u : Nat} (h1 : Tm X2 x2) (h2 : Tm Z2 z2) (h3 : Tm X3 x3) (h4 : Tm Z3 z3) (h5 : Tm U u) :
    ST w (((((w.alloc (.cells (ncells .u64 (X2 ++ Z2)).toArray 133)).alloc (.cells (ncells .u64 (X3 ++ Z3)).toArray 133)).alloc (.cells (ncells .u64 U).toArray 118)).alloc (.cells (ncells .u64 Z10).toArray 133)).alloc (.cells (ncells .u64 Z10).toArray 133)) x2 z2 x3 z3 u Z10 Z10 := by
  obtain ⟨w1, e1⟩ : ∃ x, x = w.alloc (.cells (ncells .u64 (X2 ++ Z2)).toArray 133) := ⟨_, rfl⟩
  obtain ⟨w2, e2⟩ : ∃ x, x = w1.alloc (.cells (ncells .u64 (X3 ++ Z3)).toArray 133) := ⟨_, rfl⟩
  obtain ⟨w3, e3⟩ : ∃ x, x = w2.alloc (.cells (ncells .u64 U).toArray 118) := ⟨_, rfl⟩
  obtain ⟨w4, e4⟩ : ∃ x, x = w3.alloc (.cells (ncells .u64 Z10).toArray 133) := ⟨_, rfl⟩
  obtain ⟨w5, e5⟩ : ∃ x, x = w4.alloc (.cells (ncells .u64 Z10).toArray 133) := ⟨_, rfl⟩
  have s1 : w1.heap.size = w.heap.size + 1 := by rw [e1]; simp
  have s2 : w2.heap.size = w.heap.size + 2 := by rw [e2]; simp; omega
  have s3 : w3.heap.size = w.heap.size + 3 := by rw [e3]; simp; omega
  have s4 : w4.heap.size = w.heap.size + 4 := by rw [e4]; simp; omega
  have n1 : NB .u64 w1 w.heap.size 133 (X2 ++ Z2) := by rw [e1]; exact NB.new w _
  have n2 : NB .u64 w2 (w.heap.size + 1) 133 (X3 ++ Z3) := by rw [e2, ← s1]; exact NB.new w1 _
  have n3 : NB .u64 w3 (w.heap.size + 2) 118 U := by rw [e3, ← s2]; exact NB.new w2 _
  have n4 : NB .u64 w4 (w.heap.size + 3) 133 Z10 := by rw [e4, ← s3]; exact NB.new w3 _
  have n5 : NB .u64 w5 (w.heap.size + 4) 133 Z10 := by rw [e5, ← s4]; exact NB.new w4 _
  have x1 : Ex w w1 := by rw [e1]; exact Ex.alloc w _
  have x2' : Ex w1 w2 := by rw [e2]; exact Ex.alloc w1 _
  have x3' : Ex w2 w3 := by rw [e3]; exact Ex.alloc w2 _
  have x4 : Ex w3 w4 := by rw [e4]; exact Ex.alloc w3 _
  have x5 : Ex w4 w5 := by rw [e5]; exact Ex.alloc w4 _
  rw [← e1, ← e2, ← e3, ← e4, ← e5]
  have x45 := x4.trans x5
  have x345 := x3'.trans x45
  have x2345 := x2'.trans x345
  exact ⟨⟨X2, Z2, n1.fresh x2345, h1, h2⟩, ⟨X3, Z3, n2.fresh x345, h3, h4⟩, ⟨U, n3.fresh x45, h5⟩, n4.fresh x5, n5, x1.trans x2345, htp.fresh (x1.trans x2345)⟩
end
section
open Go Go.RowKit

section
variable {ops : Array Oper} {rest : List Oper} {o o2 : Oper} {a : Act} {w : World} {Q : Exit → Act → World → Prop} {x y : Operand}
theorem wpList_load5 {g n : Nat} (hg : o.guard = none) (ho : o.op = .load 118 x) (hx : a.eval x = .pointer (some ⟨g, 0, none⟩)) (hb : N5 w g n)
    (h : ∀ v, IsN v n → wpList Tryd.prog ops Q rest (a.put o.dst v) w) : wpList Tryd.prog ops Q (o :: rest) a w :=
  wpList_gives (Φ := fun v w' => IsN v n ∧ w' = w) hg (gives_load5 ho hx hb fun _ hv => ⟨hv, rfl⟩) fun v w' ⟨hv, e⟩ => by rw [e]; exact h v hv
theorem wpList_load5d {g n : Nat} {d : Tmp} (_ : o.dst = some d) (hg : o.guard = none) (ho : o.op = .load 118 x) (hx : a.eval x = .pointer (some ⟨g, 0, none⟩)) (hb : N5 w g n)
    (h : ∀ v, IsN v n → wpList Tryd.prog ops Q rest (a.put o.dst v) w) : wpList Tryd.prog ops Q (o :: rest) a w := wpList_load5 hg ho hx hb h
theorem wpList_loadX {g n m : Nat} (hg : o.guard = none) (ho : o.op = .load 118 x) (hx : a.eval x = .pointer (some ⟨g, 0, none⟩)) (hb : R10 w g n m)
    (h : ∀ v, IsN v n → wpList Tryd.prog ops Q rest (a.put o.dst v) w) : wpList Tryd.prog ops Q (o :: rest) a w := by
  obtain ⟨X, Z, h1, h2, h3⟩ := hb
  exact wpList_gives (Φ := fun v w' => IsN v n ∧ w' = w) hg (gives_load ho hx h1.rangeL h2.len ⟨⟨X, rfl, h2⟩, rfl⟩) fun v w' ⟨hv, e⟩ => by rw [e]; exact h v hv
theorem wpList_minus {n m : Nat} {ts : Array TypeId} {vx vy : Value} (hg : o.guard = none) (ho : o.op = .call { callee := .value (.func 101), args := #[x, y], argTypes := ts }) (ex : a.eval x = vx) (hx : IsN vx n) (ey : a.eval y = vy) (hy : IsN vy m) (ht : Tp w)
    (h : ∀ v w', IsN v (fsub n m) → Ex w w' → wpList Tryd.prog ops Q rest (a.put o.dst v) w') : wpList Tryd.prog ops Q (o :: rest) a w :=
  wpList_gives hg (kd_minus (ks := []) (U := 0) ho rfl ex hx ey hy ht) fun v w' hv => h v w' hv.2.1 hv.1
theorem wpList_times {n m : Nat} {ts : Array TypeId} {vx vy : Value} (hg : o.guard = none) (ho : o.op = .call { callee := .value (.func 94), args := #[x, y], argTypes := ts }) (ex : a.eval x = vx) (hx : IsN vx n) (ey : a.eval y = vy) (hy : IsN vy m)
    (h : ∀ v w', IsN v (fmul n m) → Ex w w' → wpList Tryd.prog ops Q rest (a.put o.dst v) w') : wpList Tryd.prog ops Q (o :: rest) a w :=
  wpList_gives hg (kd_times (ks := []) (U := 0) ho rfl ex hx ey hy) fun v w' hv => h v w' hv.2.1 hv.1
/-- A new place, and a number laid into it. -/
theorem wpList_new {n : Nat} {d e : Tmp} {v : Value} (hg : o.guard = none ∧ o2.guard = none) (ho : o.op = .alloc 118) (ho2 : o2.op = .store 118 (.tmp d) (.tmp e)) (hd : o.dst = some d) (hd2 : o2.dst = none)
    (hs : decide (d < a.tmps.size) = true) (hv : a.eval (.tmp e) = v) (hn : IsN v n) (hde : d ≠ e)
    (h : ∀ g w', Ex w w' → N5 w' g n → w.heap.size ≤ g → wpList Tryd.prog ops Q rest (a.put (some d) (.pointer (some ⟨g, 0, none⟩))) w') : wpList Tryd.prog ops Q (o :: o2 :: rest) a w := by
  obtain ⟨R, rfl, ht⟩ := hn
  refine wpList_gives (Φ := fun u w' => u = .pointer (some ⟨w.heap.size, 0, none⟩) ∧ w' = w.alloc (.cells (ncells .u64 [0, 0, 0, 0, 0]).toArray 118)) hg.1 (gives_alloc ho ⟨rfl, rfl⟩) fun u w' ⟨e1, e2⟩ => ?_
  rw [e1, e2, hd]
  obtain ⟨z1, y1, x1⟩ := row_facts R ht.len
  have hn0 := heap_alloc_new w (.cells (ncells .u64 [0, 0, 0, 0, 0]).toArray 118)
  refine wpList_store_row hg.2 118 _ _ ho2 w.heap.size (ncells .u64 R).toArray ?_ ?_ 118 _ hn0 z1 x1 y1 ?_
  · rw [eval_put_tmp, if_pos ⟨rfl, of_decide_eq_true hs⟩]
  · rw [eval_put_tmp, if_neg (by intro h; exact hde (Option.some.inj h.1)), hv]
  · rw [hd2]
    refine h w.heap.size _ ?_ ⟨R, ?_, ht⟩ (Nat.le_refl _)
    · exact below_setRow (Ex.alloc w _) (Nat.le_refl _) _
    · unfold NB
      rw [setRow_heap _ _ _ _ _ _ hn0]
/-- A number laid into a place that holds one. -/
theorem wpList_over {n m g : Nat} {v : Value} (hg : o.guard = none) (ho : o.op = .store 118 x y) (hd : o.dst = none) (hx : a.eval x = .pointer (some ⟨g, 0, none⟩)) (hy : a.eval y = v) (hn : IsN v n) (hb : N5 w g m)
    (h : ∀ w', Keeps (fun k => k = g) w w' → N5 w' g n → wpList Tryd.prog ops Q rest a w') : wpList Tryd.prog ops Q (o :: rest) a w := by
  obtain ⟨R, rfl, ht⟩ := hn
  obtain ⟨R0, hb, ht0⟩ := hb
  obtain ⟨z1, y1, x1⟩ := row_facts R ht.len
  have hz : (ncells .u64 R0).toArray.size = (ncells .u64 R).toArray.size := by rw [List.size_toArray, List.size_toArray, ncells_length, ncells_length, ht.len, ht0.len]
  refine wpList_store_row hg 118 _ _ ho g (ncells .u64 R).toArray hx hy 118 _ hb z1 hz y1 ?_
  rw [hd]
  refine h _ ⟨rfl, rfl, rfl, by simp, fun k _ hk => setRow_other _ _ _ _ hk⟩ ⟨R, ?_, ht⟩
  unfold NB
  rw [setRow_heap _ _ _ _ _ _ hb]
/-- A number laid into the middle of a block. -/
theorem wpList_mid {n g off : Nat} {t : TypeId} {v : Value} {D : List Nat} (hg : o.guard = none) (ho : o.op = .store 118 x y) (hd : o.dst = none) (hx : a.eval x = .pointer (some ⟨g, off, none⟩)) (hy : a.eval y = v) (hn : IsN v n) (hb : NB .u64 w g t D) (hl : off + 5 ≤ D.length)
    (h : ∀ w' R, Keeps (fun k => k = g) w w' → Tm R n → NB .u64 w' g t (setL D off R) → wpList Tryd.prog ops Q rest a w') : wpList Tryd.prog ops Q (o :: rest) a w := by
  obtain ⟨R, rfl, ht⟩ := hn
  refine wpList_store_mid hg 118 _ _ ho g off (ncells .u64 R).toArray hx hy (by rw [List.size_toArray, ncells_length, ht.len]; exact hb.there off 5 hl) (num_size' R ht.len) (num_one R) ?_
  rw [hd]
  exact h _ R (Keeps.setCells (S := fun k => k = g) (g := g) rfl _ _ _ _ (Keeps.refl _ w)) ht (NB.setCells R D off w hb)
end
/-- A number of step's own. -/
def NN (w0 w : World) (g a : Nat) : Prop := N5 w g a ∧ w0.heap.size + 5 ≤ g
theorem NN.ext {w0 w w' : World} {g a : Nat} (h : NN w0 w g a) (he : Ex w w') : NN w0 w' g a := ⟨h.1.ext he, h.2⟩
theorem NN.keepD {w0 w w' : World} {g a : Nat} (h : NN w0 w g a) (hk : Keeps (fun k => k = w0.heap.size + 3) w w') : NN w0 w' g a := ⟨h.1.keep hk (by have := h.2; omega), h.2⟩
theorem NN.keepS {w0 w w' : World} {g a : Nat} (h : NN w0 w g a) (hk : Keeps (fun k => k = w0.heap.size + 4) w w') : NN w0 w' g a := ⟨h.1.keep hk (by have := h.2; omega), h.2⟩
theorem NN.mk' {w0 wa w : World} {x2 z2 x3 z3 u : Nat} {D S : List Nat} {g a : Nat} (h : N5 w g a) (hs : ST w0 wa x2 z2 x3 z3 u D S) (hb : wa.heap.size ≤ g) : NN w0 w g a := ⟨h, by have := hs.size; omega⟩
theorem setL_a (R : List Nat) (h : R.length = 5) : setL Z10 0 R = R ++ [0, 0, 0, 0, 0] := by obtain ⟨a, b, c, d, e, rfl⟩ := list5 h; rfl
theorem setL_b (R S : List Nat) (h : R.length = 5) (k : S.length = 5) : setL (R ++ [0, 0, 0, 0, 0]) 5 S = R ++ S := by
  obtain ⟨a, b, c, d, e, rfl⟩ := list5 h
  obtain ⟨a', b', c', d', e', rfl⟩ := list5 k
  rfl
theorem gives_loadD {o : Oper} {ρ : Operand → Value} {w : World} {x : Operand} {g : Nat} {D : List Nat} {Φ : Value → World → Prop} (ho : o.op = .load 133 x) (hx : ρ x = .pointer (some ⟨g, 0, none⟩))
    (hr : NB .u64 w g 133 D) (hl : D.length = 10) (h : Φ (.agg (ncells .u64 D).toArray) w) : Gives Tryd.prog o ρ w Φ := by
  refine Gives.value (w' := w) (v := .agg (ncells .u64 D).toArray) ?_ h
  unfold execOp
  simp only [ho, hx]
  rw [Sem.run_bind, run_loadAt_mid w g 0 133 _ _ hr.range Tryd.underlying133 rfl (by rw [ncells_length, hl]; kernel_rfl)]
  rfl
theorem wpOp_load {l : List Oper} {i : Nat} {o : Oper} {Q : Exit → Act → World → Prop} {K : Act → World → Prop} {a : Act} {w : World} {x : Operand} {g : Nat} {D : List Nat} (ho : l[i]? = some o) (hg : o.guard = none) (hl : o.op = .load 133 x) (hx : a.eval x = .pointer (some ⟨g, 0, none⟩))
    (hr : NB .u64 w g 133 D) (hd : D.length = 10) (h : K (a.put o.dst (.agg (ncells .u64 D).toArray)) w) : wpOp Tryd.prog l.toArray Q i K a w := by
  unfold wpOp
  rw [show l.toArray[i]? = some o by simpa using ho]
  simp only [Region.wanted, hg, if_true]
  exact .inl (Gives.wp (Φ := fun v w' => v = .agg (ncells .u64 D).toArray ∧ w' = w) (gives_loadD hl hx hr hd ⟨rfl, rfl⟩) fun v w' ⟨e1, e2⟩ => by rw [e1, e2]; exact h)
theorem wpOp_back {l : List Oper} {i : Nat} {o : Oper} {Q : Exit → Act → World → Prop} {K : Act → World → Prop} {a : Act} {w : World} {d e : Tmp} {g : Nat} {D : List Nat} (ho : l[i]? = some o) (hs : isStore 133 d e (some o)) (hx : a.eval (.tmp d) = .pointer (some ⟨g, 0, none⟩)) (hy : a.eval (.tmp e) = .agg (ncells .u64 D).toArray)
    (hr : NB .u64 w g 133 D) (hd : D.length = 10) (h : K a (w.setRow g (ncells .u64 D).toArray)) : wpOp Tryd.prog l.toArray Q i K a w := by
  obtain ⟨p, q, s1, s2, s3⟩ := hs.spec
  cases q
  have z1 : (Tryd.prog.info? 133).map (·.size) = some (ncells .u64 D).toArray.size := by rw [List.size_toArray, ncells_length, hd]; kernel_rfl
  unfold wpOp
  rw [show l.toArray[i]? = some o by simpa using ho]
  simp only [Region.wanted, s2, if_true]
  refine .inl (wp_store_row 133 _ _ s1 g (ncells .u64 D).toArray hx hy 133 _ hr z1 rfl (num_one D) ?_)
  rw [s3]
  exact h
theorem NB.back {w : World} {g g' : Nat} {t : TypeId} {D D' : List Nat} (h : NB .u64 w g' t D') (h2 : NB .u64 w g t D) : NB .u64 (w.setRow g (ncells .u64 D).toArray) g' t D' := by
  unfold NB at *
  by_cases e : g' = g
  · subst e
    rw [setRow_heap _ _ _ _ _ _ h2, ← h2, h]
  · rw [setRow_other _ _ _ _ e, h]
/-- Two ratios, read and laid back. -/
theorem region_back {id : Nat} {Q : Exit → Act → World → Prop} (g1 g2 : Nat) {a : Act} {w : World} (D1 D2 : List Nat) (d1 d2 e1 e2 : Tmp) (o1 o2 o3 o4 : Oper)
    (k1 : o1.op = .load 133 (.tmp d1) ∧ o1.guard = none ∧ o1.dst = some e1) (k2 : o2.op = .load 133 (.tmp d2) ∧ o2.guard = none ∧ o2.dst = some e2)
    (s1 : isStore 133 d1 e1 (some o3)) (s2 : isStore 133 d2 e2 (some o4))
    (r0 : Region.ready .any [o1, o2, o3, o4].toArray #[false, false, false, false] = [0, 1]) (ra : Region.ready .any [o1, o2, o3, o4].toArray #[true, false, false, false] = [1, 2]) (rb : Region.ready .any [o1, o2, o3, o4].toArray #[false, true, false, false] = [0])
    (rc : Region.ready .any [o1, o2, o3, o4].toArray #[true, true, false, false] = [2]) (rd : Region.ready .any [o1, o2, o3, o4].toArray #[true, false, true, false] = [1]) (re : Region.ready .any [o1, o2, o3, o4].toArray #[true, true, true, false] = [3]) (rf : Region.ready .any [o1, o2, o3, o4].toArray #[true, true, true, true] = [])
    (hs : decide (e1 < a.tmps.size) = true ∧ decide (e2 < a.tmps.size) = true) (hne : e1 ≠ e2 ∧ d1 ≠ e1 ∧ d1 ≠ e2 ∧ d2 ≠ e1 ∧ d2 ≠ e2)
    (ev : a.eval (.tmp d1) = .pointer (some ⟨g1, 0, none⟩) ∧ a.eval (.tmp d2) = .pointer (some ⟨g2, 0, none⟩))
    (n1 : NB .u64 w g1 133 D1) (n2 : NB .u64 w g2 133 D2) (l1 : D1.length = 10) (l2 : D2.length = 10)
    (hcont : ∀ w', Keeps (fun k => k = g1 ∨ k = g2) w w' → NB .u64 w' g1 133 D1 → NB .u64 w' g2 133 D2 → Q .normal ((a.put (some e1) (.agg (ncells .u64 D1).toArray)).put (some e2) (.agg (ncells .u64 D2).toArray)) w') :
    (Code.region id [o1, o2, o3, o4].toArray true).wp Tryd.prog Q a w := by
  obtain ⟨q1, q2, q3⟩ := k1
  obtain ⟨p1, p2, p3⟩ := k2
  obtain ⟨z1, z2⟩ := hs
  have z1 := of_decide_eq_true z1
  have z2 := of_decide_eq_true z2
  obtain ⟨y1, y2, y3, y4, y5⟩ := hne
  obtain ⟨v1, v2⟩ := ev
  have tl : ∀ {d e : Tmp}, d ≠ e → ¬ (some e = some d ∧ d < a.tmps.size) := fun h e => h (Option.some.inj e.1).symm
  have E1 : ∀ v, (a.put (some e1) v).eval (.tmp d1) = .pointer (some ⟨g1, 0, none⟩) := fun v => by rw [eval_put_tmp, if_neg (tl y2), v1]
  have E2 : ∀ v, (a.put (some e1) v).eval (.tmp d2) = .pointer (some ⟨g2, 0, none⟩) := fun v => by rw [eval_put_tmp, if_neg (tl y4), v2]
  have E3 : ∀ v, (a.put (some e1) v).eval (.tmp e1) = v := fun v => by rw [eval_put_tmp, if_pos ⟨rfl, z1⟩]
  have E4 : ∀ v u, ((a.put (some e1) v).put (some e2) u).eval (.tmp d1) = .pointer (some ⟨g1, 0, none⟩) := fun v u => by rw [eval_put_tmp, if_neg (by intro e; exact y3 (Option.some.inj e.1).symm), E1]
  have E5 : ∀ v u, ((a.put (some e1) v).put (some e2) u).eval (.tmp d2) = .pointer (some ⟨g2, 0, none⟩) := fun v u => by rw [eval_put_tmp, if_neg (by intro e; exact y5 (Option.some.inj e.1).symm), E2]
  have E6 : ∀ v u, ((a.put (some e1) v).put (some e2) u).eval (.tmp e1) = v := fun v u => by rw [eval_put_tmp, if_neg (by intro e; exact y1 (Option.some.inj e.1).symm), E3]
  have E7 : ∀ v u, ((a.put (some e1) v).put (some e2) u).eval (.tmp e2) = u := fun v u => by rw [eval_put_tmp, if_pos ⟨rfl, by rw [put_size]; exact z2⟩]
  have E8 : ∀ v, (a.put (some e2) v).eval (.tmp d1) = .pointer (some ⟨g1, 0, none⟩) := fun v => by rw [eval_put_tmp, if_neg (tl y3), v1]
  have c0 : ∀ (w' : World) (v u : Value), Keeps (fun k => k = g1 ∨ k = g2) w w' → NB .u64 w' g1 133 D1 → NB .u64 w' g2 133 D2 → v = .agg (ncells .u64 D1).toArray → u = .agg (ncells .u64 D2).toArray →
      wpAny Tryd.prog .any [o1, o2, o3, o4].toArray Q 1 #[true, true, true, false] ((a.put (some e1) v).put (some e2) u) w' := fun w' v u hk h1 h2 ev eu => by
    subst ev
    subst eu
    refine wpAny_all re (by simp) fun j hj => ?_
    obtain rfl := List.mem_singleton.1 hj
    refine wpOp_back rfl s2 (E5 _ _) (E7 _ _) h2 l2 ?_
    refine wpAny_done rf ?_ 0
    refine hcont _ (hk.trans ⟨rfl, rfl, rfl, by simp, fun k _ h => setRow_other _ _ _ _ (fun e => h (.inr e))⟩) (h1.back h2) (h2.back h2)
  have keep1 : ∀ w', Keeps (fun k => k = g1 ∨ k = g2) w w' → Keeps (fun k => k = g1 ∨ k = g2) w (w'.setRow g1 (ncells .u64 D1).toArray) := fun w' hk => hk.trans ⟨rfl, rfl, rfl, by simp, fun k _ h => setRow_other _ _ _ _ (fun e => h (.inl e))⟩
  have m1 : NB .u64 w.drew g1 133 D1 := n1
  have m2 : NB .u64 w.drew g2 133 D2 := n2
  have k0 : Keeps (fun k => k = g1 ∨ k = g2) w w.drew := (Keeps.refl _ w).drew
  have c1 : ∀ (w' : World), Keeps (fun k => k = g1 ∨ k = g2) w w' → NB .u64 w' g1 133 D1 → NB .u64 w' g2 133 D2 →
      wpAny Tryd.prog .any [o1, o2, o3, o4].toArray Q 2 #[true, true, false, false] ((a.put (some e1) (.agg (ncells .u64 D1).toArray)).put (some e2) (.agg (ncells .u64 D2).toArray)) w' := fun w' hk h1 h2 => by
    refine wpAny_all rc (by simp) fun j hj => ?_
    obtain rfl := List.mem_singleton.1 hj
    refine wpOp_back rfl s1 (E4 _ _) (E6 _ _) h1 l1 ?_
    exact c0 _ _ _ (keep1 w' hk) (h1.back h1) (h2.back h1) rfl rfl
  refine wp_region_any (by kernel_rfl) ?_
  change wpAny Tryd.prog .any [o1, o2, o3, o4].toArray Q 4 #[false, false, false, false] a w.drew
  refine wpAny_all r0 (by simp) fun j hj => ?_
  rcases List.mem_cons.1 hj with rfl | hj
  · refine wpOp_load rfl q2 q1 v1 m1 l1 ?_
    rw [q3]
    change wpAny Tryd.prog .any [o1, o2, o3, o4].toArray Q 3 #[true, false, false, false] _ _
    refine wpAny_all ra (by simp) fun j hj => ?_
    rcases List.mem_cons.1 hj with rfl | hj
    · refine wpOp_load rfl p2 p1 (E2 _) m2 l2 ?_
      rw [p3]
      exact c1 _ k0 m1 m2
    · obtain rfl := List.mem_singleton.1 hj
      refine wpOp_back rfl s1 (E1 _) (E3 _) m1 l1 ?_
      change wpAny Tryd.prog .any [o1, o2, o3, o4].toArray Q 2 #[true, false, true, false] _ _
      refine wpAny_all rd (by simp) fun j hj => ?_
      obtain rfl := List.mem_singleton.1 hj
      refine wpOp_load rfl p2 p1 (E2 _) (m2.back m1) l2 ?_
      rw [p3]
      exact c0 _ _ _ (keep1 _ k0) (m1.back m1) (m2.back m1) rfl rfl
  · obtain rfl := List.mem_singleton.1 hj
    refine wpOp_load rfl p2 p1 v2 m2 l2 ?_
    rw [p3]
    change wpAny Tryd.prog .any [o1, o2, o3, o4].toArray Q 3 #[false, true, false, false] _ _
    refine wpAny_all rb (by simp) fun j hj => ?_
    obtain rfl := List.mem_singleton.1 hj
    refine wpOp_load rfl q2 q1 (E8 _) m1 l1 ?_
    rw [q3, Act.put_comm (x := some e2) (y := some e1) a _ _ (by intro d h1 h2; exact y1 (by rw [Option.some.inj h1, Option.some.inj h2]))]
    exact c1 _ k0 m1 m2
end
section
open Go Go.RowKit

def dblX (x z : Nat) : Nat := fmul (fmul (fadd x z) (fadd x z)) (fmul (fsub x z) (fsub x z))
def apartOf (x z : Nat) : Nat := fsub (fmul (fadd x z) (fadd x z)) (fmul (fsub x z) (fsub x z))
def dblZ (x z : Nat) : Nat := fmul (apartOf x z) (fadd (fmul (fadd x z) (fadd x z)) (fmul 121665 (apartOf x z)))
def oneOf (x2 z2 x3 z3 : Nat) : Nat := fmul (fsub x3 z3) (fadd x2 z2)
def othOf (x2 z2 x3 z3 : Nat) : Nat := fmul (fadd x3 z3) (fsub x2 z2)
def sumX (x2 z2 x3 z3 : Nat) : Nat := fmul (fadd (oneOf x2 z2 x3 z3) (othOf x2 z2 x3 z3)) (fadd (oneOf x2 z2 x3 z3) (othOf x2 z2 x3 z3))
def sumZ (x2 z2 x3 z3 u : Nat) : Nat := fmul u (fmul (fsub (oneOf x2 z2 x3 z3) (othOf x2 z2 x3 z3)) (fsub (oneOf x2 z2 x3 z3) (othOf x2 z2 x3 z3)))

set_option maxHeartbeats 1600000 in
set_option maxRecDepth 100000 in
theorem step_c {v1 v2 v3 : Value} {x2 z2 x3 z3 u : Nat} (h1 : IsR v1 x2 z2) (h2 : IsR v2 x3 z3) (h3 : IsN v3 u) (w : World) (htp : Tp w) :
    Calls Tryd.prog 93 #[v1, v2, v3] w fun e w' => ∃ r1 r2, e = .returned (.tuple #[r1, r2]) ∧ IsR r1 (dblX x2 z2) (dblZ x2 z2) ∧ IsR r2 (sumX x2 z2 x3 z3) (sumZ x2 z2 x3 z3 u) ∧ Ex w w' := by
  obtain ⟨X2, Z2, rfl, t1, t2⟩ := h1
  obtain ⟨X3, Z3, rfl, t3, t4⟩ := h2
  obtain ⟨U, rfl, t5⟩ := h3
  have H := hidden (ST.start w htp t1 t2 t3 t4 t5)
  have h0 := htp.1
  clear t1 t2 t3 t4 t5 htp
  go_enter Tryd.func93, Tryd.ntmps93
  generalize hA1 : (ncells .u64 (X2 ++ Z2)).toArray = A1 at H ⊢
  generalize hA2 : (ncells .u64 (X3 ++ Z3)).toArray = A2 at H ⊢
  generalize hA3 : (ncells .u64 U).toArray = A3 at H ⊢
  clear hA1 hA2 hA3
  go_upto_region 1 with fail
  change Code.wp _ _ _ _ (((((w.alloc (.cells A1 133)).alloc (.cells A2 133)).alloc (.cells A3 118)).alloc (.cells (ncells .u64 Z10).toArray 133)).alloc (.cells (ncells .u64 Z10).toArray 133))
  generalize ((((w.alloc (.cells A1 133)).alloc (.cells A2 133)).alloc (.cells A3 118)).alloc (.cells (ncells .u64 Z10).toArray 133)).alloc (.cells (ncells .u64 Z10).toArray 133) = wa at H ⊢
  rw [show w.heap.size + 1 + 1 = w.heap.size + 2 from rfl, show w.heap.size + 2 + 1 = w.heap.size + 3 from rfl, show w.heap.size + 3 + 1 = w.heap.size + 4 from rfl]
  go_wp2_with fail
  refine region_two 12 10 11 4 9 (fadd x2 z2) (fsub x2 z2) [.ptr (w.heap.size) 0, .num x2, .ptr (w.heap.size) 5, .num z2, .num (fadd x2 z2), .ptr (w.heap.size) 0, .num x2, .ptr (w.heap.size) 5, .num z2, .num (fsub x2 z2), .blk wa.heap.size, .blk wa.heap.size] 8 23 9 28 (by kernel_rfl) (by decide) (by kernel_rfl) (by kernel_rfl) (by kernel_rfl) (by kernel_rfl) (by kernel_rfl) ?_ (by unfold isStore; kernel_rfl) (by unfold isStore; kernel_rfl) (by kernel_rfl) (by kernel_rfl) (by kernel_rfl) (fun vs => ⟨(by kernel_rfl), (by kernel_rfl), (by kernel_rfl), (by kernel_rfl)⟩) ?_
  · refine req_take (.ptr (w.heap.size) 0) (by kernel_rfl) (fun vs w1 he hd => kd_field (x := .tmp 3) (f := 0) (by kernel_rfl) (by kernel_rfl) (.inl ⟨rfl, rfl⟩)) ?_
    refine req_take (.num x2) (by kernel_rfl) (fun vs w1 he hd => kd_loadX (x := .tmp 19) (by kernel_rfl) (Eq.trans (b := vs 0) (by kernel_rfl) (hd 0 (.ptr (w.heap.size) 0) (by decide) (by kernel_rfl) (by kernel_rfl))) (H.out.ext he).a) ?_
    refine req_take (.ptr (w.heap.size) 5) (by kernel_rfl) (fun vs w1 he hd => kd_field (x := .tmp 3) (f := 1) (by kernel_rfl) (by kernel_rfl) (.inr ⟨rfl, rfl⟩)) ?_
    refine req_take (.num z2) (by kernel_rfl) (fun vs w1 he hd => kd_loadZ (x := .tmp 21) (by kernel_rfl) (Eq.trans (b := vs 2) (by kernel_rfl) (hd 2 (.ptr (w.heap.size) 5) (by decide) (by kernel_rfl) (by kernel_rfl))) (H.out.ext he).a) ?_
    refine req_take (.num (fadd x2 z2)) (by kernel_rfl) (fun vs w1 he hd => kd_plus (x := .tmp 20) (y := .tmp 22) (ts := #[118, 118]) (vx := vs 1) (vy := vs 3) (by kernel_rfl) (by kernel_rfl) (by kernel_rfl) (hd 1 (.num x2) (by decide) (by kernel_rfl) (by kernel_rfl)) (by kernel_rfl) (hd 3 (.num z2) (by decide) (by kernel_rfl) (by kernel_rfl))) ?_
    refine req_take (.ptr (w.heap.size) 0) (by kernel_rfl) (fun vs w1 he hd => kd_field (x := .tmp 3) (f := 0) (by kernel_rfl) (by kernel_rfl) (.inl ⟨rfl, rfl⟩)) ?_
    refine req_take (.num x2) (by kernel_rfl) (fun vs w1 he hd => kd_loadX (x := .tmp 24) (by kernel_rfl) (Eq.trans (b := vs 5) (by kernel_rfl) (hd 5 (.ptr (w.heap.size) 0) (by decide) (by kernel_rfl) (by kernel_rfl))) (H.out.ext he).a) ?_
    refine req_take (.ptr (w.heap.size) 5) (by kernel_rfl) (fun vs w1 he hd => kd_field (x := .tmp 3) (f := 1) (by kernel_rfl) (by kernel_rfl) (.inr ⟨rfl, rfl⟩)) ?_
    refine req_take (.num z2) (by kernel_rfl) (fun vs w1 he hd => kd_loadZ (x := .tmp 26) (by kernel_rfl) (Eq.trans (b := vs 7) (by kernel_rfl) (hd 7 (.ptr (w.heap.size) 5) (by decide) (by kernel_rfl) (by kernel_rfl))) (H.out.ext he).a) ?_
    refine req_take (.num (fsub x2 z2)) (by kernel_rfl) (fun vs w1 he hd => kd_minus (x := .tmp 25) (y := .tmp 27) (ts := #[118, 118]) (vx := vs 6) (vy := vs 8) (by kernel_rfl) (by kernel_rfl) (by kernel_rfl) (hd 6 (.num x2) (by decide) (by kernel_rfl) (by kernel_rfl)) (by kernel_rfl) (hd 8 (.num z2) (by decide) (by kernel_rfl) (by kernel_rfl)) (H.out.ext he).t) ?_
    refine req_take (.blk wa.heap.size) (by kernel_rfl) (fun vs w1 he hd => kd_alloc (by kernel_rfl) he.size) ?_
    refine req_take (.blk wa.heap.size) (by kernel_rfl) (fun vs w1 he hd => kd_alloc (by kernel_rfl) he.size) ?_
    exact eachL_zero
  intro vs wb g8 g9 hx e1 e2 n1 n2 b1 b2
  have HB := hidden (H.out.ext hx)
  have N8 := hidden (NN.mk' n1 H.out b1)
  have N9 := hidden (NN.mk' n2 H.out b2)
  clear n1 n2 b1 b2 hx H
  simp only [actsTo, if_true, dstOf, List.getElem?_toArray, List.getElem?_cons_succ, List.getElem?_cons_zero, Option.bind_some, Act.put, List.setIfInBounds_toArray, List.set_cons_zero, List.set_cons_succ]
  rw [e1, e2]
  generalize vs 0 = y0
  generalize vs 1 = y1
  generalize vs 2 = y2
  generalize vs 3 = y3
  generalize vs 4 = y4
  generalize vs 5 = y5
  generalize vs 6 = y6
  generalize vs 7 = y7
  generalize vs 8 = y8
  generalize vs 9 = y9
  clear vs e1 e2
  go_wp2_with fail
  refine region_two 12 10 11 4 9 (fadd x3 z3) (fsub x3 z3) [.ptr ((w.heap.size + 1)) 0, .num x3, .ptr ((w.heap.size + 1)) 5, .num z3, .num (fadd x3 z3), .ptr ((w.heap.size + 1)) 0, .num x3, .ptr ((w.heap.size + 1)) 5, .num z3, .num (fsub x3 z3), .blk wb.heap.size, .blk wb.heap.size] 10 33 11 38 (by kernel_rfl) (by decide) (by kernel_rfl) (by kernel_rfl) (by kernel_rfl) (by kernel_rfl) (by kernel_rfl) ?_ (by unfold isStore; kernel_rfl) (by unfold isStore; kernel_rfl) (by kernel_rfl) (by kernel_rfl) (by kernel_rfl) (fun vs => ⟨(by kernel_rfl), (by kernel_rfl), (by kernel_rfl), (by kernel_rfl)⟩) ?_
  · refine req_take (.ptr ((w.heap.size + 1)) 0) (by kernel_rfl) (fun vs w1 he hd => kd_field (x := .tmp 4) (f := 0) (by kernel_rfl) (by kernel_rfl) (.inl ⟨rfl, rfl⟩)) ?_
    refine req_take (.num x3) (by kernel_rfl) (fun vs w1 he hd => kd_loadX (x := .tmp 29) (by kernel_rfl) (Eq.trans (b := vs 0) (by kernel_rfl) (hd 0 (.ptr ((w.heap.size + 1)) 0) (by decide) (by kernel_rfl) (by kernel_rfl))) (HB.out.ext he).b) ?_
    refine req_take (.ptr ((w.heap.size + 1)) 5) (by kernel_rfl) (fun vs w1 he hd => kd_field (x := .tmp 4) (f := 1) (by kernel_rfl) (by kernel_rfl) (.inr ⟨rfl, rfl⟩)) ?_
    refine req_take (.num z3) (by kernel_rfl) (fun vs w1 he hd => kd_loadZ (x := .tmp 31) (by kernel_rfl) (Eq.trans (b := vs 2) (by kernel_rfl) (hd 2 (.ptr ((w.heap.size + 1)) 5) (by decide) (by kernel_rfl) (by kernel_rfl))) (HB.out.ext he).b) ?_
    refine req_take (.num (fadd x3 z3)) (by kernel_rfl) (fun vs w1 he hd => kd_plus (x := .tmp 30) (y := .tmp 32) (ts := #[118, 118]) (vx := vs 1) (vy := vs 3) (by kernel_rfl) (by kernel_rfl) (by kernel_rfl) (hd 1 (.num x3) (by decide) (by kernel_rfl) (by kernel_rfl)) (by kernel_rfl) (hd 3 (.num z3) (by decide) (by kernel_rfl) (by kernel_rfl))) ?_
    refine req_take (.ptr ((w.heap.size + 1)) 0) (by kernel_rfl) (fun vs w1 he hd => kd_field (x := .tmp 4) (f := 0) (by kernel_rfl) (by kernel_rfl) (.inl ⟨rfl, rfl⟩)) ?_
    refine req_take (.num x3) (by kernel_rfl) (fun vs w1 he hd => kd_loadX (x := .tmp 34) (by kernel_rfl) (Eq.trans (b := vs 5) (by kernel_rfl) (hd 5 (.ptr ((w.heap.size + 1)) 0) (by decide) (by kernel_rfl) (by kernel_rfl))) (HB.out.ext he).b) ?_
    refine req_take (.ptr ((w.heap.size + 1)) 5) (by kernel_rfl) (fun vs w1 he hd => kd_field (x := .tmp 4) (f := 1) (by kernel_rfl) (by kernel_rfl) (.inr ⟨rfl, rfl⟩)) ?_
    refine req_take (.num z3) (by kernel_rfl) (fun vs w1 he hd => kd_loadZ (x := .tmp 36) (by kernel_rfl) (Eq.trans (b := vs 7) (by kernel_rfl) (hd 7 (.ptr ((w.heap.size + 1)) 5) (by decide) (by kernel_rfl) (by kernel_rfl))) (HB.out.ext he).b) ?_
    refine req_take (.num (fsub x3 z3)) (by kernel_rfl) (fun vs w1 he hd => kd_minus (x := .tmp 35) (y := .tmp 37) (ts := #[118, 118]) (vx := vs 6) (vy := vs 8) (by kernel_rfl) (by kernel_rfl) (by kernel_rfl) (hd 6 (.num x3) (by decide) (by kernel_rfl) (by kernel_rfl)) (by kernel_rfl) (hd 8 (.num z3) (by decide) (by kernel_rfl) (by kernel_rfl)) (HB.out.ext he).t) ?_
    refine req_take (.blk wb.heap.size) (by kernel_rfl) (fun vs w1 he hd => kd_alloc (by kernel_rfl) he.size) ?_
    refine req_take (.blk wb.heap.size) (by kernel_rfl) (fun vs w1 he hd => kd_alloc (by kernel_rfl) he.size) ?_
    exact eachL_zero
  intro vs wc g10 g11 hx e1 e2 n1 n2 b1 b2
  have HC := hidden (HB.out.ext hx)
  have N8' := hidden (N8.out.ext hx)
  clear N8
  have N8 := N8'
  clear N8'
  have N9' := hidden (N9.out.ext hx)
  clear N9
  have N9 := N9'
  clear N9'
  have N10 := hidden (NN.mk' n1 HB.out b1)
  have N11 := hidden (NN.mk' n2 HB.out b2)
  clear n1 n2 b1 b2 hx HB
  simp only [actsTo, if_true, dstOf, List.getElem?_toArray, List.getElem?_cons_succ, List.getElem?_cons_zero, Option.bind_some, Act.put, List.setIfInBounds_toArray, List.set_cons_zero, List.set_cons_succ]
  rw [e1, e2]
  generalize vs 0 = y0
  generalize vs 1 = y1
  generalize vs 2 = y2
  generalize vs 3 = y3
  generalize vs 4 = y4
  generalize vs 5 = y5
  generalize vs 6 = y6
  generalize vs 7 = y7
  generalize vs 8 = y8
  generalize vs 9 = y9
  clear vs e1 e2
  go_wp2_with fail
  refine region_two 8 6 7 2 5 (fmul (fadd x2 z2) (fadd x2 z2)) (fmul (fsub x2 z2) (fsub x2 z2)) [.num (fadd x2 z2), .num (fadd x2 z2), .num (fmul (fadd x2 z2) (fadd x2 z2)), .num (fsub x2 z2), .num (fsub x2 z2), .num (fmul (fsub x2 z2) (fsub x2 z2)), .blk wc.heap.size, .blk wc.heap.size] 12 41 13 44 (by kernel_rfl) (by decide) (by kernel_rfl) (by kernel_rfl) (by kernel_rfl) (by kernel_rfl) (by kernel_rfl) ?_ (by unfold isStore; kernel_rfl) (by unfold isStore; kernel_rfl) (by kernel_rfl) (by kernel_rfl) (by kernel_rfl) (fun vs => ⟨(by kernel_rfl), (by kernel_rfl), (by kernel_rfl), (by kernel_rfl)⟩) ?_
  · refine req_take (.num (fadd x2 z2)) (by kernel_rfl) (fun vs w1 he hd => kd_load (x := .tmp 8) (g := g8) (by kernel_rfl) (by kernel_rfl) (N8.out.1.ext he)) ?_
    refine req_take (.num (fadd x2 z2)) (by kernel_rfl) (fun vs w1 he hd => kd_load (x := .tmp 8) (g := g8) (by kernel_rfl) (by kernel_rfl) (N8.out.1.ext he)) ?_
    refine req_take (.num (fmul (fadd x2 z2) (fadd x2 z2))) (by kernel_rfl) (fun vs w1 he hd => kd_times (x := .tmp 39) (y := .tmp 40) (ts := #[118, 118]) (vx := vs 0) (vy := vs 1) (by kernel_rfl) (by kernel_rfl) (by kernel_rfl) (hd 0 (.num (fadd x2 z2)) (by decide) (by kernel_rfl) (by kernel_rfl)) (by kernel_rfl) (hd 1 (.num (fadd x2 z2)) (by decide) (by kernel_rfl) (by kernel_rfl))) ?_
    refine req_take (.num (fsub x2 z2)) (by kernel_rfl) (fun vs w1 he hd => kd_load (x := .tmp 9) (g := g9) (by kernel_rfl) (by kernel_rfl) (N9.out.1.ext he)) ?_
    refine req_take (.num (fsub x2 z2)) (by kernel_rfl) (fun vs w1 he hd => kd_load (x := .tmp 9) (g := g9) (by kernel_rfl) (by kernel_rfl) (N9.out.1.ext he)) ?_
    refine req_take (.num (fmul (fsub x2 z2) (fsub x2 z2))) (by kernel_rfl) (fun vs w1 he hd => kd_times (x := .tmp 42) (y := .tmp 43) (ts := #[118, 118]) (vx := vs 3) (vy := vs 4) (by kernel_rfl) (by kernel_rfl) (by kernel_rfl) (hd 3 (.num (fsub x2 z2)) (by decide) (by kernel_rfl) (by kernel_rfl)) (by kernel_rfl) (hd 4 (.num (fsub x2 z2)) (by decide) (by kernel_rfl) (by kernel_rfl))) ?_
    refine req_take (.blk wc.heap.size) (by kernel_rfl) (fun vs w1 he hd => kd_alloc (by kernel_rfl) he.size) ?_
    refine req_take (.blk wc.heap.size) (by kernel_rfl) (fun vs w1 he hd => kd_alloc (by kernel_rfl) he.size) ?_
    exact eachL_zero
  intro vs wd g12 g13 hx e1 e2 n1 n2 b1 b2
  have HD := hidden (HC.out.ext hx)
  have N8' := hidden (N8.out.ext hx)
  clear N8
  have N8 := N8'
  clear N8'
  have N9' := hidden (N9.out.ext hx)
  clear N9
  have N9 := N9'
  clear N9'
  have N10' := hidden (N10.out.ext hx)
  clear N10
  have N10 := N10'
  clear N10'
  have N11' := hidden (N11.out.ext hx)
  clear N11
  have N11 := N11'
  clear N11'
  have N12 := hidden (NN.mk' n1 HC.out b1)
  have N13 := hidden (NN.mk' n2 HC.out b2)
  clear n1 n2 b1 b2 hx HC
  simp only [actsTo, if_true, dstOf, List.getElem?_toArray, List.getElem?_cons_succ, List.getElem?_cons_zero, Option.bind_some, Act.put, List.setIfInBounds_toArray, List.set_cons_zero, List.set_cons_succ]
  rw [e1, e2]
  generalize vs 0 = y0
  generalize vs 1 = y1
  generalize vs 2 = y2
  generalize vs 3 = y3
  generalize vs 4 = y4
  generalize vs 5 = y5
  clear vs e1 e2
  go_upto_region 5 with (first
    | (refine wpList_load5 (x := .tmp 12) rfl rfl (by kernel_rfl) N12.out.1 ?_; intro v45 i45)
    | (refine wpList_load5 (x := .tmp 13) rfl rfl (by kernel_rfl) N13.out.1 ?_; intro v46 i46)
    | (refine wpList_minus (x := .tmp 45) (y := .tmp 46) (vx := v45) (vy := v46) rfl rfl (by kernel_rfl) i45 (by kernel_rfl) i46 HD.out.t ?_; intro v47 we i47 hx)
    | (refine wpList_new (d := 14) (e := 47) (v := v47) ⟨rfl, rfl⟩ rfl rfl rfl rfl (by kernel_rfl) (by kernel_rfl) i47 (by decide) ?_; intro g14 wf hy n1 b1))
  have HX := hidden (HD.out.ext hx)
  have hx := hx.trans hy
  have HF := hidden (HD.out.ext hx)
  have N8' := hidden (N8.out.ext hx)
  clear N8
  have N8 := N8'
  clear N8'
  have N9' := hidden (N9.out.ext hx)
  clear N9
  have N9 := N9'
  clear N9'
  have N10' := hidden (N10.out.ext hx)
  clear N10
  have N10 := N10'
  clear N10'
  have N11' := hidden (N11.out.ext hx)
  clear N11
  have N11 := N11'
  clear N11'
  have N12' := hidden (N12.out.ext hx)
  clear N12
  have N12 := N12'
  clear N12'
  have N13' := hidden (N13.out.ext hx)
  clear N13
  have N13 := N13'
  clear N13'
  have N14 : Hid (NN w wf g14 (apartOf x2 z2)) := NN.mk' n1 HX.out b1
  clear n1 b1 hx hy HD HX i45 i46 i47
  go_wp2_with (first
    | (refine wpList_load5 (x := .tmp 12) rfl rfl (by kernel_rfl) N12.out.1 ?_; intro v48 i48)
    | (refine wpList_load5 (x := .tmp 13) rfl rfl (by kernel_rfl) N13.out.1 ?_; intro v49 i49)
    | (refine wpList_times (x := .tmp 48) (y := .tmp 49) (vx := v48) (vy := v49) rfl rfl (by kernel_rfl) i48 (by kernel_rfl) i49 ?_; intro v50 wg i50 hx)
    | (refine wpList_mid (x := .tmp 51) (y := .tmp 50) (g := w.heap.size + 3) (off := 0) (v := v50) rfl rfl rfl (by kernel_rfl) (by kernel_rfl) i50 (HF.out.ext hx).d (by decide) ?_; intro wh RX hk tX nX))
  have N8' := hidden (N8.out.ext hx)
  clear N8
  have N8 := N8'
  clear N8'
  have N9' := hidden (N9.out.ext hx)
  clear N9
  have N9 := N9'
  clear N9'
  have N10' := hidden (N10.out.ext hx)
  clear N10
  have N10 := N10'
  clear N10'
  have N11' := hidden (N11.out.ext hx)
  clear N11
  have N11 := N11'
  clear N11'
  have N12' := hidden (N12.out.ext hx)
  clear N12
  have N12 := N12'
  clear N12'
  have N13' := hidden (N13.out.ext hx)
  clear N13
  have N13 := N13'
  clear N13'
  have N14' := hidden (N14.out.ext hx)
  clear N14
  have N14 := N14'
  clear N14'
  have N8' := hidden (N8.out.keepD hk)
  clear N8
  have N8 := N8'
  clear N8'
  have N9' := hidden (N9.out.keepD hk)
  clear N9
  have N9 := N9'
  clear N9'
  have N10' := hidden (N10.out.keepD hk)
  clear N10
  have N10 := N10'
  clear N10'
  have N11' := hidden (N11.out.keepD hk)
  clear N11
  have N11 := N11'
  clear N11'
  have N12' := hidden (N12.out.keepD hk)
  clear N12
  have N12 := N12'
  clear N12'
  have N13' := hidden (N13.out.keepD hk)
  clear N13
  have N13 := N13'
  clear N13'
  have N14' := hidden (N14.out.keepD hk)
  clear N14
  have N14 := N14'
  clear N14'
  have HH := hidden ((HF.out.ext hx).setD (D' := RX ++ [0, 0, 0, 0, 0]) h0 hk (by rw [← setL_a RX tX.len]; exact nX))
  have TX : Hid (Tm RX (dblX x2 z2)) := tX
  clear HF hx hk nX tX i48 i49 i50
  refine region_mid 8 7 6 (dblZ x2 z2) (w.heap.size + 3) 5 [.num (apartOf x2 z2), .num (fmul (fadd x2 z2) (fadd x2 z2)), .num 121665, .num (apartOf x2 z2), .num (fmul 121665 (apartOf x2 z2)), .num (fadd (fmul (fadd x2 z2) (fadd x2 z2)) (fmul 121665 (apartOf x2 z2))), .num (fmul (apartOf x2 z2) (fadd (fmul (fadd x2 z2) (fadd x2 z2)) (fmul 121665 (apartOf x2 z2)))), .ptr ((w.heap.size + 3)) 5] 59 58 133 (RX ++ [0, 0, 0, 0, 0]) (by kernel_rfl) (by decide) (by kernel_rfl) (by kernel_rfl) (by kernel_rfl) ?_ (by unfold isStore; kernel_rfl) (by kernel_rfl) (by kernel_rfl) (fun vs => ⟨(by kernel_rfl), (by kernel_rfl)⟩) HH.out.d (by rw [List.length_append, TX.out.len]; decide) ?_
  · refine req_take (.num (apartOf x2 z2)) (by kernel_rfl) (fun vs w1 he hd => kd_load (x := .tmp 14) (g := g14) (by kernel_rfl) (by kernel_rfl) (N14.out.1.ext he)) ?_
    refine req_take (.num (fmul (fadd x2 z2) (fadd x2 z2))) (by kernel_rfl) (fun vs w1 he hd => kd_load (x := .tmp 12) (g := g12) (by kernel_rfl) (by kernel_rfl) (N12.out.1.ext he)) ?_
    refine req_take (.num 121665) (by kernel_rfl) (fun vs w1 he hd => kd_build (by kernel_rfl) (by kernel_rfl)) ?_
    refine req_take (.num (apartOf x2 z2)) (by kernel_rfl) (fun vs w1 he hd => kd_load (x := .tmp 14) (g := g14) (by kernel_rfl) (by kernel_rfl) (N14.out.1.ext he)) ?_
    refine req_take (.num (fmul 121665 (apartOf x2 z2))) (by kernel_rfl) (fun vs w1 he hd => kd_times (x := .tmp 54) (y := .tmp 55) (ts := #[118, 118]) (vx := vs 2) (vy := vs 3) (by kernel_rfl) (by kernel_rfl) (by kernel_rfl) (hd 2 (.num 121665) (by decide) (by kernel_rfl) (by kernel_rfl)) (by kernel_rfl) (hd 3 (.num (apartOf x2 z2)) (by decide) (by kernel_rfl) (by kernel_rfl))) ?_
    refine req_take (.num (fadd (fmul (fadd x2 z2) (fadd x2 z2)) (fmul 121665 (apartOf x2 z2)))) (by kernel_rfl) (fun vs w1 he hd => kd_plus (x := .tmp 53) (y := .tmp 56) (ts := #[118, 118]) (vx := vs 1) (vy := vs 4) (by kernel_rfl) (by kernel_rfl) (by kernel_rfl) (hd 1 (.num (fmul (fadd x2 z2) (fadd x2 z2))) (by decide) (by kernel_rfl) (by kernel_rfl)) (by kernel_rfl) (hd 4 (.num (fmul 121665 (apartOf x2 z2))) (by decide) (by kernel_rfl) (by kernel_rfl))) ?_
    refine req_take (.num (fmul (apartOf x2 z2) (fadd (fmul (fadd x2 z2) (fadd x2 z2)) (fmul 121665 (apartOf x2 z2))))) (by kernel_rfl) (fun vs w1 he hd => kd_times (x := .tmp 52) (y := .tmp 57) (ts := #[118, 118]) (vx := vs 0) (vy := vs 5) (by kernel_rfl) (by kernel_rfl) (by kernel_rfl) (hd 0 (.num (apartOf x2 z2)) (by decide) (by kernel_rfl) (by kernel_rfl)) (by kernel_rfl) (hd 5 (.num (fadd (fmul (fadd x2 z2) (fadd x2 z2)) (fmul 121665 (apartOf x2 z2)))) (by decide) (by kernel_rfl) (by kernel_rfl))) ?_
    refine req_take (.ptr ((w.heap.size + 3)) 5) (by kernel_rfl) (fun vs w1 he hd => kd_field (x := .tmp 6) (f := 1) (by kernel_rfl) (by kernel_rfl) (.inr ⟨rfl, rfl⟩)) ?_
    exact eachL_zero
  intro vs wi RZ hk t1 n1
  have N8' := hidden (N8.out.keepD hk)
  clear N8
  have N8 := N8'
  clear N8'
  have N9' := hidden (N9.out.keepD hk)
  clear N9
  have N9 := N9'
  clear N9'
  have N10' := hidden (N10.out.keepD hk)
  clear N10
  have N10 := N10'
  clear N10'
  have N11' := hidden (N11.out.keepD hk)
  clear N11
  have N11 := N11'
  clear N11'
  have N12' := hidden (N12.out.keepD hk)
  clear N12
  have N12 := N12'
  clear N12'
  have N13' := hidden (N13.out.keepD hk)
  clear N13
  have N13 := N13'
  clear N13'
  have N14' := hidden (N14.out.keepD hk)
  clear N14
  have N14 := N14'
  clear N14'
  have HI := hidden (HH.out.setD (D' := RX ++ RZ) h0 hk (by rw [← setL_b RX RZ TX.out.len t1.len]; exact n1))
  have TZ := hidden t1
  clear HH hk t1 n1
  simp only [actsTo, if_true, dstOf, List.getElem?_toArray, List.getElem?_cons_succ, List.getElem?_cons_zero, Option.bind_some, Act.put, List.setIfInBounds_toArray, List.set_cons_zero, List.set_cons_succ]
  generalize vs 0 = y0
  generalize vs 1 = y1
  generalize vs 2 = y2
  generalize vs 3 = y3
  generalize vs 4 = y4
  generalize vs 5 = y5
  generalize vs 6 = y6
  generalize vs 7 = y7
  clear vs
  go_wp2_with fail
  refine region_two 8 6 7 2 5 (oneOf x2 z2 x3 z3) (othOf x2 z2 x3 z3) [.num (fsub x3 z3), .num (fadd x2 z2), .num (oneOf x2 z2 x3 z3), .num (fadd x3 z3), .num (fsub x2 z2), .num (othOf x2 z2 x3 z3), .blk wi.heap.size, .blk wi.heap.size] 15 62 16 65 (by kernel_rfl) (by decide) (by kernel_rfl) (by kernel_rfl) (by kernel_rfl) (by kernel_rfl) (by kernel_rfl) ?_ (by unfold isStore; kernel_rfl) (by unfold isStore; kernel_rfl) (by kernel_rfl) (by kernel_rfl) (by kernel_rfl) (fun vs => ⟨(by kernel_rfl), (by kernel_rfl), (by kernel_rfl), (by kernel_rfl)⟩) ?_
  · refine req_take (.num (fsub x3 z3)) (by kernel_rfl) (fun vs w1 he hd => kd_load (x := .tmp 11) (g := g11) (by kernel_rfl) (by kernel_rfl) (N11.out.1.ext he)) ?_
    refine req_take (.num (fadd x2 z2)) (by kernel_rfl) (fun vs w1 he hd => kd_load (x := .tmp 8) (g := g8) (by kernel_rfl) (by kernel_rfl) (N8.out.1.ext he)) ?_
    refine req_take (.num (oneOf x2 z2 x3 z3)) (by kernel_rfl) (fun vs w1 he hd => kd_times (x := .tmp 60) (y := .tmp 61) (ts := #[118, 118]) (vx := vs 0) (vy := vs 1) (by kernel_rfl) (by kernel_rfl) (by kernel_rfl) (hd 0 (.num (fsub x3 z3)) (by decide) (by kernel_rfl) (by kernel_rfl)) (by kernel_rfl) (hd 1 (.num (fadd x2 z2)) (by decide) (by kernel_rfl) (by kernel_rfl))) ?_
    refine req_take (.num (fadd x3 z3)) (by kernel_rfl) (fun vs w1 he hd => kd_load (x := .tmp 10) (g := g10) (by kernel_rfl) (by kernel_rfl) (N10.out.1.ext he)) ?_
    refine req_take (.num (fsub x2 z2)) (by kernel_rfl) (fun vs w1 he hd => kd_load (x := .tmp 9) (g := g9) (by kernel_rfl) (by kernel_rfl) (N9.out.1.ext he)) ?_
    refine req_take (.num (othOf x2 z2 x3 z3)) (by kernel_rfl) (fun vs w1 he hd => kd_times (x := .tmp 63) (y := .tmp 64) (ts := #[118, 118]) (vx := vs 3) (vy := vs 4) (by kernel_rfl) (by kernel_rfl) (by kernel_rfl) (hd 3 (.num (fadd x3 z3)) (by decide) (by kernel_rfl) (by kernel_rfl)) (by kernel_rfl) (hd 4 (.num (fsub x2 z2)) (by decide) (by kernel_rfl) (by kernel_rfl))) ?_
    refine req_take (.blk wi.heap.size) (by kernel_rfl) (fun vs w1 he hd => kd_alloc (by kernel_rfl) he.size) ?_
    refine req_take (.blk wi.heap.size) (by kernel_rfl) (fun vs w1 he hd => kd_alloc (by kernel_rfl) he.size) ?_
    exact eachL_zero
  intro vs wj g15 g16 hx e1 e2 n1 n2 b1 b2
  have HJ := hidden (HI.out.ext hx)
  have N15 := hidden (NN.mk' n1 HI.out b1)
  have N16 := hidden (NN.mk' n2 HI.out b2)
  clear n1 n2 b1 b2 hx HI
  simp only [actsTo, if_true, dstOf, List.getElem?_toArray, List.getElem?_cons_succ, List.getElem?_cons_zero, Option.bind_some, Act.put, List.setIfInBounds_toArray, List.set_cons_zero, List.set_cons_succ]
  rw [e1, e2]
  generalize vs 0 = y0
  generalize vs 1 = y1
  generalize vs 2 = y2
  generalize vs 3 = y3
  generalize vs 4 = y4
  generalize vs 5 = y5
  clear vs e1 e2 N8 N9 N10 N11 N12 N13 N14
  go_wp2_with fail
  refine region_two 8 6 7 2 5 (fadd (oneOf x2 z2 x3 z3) (othOf x2 z2 x3 z3)) (fsub (oneOf x2 z2 x3 z3) (othOf x2 z2 x3 z3)) [.num (oneOf x2 z2 x3 z3), .num (othOf x2 z2 x3 z3), .num (fadd (oneOf x2 z2 x3 z3) (othOf x2 z2 x3 z3)), .num (oneOf x2 z2 x3 z3), .num (othOf x2 z2 x3 z3), .num (fsub (oneOf x2 z2 x3 z3) (othOf x2 z2 x3 z3)), .blk wj.heap.size, .blk wj.heap.size] 17 68 18 71 (by kernel_rfl) (by decide) (by kernel_rfl) (by kernel_rfl) (by kernel_rfl) (by kernel_rfl) (by kernel_rfl) ?_ (by unfold isStore; kernel_rfl) (by unfold isStore; kernel_rfl) (by kernel_rfl) (by kernel_rfl) (by kernel_rfl) (fun vs => ⟨(by kernel_rfl), (by kernel_rfl), (by kernel_rfl), (by kernel_rfl)⟩) ?_
  · refine req_take (.num (oneOf x2 z2 x3 z3)) (by kernel_rfl) (fun vs w1 he hd => kd_load (x := .tmp 15) (g := g15) (by kernel_rfl) (by kernel_rfl) (N15.out.1.ext he)) ?_
    refine req_take (.num (othOf x2 z2 x3 z3)) (by kernel_rfl) (fun vs w1 he hd => kd_load (x := .tmp 16) (g := g16) (by kernel_rfl) (by kernel_rfl) (N16.out.1.ext he)) ?_
    refine req_take (.num (fadd (oneOf x2 z2 x3 z3) (othOf x2 z2 x3 z3))) (by kernel_rfl) (fun vs w1 he hd => kd_plus (x := .tmp 66) (y := .tmp 67) (ts := #[118, 118]) (vx := vs 0) (vy := vs 1) (by kernel_rfl) (by kernel_rfl) (by kernel_rfl) (hd 0 (.num (oneOf x2 z2 x3 z3)) (by decide) (by kernel_rfl) (by kernel_rfl)) (by kernel_rfl) (hd 1 (.num (othOf x2 z2 x3 z3)) (by decide) (by kernel_rfl) (by kernel_rfl))) ?_
    refine req_take (.num (oneOf x2 z2 x3 z3)) (by kernel_rfl) (fun vs w1 he hd => kd_load (x := .tmp 15) (g := g15) (by kernel_rfl) (by kernel_rfl) (N15.out.1.ext he)) ?_
    refine req_take (.num (othOf x2 z2 x3 z3)) (by kernel_rfl) (fun vs w1 he hd => kd_load (x := .tmp 16) (g := g16) (by kernel_rfl) (by kernel_rfl) (N16.out.1.ext he)) ?_
    refine req_take (.num (fsub (oneOf x2 z2 x3 z3) (othOf x2 z2 x3 z3))) (by kernel_rfl) (fun vs w1 he hd => kd_minus (x := .tmp 69) (y := .tmp 70) (ts := #[118, 118]) (vx := vs 3) (vy := vs 4) (by kernel_rfl) (by kernel_rfl) (by kernel_rfl) (hd 3 (.num (oneOf x2 z2 x3 z3)) (by decide) (by kernel_rfl) (by kernel_rfl)) (by kernel_rfl) (hd 4 (.num (othOf x2 z2 x3 z3)) (by decide) (by kernel_rfl) (by kernel_rfl)) (HJ.out.ext he).t) ?_
    refine req_take (.blk wj.heap.size) (by kernel_rfl) (fun vs w1 he hd => kd_alloc (by kernel_rfl) he.size) ?_
    refine req_take (.blk wj.heap.size) (by kernel_rfl) (fun vs w1 he hd => kd_alloc (by kernel_rfl) he.size) ?_
    exact eachL_zero
  intro vs wk g17 g18 hx e1 e2 n1 n2 b1 b2
  have HK := hidden (HJ.out.ext hx)
  have N17 := hidden (NN.mk' n1 HJ.out b1)
  have N18 := hidden (NN.mk' n2 HJ.out b2)
  clear n1 n2 b1 b2 hx HJ
  simp only [actsTo, if_true, dstOf, List.getElem?_toArray, List.getElem?_cons_succ, List.getElem?_cons_zero, Option.bind_some, Act.put, List.setIfInBounds_toArray, List.set_cons_zero, List.set_cons_succ]
  rw [e1, e2]
  generalize vs 0 = y0
  generalize vs 1 = y1
  generalize vs 2 = y2
  generalize vs 3 = y3
  generalize vs 4 = y4
  generalize vs 5 = y5
  clear vs e1 e2 N15 N16
  go_wp2_with (first
    | (refine wpList_load5d (d := 72) (x := .tmp 17) rfl rfl rfl (by kernel_rfl) N17.out.1 ?_; intro v72 i72)
    | (refine wpList_load5d (d := 73) (x := .tmp 17) rfl rfl rfl (by kernel_rfl) N17.out.1 ?_; intro v73 i73)
    | (refine wpList_times (x := .tmp 72) (y := .tmp 73) (vx := v72) (vy := v73) rfl rfl (by kernel_rfl) i72 (by kernel_rfl) i73 ?_; intro v74 wl i74 hx)
    | (refine wpList_mid (x := .tmp 75) (y := .tmp 74) (g := w.heap.size + 4) (off := 0) (v := v74) rfl rfl rfl (by kernel_rfl) (by kernel_rfl) i74 (HK.out.ext hx).s (by decide) ?_; intro wm SX hk tX nX))
  have N17' := hidden (N17.out.ext hx)
  clear N17
  have N17 := N17'
  clear N17'
  have N18' := hidden (N18.out.ext hx)
  clear N18
  have N18 := N18'
  clear N18'
  have N17' := hidden (N17.out.keepS hk)
  clear N17
  have N17 := N17'
  clear N17'
  have N18' := hidden (N18.out.keepS hk)
  clear N18
  have N18 := N18'
  clear N18'
  have HM := hidden ((HK.out.ext hx).setS (S' := SX ++ [0, 0, 0, 0, 0]) h0 hk (by rw [← setL_a SX tX.len]; exact nX))
  have UX : Hid (Tm SX (sumX x2 z2 x3 z3)) := tX
  clear HK hx hk nX tX i72 i73 i74
  refine region_mid 6 5 4 (sumZ x2 z2 x3 z3 u) (w.heap.size + 4) 5 [.num u, .num (fsub (oneOf x2 z2 x3 z3) (othOf x2 z2 x3 z3)), .num (fsub (oneOf x2 z2 x3 z3) (othOf x2 z2 x3 z3)), .num (fmul (fsub (oneOf x2 z2 x3 z3) (othOf x2 z2 x3 z3)) (fsub (oneOf x2 z2 x3 z3) (othOf x2 z2 x3 z3))), .num (fmul u (fmul (fsub (oneOf x2 z2 x3 z3) (othOf x2 z2 x3 z3)) (fsub (oneOf x2 z2 x3 z3) (othOf x2 z2 x3 z3)))), .ptr ((w.heap.size + 4)) 5] 81 80 133 (SX ++ [0, 0, 0, 0, 0]) (by kernel_rfl) (by decide) (by kernel_rfl) (by kernel_rfl) (by kernel_rfl) ?_ (by unfold isStore; kernel_rfl) (by kernel_rfl) (by kernel_rfl) (fun vs => ⟨(by kernel_rfl), (by kernel_rfl)⟩) HM.out.s (by rw [List.length_append, UX.out.len]; decide) ?_
  · refine req_take (.num u) (by kernel_rfl) (fun vs w1 he hd => kd_load (x := .tmp 5) (g := (w.heap.size + 2)) (by kernel_rfl) (by kernel_rfl) ((HM.out.ext he).u)) ?_
    refine req_take (.num (fsub (oneOf x2 z2 x3 z3) (othOf x2 z2 x3 z3))) (by kernel_rfl) (fun vs w1 he hd => kd_load (x := .tmp 18) (g := g18) (by kernel_rfl) (by kernel_rfl) (N18.out.1.ext he)) ?_
    refine req_take (.num (fsub (oneOf x2 z2 x3 z3) (othOf x2 z2 x3 z3))) (by kernel_rfl) (fun vs w1 he hd => kd_load (x := .tmp 18) (g := g18) (by kernel_rfl) (by kernel_rfl) (N18.out.1.ext he)) ?_
    refine req_take (.num (fmul (fsub (oneOf x2 z2 x3 z3) (othOf x2 z2 x3 z3)) (fsub (oneOf x2 z2 x3 z3) (othOf x2 z2 x3 z3)))) (by kernel_rfl) (fun vs w1 he hd => kd_times (x := .tmp 77) (y := .tmp 78) (ts := #[118, 118]) (vx := vs 1) (vy := vs 2) (by kernel_rfl) (by kernel_rfl) (by kernel_rfl) (hd 1 (.num (fsub (oneOf x2 z2 x3 z3) (othOf x2 z2 x3 z3))) (by decide) (by kernel_rfl) (by kernel_rfl)) (by kernel_rfl) (hd 2 (.num (fsub (oneOf x2 z2 x3 z3) (othOf x2 z2 x3 z3))) (by decide) (by kernel_rfl) (by kernel_rfl))) ?_
    refine req_take (.num (fmul u (fmul (fsub (oneOf x2 z2 x3 z3) (othOf x2 z2 x3 z3)) (fsub (oneOf x2 z2 x3 z3) (othOf x2 z2 x3 z3))))) (by kernel_rfl) (fun vs w1 he hd => kd_times (x := .tmp 76) (y := .tmp 79) (ts := #[118, 118]) (vx := vs 0) (vy := vs 3) (by kernel_rfl) (by kernel_rfl) (by kernel_rfl) (hd 0 (.num u) (by decide) (by kernel_rfl) (by kernel_rfl)) (by kernel_rfl) (hd 3 (.num (fmul (fsub (oneOf x2 z2 x3 z3) (othOf x2 z2 x3 z3)) (fsub (oneOf x2 z2 x3 z3) (othOf x2 z2 x3 z3)))) (by decide) (by kernel_rfl) (by kernel_rfl))) ?_
    refine req_take (.ptr ((w.heap.size + 4)) 5) (by kernel_rfl) (fun vs w1 he hd => kd_field (x := .tmp 7) (f := 1) (by kernel_rfl) (by kernel_rfl) (.inr ⟨rfl, rfl⟩)) ?_
    exact eachL_zero
  intro vs wn SZ hk t1 n1
  have HN := hidden (HM.out.setS (S' := SX ++ SZ) h0 hk (by rw [← setL_b SX SZ UX.out.len t1.len]; exact n1))
  have UZ := hidden t1
  clear HM hk t1 n1 N17 N18
  simp only [actsTo, if_true, dstOf, List.getElem?_toArray, List.getElem?_cons_succ, List.getElem?_cons_zero, Option.bind_some, Act.put, List.setIfInBounds_toArray, List.set_cons_zero, List.set_cons_succ]
  generalize vs 0 = y0
  generalize vs 1 = y1
  generalize vs 2 = y2
  generalize vs 3 = y3
  generalize vs 4 = y4
  generalize vs 5 = y5
  clear vs
  go_wp2_with fail
  refine region_back (w.heap.size + 3) (w.heap.size + 4) (RX ++ RZ) (SX ++ SZ) 6 7 82 83 _ _ _ _ ⟨(by kernel_rfl), (by kernel_rfl), (by kernel_rfl)⟩ ⟨(by kernel_rfl), (by kernel_rfl), (by kernel_rfl)⟩ (by unfold isStore; kernel_rfl) (by unfold isStore; kernel_rfl) (by kernel_rfl) (by kernel_rfl) (by kernel_rfl) (by kernel_rfl) (by kernel_rfl) (by kernel_rfl) (by kernel_rfl) ⟨(by kernel_rfl), (by kernel_rfl)⟩ (by decide) ⟨(by kernel_rfl), (by kernel_rfl)⟩ HN.out.d HN.out.s (by rw [List.length_append, TX.out.len, TZ.out.len]) (by rw [List.length_append, UX.out.len, UZ.out.len]) ?_
  intro wo hk n1 n2
  have HE : Hid (Ex w wo) := Below.trans HN.out.e (hk.below (B := w.heap.size) HN.out.e.size (by intro k e; omega))
  simp only [Act.put, List.setIfInBounds_toArray, List.set_cons_zero, List.set_cons_succ]
  clear hk HN
  have M1 := hidden n1
  have M2 := hidden n2
  clear n1 n2
  go_wp2_with fail
  (try simp only [Exit.inBlock, Exit.then])
  refine bodyPost_ret (results_cell2 rfl _ _ _ (w.heap.size + 3) (w.heap.size + 4) (ncells .u64 (RX ++ RZ)).toArray (ncells .u64 (SX ++ SZ)).toArray 133 133 _ rfl rfl M1.out M2.out Tryd.underlying133 rfl (rat_size RX RZ TX.out.len TZ.out.len) (rat_size SX SZ UX.out.len UZ.out.len)) rfl ?_
  exact ⟨_, _, rfl, ⟨RX, RZ, rfl, TX.out, TZ.out⟩, ⟨SX, SZ, rfl, UX.out, UZ.out⟩, HE.out⟩
end
section
open Go Go.RowKit

/-- The power behind k rounds. -/
def ivTo (a : Nat) : Nat → Nat
  | 0 => a
  | k + 1 => if k = 251 ∨ k = 249 then fmul (ivTo a k) (ivTo a k) else fmul (fmul (ivTo a k) (ivTo a k)) a
def inv (a : Nat) : Nat := ivTo a 254

/-- What lies ready: the number, the answer's place, the power. -/
structure VI (w wr : World) (g a p : Nat) : Prop where
  a : N5 wr w.heap.size a
  r : NB .u64 wr (w.heap.size + 1) 118 [0, 0, 0, 0, 0]
  p : N5 wr g p
  e : Ex w wr
  b : w.heap.size + 2 ≤ g
theorem VI.ext {w wr wr' : World} {g a p : Nat} (h : VI w wr g a p) (he : Ex wr wr') : VI w wr' g a p := ⟨h.a.ext he, h.r.fresh he, h.p.ext he, h.e.trans he, h.b⟩
theorem VI.set {w wr wr' : World} {g a p q : Nat} (h : VI w wr g a p) (hk : Keeps (fun k => k = g) wr wr') (hq : N5 wr' g q) : VI w wr' g a q :=
  ⟨h.a.keep hk (by have := h.b; omega), h.r.keep hk (by have := h.b; omega), hq, Below.trans h.e (hk.below (B := w.heap.size) h.e.size (by intro k e; have := h.b; omega)), h.b⟩
theorem ivTo_plain (a j : Nat) (hj : j < 254) (h2 : j ≠ 2) (h4 : j ≠ 4) : ivTo a (254 - j) = fmul (fmul (ivTo a (254 - (j + 1))) (ivTo a (254 - (j + 1)))) a := by
  obtain ⟨k, hk⟩ : ∃ k, 254 - (j + 1) = k := ⟨_, rfl⟩
  rw [show 254 - j = k + 1 by omega, hk, ivTo, if_neg (by omega)]

set_option maxHeartbeats 800000 in
set_option maxRecDepth 100000 in
theorem inverse_c {v : Value} {a : Nat} (h : IsN v a) (w : World) :
    Calls Tryd.prog 95 #[v] w fun e w' => ∃ r, e = .returned r ∧ IsN r (inv a) ∧ Ex w w' := by
  obtain ⟨X, rfl, hX⟩ := h
  have HX := hidden hX
  clear hX
  obtain ⟨A, hA⟩ : ∃ A, A = (ncells .u64 X).toArray := ⟨_, rfl⟩
  have HN1 : Hid (NB .u64 (w.alloc (.cells A 118)) w.heap.size 118 X) := by rw [hA]; exact NB.new w X
  rw [← hA]
  clear hA
  go_enter Tryd.func95, Tryd.ntmps95
  go_upto_region 1 with fail
  change Code.wp _ _ _ _ ((w.alloc (.cells A 118)).alloc (.cells (ncells .u64 [0, 0, 0, 0, 0]).toArray 118))
  have hs1 : (w.alloc (.cells A 118)).heap.size = w.heap.size + 1 := by simp
  have HE1 : Hid (Ex w (w.alloc (.cells A 118))) := Ex.alloc w _
  generalize w.alloc (.cells A 118) = w1 at HN1 HE1 hs1 ⊢
  have HE2 : Hid (Ex w1 (w1.alloc (.cells (ncells .u64 [0, 0, 0, 0, 0]).toArray 118))) := Ex.alloc w1 _
  have HN2 := hidden (NB.new (k := .u64) (t := 118) w1 [0, 0, 0, 0, 0])
  have hs2 : (w1.alloc (.cells (ncells .u64 [0, 0, 0, 0, 0]).toArray 118)).heap.size = w.heap.size + 2 := by simp [hs1]
  generalize w1.alloc (.cells (ncells .u64 [0, 0, 0, 0, 0]).toArray 118) = w2 at HN2 HE2 hs2 ⊢
  rw [hs1] at HN2
  have HS2 := hidden hs2
  have HA2 : Hid (N5 w2 w.heap.size a) := ⟨X, HN1.out.fresh HE2.out, HX.out⟩
  have HE := hidden (HE1.out.trans HE2.out)
  clear hs1 hs2 HN1 HE1 HE2 HX
  go_wp2_with (first
    | (refine wpList_load5 (x := .tmp 1) rfl rfl (by kernel_rfl) HA2.out ?_; intro v5 i5)
    | (refine wpList_new (d := 3) (e := 5) (v := v5) ⟨rfl, rfl⟩ rfl rfl rfl rfl (by kernel_rfl) (by kernel_rfl) i5 (by decide) ?_; intro g3 w3 hx n1 b1))
  have HV : Hid (VI w w3 g3 a (ivTo a (254 - 254))) := ⟨HA2.out.ext hx, HN2.out.fresh hx, n1, HE.out.trans hx, by have := HS2.out; omega⟩
  clear HA2 HN2 HE hx n1 b1 i5 HS2
  go_loopw [4] (fun c wr => ∃ b : Nat, b ≤ 254 ∧ c = .int .i64 ((b : Int) - 1) ∧ VI w wr g3 a (ivTo a (254 - b))) (fun c _ => (intOf c + 1).toNat)
  case atStart => exact ⟨254, by omega, rfl, HV.out⟩
  case round =>
    clear HV
    obtain ⟨b, hb, rfl, hv⟩ := hrel
    have HV := hidden hv
    clear hv
    by_cases hz : b = 0
    · subst hz
      go_wp2_with (first
        | (refine wpList_load5 (x := .tmp 3) rfl rfl (by kernel_rfl) HV.out.p ?_; intro v22 i22; obtain ⟨R, hR, tR⟩ := i22; subst hR; have HT := hidden tR; clear tR; obtain ⟨z1, y1, x1⟩ := row_facts R HT.out.len; have HZ := hidden z1; have HY := hidden y1; have HX := hidden x1; clear z1 y1 x1)
        | (refine wpList_store_row rfl 118 (.tmp 2) (.tmp 22) rfl (w.heap.size + 1) (ncells .u64 R).toArray rfl rfl 118 _ HV.out.r HZ.out HX.out HY.out ?_))
      have HR1 : Hid ((wr.setRow (w.heap.size + 1) (ncells .u64 R).toArray).heap[w.heap.size + 1]? = some (.cells (ncells .u64 R).toArray 118 (0, 0))) := setRow_heap wr (w.heap.size + 1) _ _ _ _ HV.out.r
      have HL1 : Hid (Ex w (wr.setRow (w.heap.size + 1) (ncells .u64 R).toArray)) := below_setRow HV.out.e (by omega) _
      (try simp only [Exit.inBlock, Exit.then])
      refine bodyPost_ret (results_cell1 rfl _ _ _ (w.heap.size + 1) (ncells .u64 R).toArray 118 (0, 0) 5 87 rfl HR1.out Tryd.underlying118 HZ.out) rfl ?_
      exact ⟨_, rfl, ⟨R, rfl, HT.out⟩, HL1.out⟩
    · obtain ⟨j, rfl⟩ : ∃ j, b = j + 1 := ⟨b - 1, by omega⟩
      rw [show ((j + 1 : Nat) : Int) - 1 = (j : Int) by omega]
      have hj0 : (0 : Int) ≤ (j : Int) := by omega
      generalize hp : ivTo a (254 - (j + 1)) = p at HV
      have HP := hidden hp
      clear hp
      have HJ := hidden (show j < 254 by omega)
      by_cases h2 : j = 2
      · subst h2
        go_wp2_with (first
          | (refine wpList_load5d (d := 10) (x := .tmp 3) rfl rfl rfl (by kernel_rfl) HV.out.p ?_; intro v10 i10)
          | (refine wpList_load5d (d := 11) (x := .tmp 3) rfl rfl rfl (by kernel_rfl) HV.out.p ?_; intro v11 i11)
          | (refine wpList_times (x := .tmp 10) (y := .tmp 11) (vx := v10) (vy := v11) rfl rfl (by kernel_rfl) i10 (by kernel_rfl) i11 ?_; intro v12 w4 i12 hx)
          | (refine wpList_over (x := .tmp 3) (y := .tmp 12) (v := v12) rfl rfl rfl (by kernel_rfl) (by kernel_rfl) i12 (HV.out.ext hx).p ?_; intro w5 hk n5))
        go_roundw
        case rel =>
          refine ⟨2, by omega, by go_num, ?_⟩
          rw [show ivTo a (254 - 2) = fmul p p by rw [← HP.out]; rfl]
          exact (HV.out.ext hx).set hk n5
        case measure => simp [intOf]
      · by_cases h4 : j = 4
        · subst h4
          go_wp2_with (first
            | (refine wpList_load5d (d := 10) (x := .tmp 3) rfl rfl rfl (by kernel_rfl) HV.out.p ?_; intro v10 i10)
            | (refine wpList_load5d (d := 11) (x := .tmp 3) rfl rfl rfl (by kernel_rfl) HV.out.p ?_; intro v11 i11)
            | (refine wpList_times (x := .tmp 10) (y := .tmp 11) (vx := v10) (vy := v11) rfl rfl (by kernel_rfl) i10 (by kernel_rfl) i11 ?_; intro v12 w4 i12 hx)
            | (refine wpList_over (x := .tmp 3) (y := .tmp 12) (v := v12) rfl rfl rfl (by kernel_rfl) (by kernel_rfl) i12 (HV.out.ext hx).p ?_; intro w5 hk n5))
          go_roundw
          case rel =>
            refine ⟨4, by omega, by go_num, ?_⟩
            rw [show ivTo a (254 - 4) = fmul p p by rw [← HP.out]; rfl]
            exact (HV.out.ext hx).set hk n5
          case measure => simp [intOf]
        · have hi2 : ((j : Int) != 2) = true := by rw [bne_iff_ne]; omega
          have hi4 : ((j : Int) != 4) = true := by rw [bne_iff_ne]; omega
          have HI := hidden (ivTo_plain a j HJ.out h2 h4)
          clear h2 h4
          go_wp2_with (first
            | (refine wpList_load5d (d := 10) (x := .tmp 3) rfl rfl rfl (by kernel_rfl) HV.out.p ?_; intro v10 i10)
            | (refine wpList_load5d (d := 11) (x := .tmp 3) rfl rfl rfl (by kernel_rfl) HV.out.p ?_; intro v11 i11)
            | (refine wpList_times (x := .tmp 10) (y := .tmp 11) (vx := v10) (vy := v11) rfl rfl (by kernel_rfl) i10 (by kernel_rfl) i11 ?_; intro v12 w4 i12 hx)
            | (refine wpList_over (x := .tmp 3) (y := .tmp 12) (v := v12) rfl rfl rfl (by kernel_rfl) (by kernel_rfl) i12 (HV.out.ext hx).p ?_; intro w5 hk n5; have HV5 := hidden ((HV.out.ext hx).set hk n5); clear HV hx hk n5 i10 i11 i12)
            | (refine wpList_load5d (d := 19) (x := .tmp 3) rfl rfl rfl (by kernel_rfl) HV5.out.p ?_; intro v19 i19)
            | (refine wpList_load5d (d := 20) (x := .tmp 1) rfl rfl rfl (by kernel_rfl) HV5.out.a ?_; intro v20 i20)
            | (refine wpList_times (x := .tmp 19) (y := .tmp 20) (vx := v19) (vy := v20) rfl rfl (by kernel_rfl) i19 (by kernel_rfl) i20 ?_; intro v21 w6 i21 hx)
            | (refine wpList_over (x := .tmp 3) (y := .tmp 21) (v := v21) rfl rfl rfl (by kernel_rfl) (by kernel_rfl) i21 (HV5.out.ext hx).p ?_; intro w7 hk n7))
          go_roundw
          case rel =>
            refine ⟨j, by omega, by go_num, ?_⟩
            rw [HI.out, HP.out]
            exact (HV5.out.ext hx).set hk n7
          case measure => simp [intOf]
end
section
open Go Go.RowKit

/-- Behind i rounds: the first places of both halves are those of B. -/
def swTo (A B : List Nat) : Nat → List Nat
  | 0 => A
  | i + 1 => ((swTo A B i).set i (B.getD i 0)).set (5 + i) (B.getD (5 + i) 0)
theorem swTo_length (A B : List Nat) (i : Nat) : (swTo A B i).length = A.length := by
  induction i with
  | zero => rfl
  | succ i ih => simp [swTo, ih]
theorem swTo_off (A B : List Nat) (i j : Nat) (hi : i ≤ 5) (h : i ≤ j) (h5 : j < 5 ∨ 5 + i ≤ j) : (swTo A B i).getD j 0 = A.getD j 0 := by
  induction i with
  | zero => rfl
  | succ i ih =>
    rw [swTo, getD_set, if_neg (by omega), getD_set, if_neg (by omega), ih (by omega) (by omega) (by omega)]
theorem swTo_end {A B : List Nat} (hA : A.length = 10) (hB : B.length = 10) : swTo A B 5 = B := by
  match A, hA, B, hB with
  | [_, _, _, _, _, _, _, _, _, _], _, [_, _, _, _, _, _, _, _, _, _], _ => rfl
theorem xor_self_left (a c : Nat) : a ^^^ (a ^^^ c) = c := by rw [← Nat.xor_assoc, Nat.xor_self, Nat.zero_xor]
theorem xor_self_right (a c : Nat) : c ^^^ (a ^^^ c) = a := by rw [Nat.xor_comm a c, xor_self_left]
/-- What the four lines of a round reckon. -/
theorem swap_num (b m a c : Nat) (hb : (b = 0 ∧ m = 0) ∨ (b = 1 ∧ m = 18446744073709551615)) (ha : a ≤ 18446744073709551615) (hc : c ≤ 18446744073709551615) :
    ∃ y x : Nat, bits .xor .u64 (a : Int) (c : Int) = (y : Int) ∧ bits .and .u64 (m : Int) (y : Int) = (x : Int) ∧ bits .xor .u64 (a : Int) (x : Int) = ((if b = 1 then c else a : Nat) : Int) ∧ bits .xor .u64 (c : Int) (x : Int) = ((if b = 1 then a else c : Nat) : Int) := by
  have hy : a ^^^ c < 18446744073709551616 := Nat.xor_lt_two_pow (n := 64) (by omega) (by omega)
  refine ⟨a ^^^ c, m &&& (a ^^^ c), u64_xor_nat a c (by omega) (by omega), u64_and_nat m _ (by omega) hy, ?_⟩
  rcases hb with ⟨rfl, rfl⟩ | ⟨rfl, rfl⟩
  · rw [Nat.zero_and, u64_xor_nat a 0 (by omega) (by omega), u64_xor_nat c 0 (by omega) (by omega)]
    simp
  · have e : 18446744073709551615 &&& (a ^^^ c) = a ^^^ c := by rw [Nat.and_comm, show 18446744073709551615 = 2 ^ 64 - 1 from rfl, Nat.and_two_pow_sub_one_eq_mod, Nat.mod_eq_of_lt hy]
    rw [e, u64_xor_nat a _ (by omega) hy, u64_xor_nat c _ (by omega) hy, xor_self_left, xor_self_right]
    simp

set_option maxHeartbeats 800000 in
set_option maxRecDepth 100000 in
theorem swap_l (g1 g2 b : Nat) (hb : b ≤ 1) (A B : List Nat) (hA : A.length = 10) (hB : B.length = 10) (bA : ∀ i, A.getD i 0 ≤ 18446744073709551615) (bB : ∀ i, B.getD i 0 ≤ 18446744073709551615) (hne : g1 ≠ g2) (w : World) (h1 : NB .u64 w g1 133 A) (h2 : NB .u64 w g2 133 B) :
    Calls Tryd.prog 92 #[.pointer (some ⟨g1, 0, none⟩), .pointer (some ⟨g2, 0, none⟩), .int .u64 (b : Int)] w fun e w' => e = .returned (.tuple #[]) ∧ NB .u64 w' g1 133 (if b = 1 then B else A) ∧ NB .u64 w' g2 133 (if b = 1 then A else B) ∧ Keeps (fun k => k = g1 ∨ k = g2) w w' := by
  obtain ⟨m, hm, hw⟩ : ∃ m : Nat, ((b = 0 ∧ m = 0) ∨ (b = 1 ∧ m = 18446744073709551615)) ∧ IntKind.u64.wrap (-(b : Int)) = (m : Int) := by
    rcases (show b = 0 ∨ b = 1 by omega) with rfl | rfl
    · exact ⟨0, .inl ⟨rfl, rfl⟩, by decide⟩
    · exact ⟨18446744073709551615, .inr ⟨rfl, rfl⟩, by decide⟩
  obtain ⟨C, hC⟩ : ∃ C, C = if b = 1 then B else A := ⟨_, rfl⟩
  obtain ⟨D, hD⟩ : ∃ D, D = if b = 1 then A else B := ⟨_, rfl⟩
  rw [← hC, ← hD]
  have lC : C.length = 10 := by rw [hC]; split <;> assumption
  have lD : D.length = 10 := by rw [hD]; split <;> assumption
  have HNUM : Hid (∀ i, ∃ y x : Nat, bits .xor .u64 ((A.getD i 0 : Nat) : Int) ((B.getD i 0 : Nat) : Int) = (y : Int) ∧ bits .and .u64 (m : Int) (y : Int) = (x : Int) ∧ bits .xor .u64 ((A.getD i 0 : Nat) : Int) (x : Int) = ((C.getD i 0 : Nat) : Int) ∧ bits .xor .u64 ((B.getD i 0 : Nat) : Int) (x : Int) = ((D.getD i 0 : Nat) : Int)) := fun i => by
    obtain ⟨y, x, e1, e2, e3, e4⟩ := swap_num b m (A.getD i 0) (B.getD i 0) hm (bA i) (bB i)
    refine ⟨y, x, e1, e2, ?_, ?_⟩
    · rw [e3, hC]; split <;> rfl
    · rw [e4, hD]; split <;> rfl
  have HEC := hidden (swTo_end hA lC)
  have HED := hidden (swTo_end hB lD)
  have H1 := hidden h1
  have H2 := hidden h2
  clear h1 h2 hm bA bB hC hD hb
  go_enter Tryd.func92, Tryd.ntmps92
  go_wp2_with fail
  go_loopw [12] (fun c wr => ∃ i : Nat, i ≤ 5 ∧ c = .int .i64 (i : Int) ∧ NB .u64 wr g1 133 (swTo A C i) ∧ NB .u64 wr g2 133 (swTo B D i) ∧ Keeps (fun k => k = g1 ∨ k = g2) w wr) (fun c _ => 5 - (intOf c).toNat)
  case atStart => exact ⟨0, by omega, rfl, H1.out, H2.out, Keeps.refl _ w⟩
  case round =>
    clear H1 H2
    obtain ⟨i, hi, rfl, n1, n2, hk⟩ := hrel
    have HK := hidden hk
    have H1 := hidden n1
    have H2 := hidden n2
    clear hk n1 n2
    by_cases hlt : i < 5
    · have hlt' : (i : Int) < 5 := by omega
      have l1 := swTo_length A C i
      have l2 := swTo_length B D i
      have c1 := H1.out.cell i (by omega)
      have c2 := H2.out.cell i (by omega)
      rw [swTo_off A C i i hi (Nat.le_refl _) (.inl hlt)] at c1
      rw [swTo_off B D i i hi (Nat.le_refl _) (.inl hlt)] at c2
      obtain ⟨y, x, e1, e2, e3, e4⟩ := HNUM.out i
      have f1 := H1.out.frozen
      have f2 := H2.out.frozen
      have HS1 : Hid (swTo A C (i + 1) = ((swTo A C i).set i (C.getD i 0)).set (5 + i) (C.getD (5 + i) 0)) := rfl
      have HS2 : Hid (swTo B D (i + 1) = ((swTo B D i).set i (D.getD i 0)).set (5 + i) (D.getD (5 + i) 0)) := rfl
      generalize hAi : A.getD i 0 = ai at c1 e1 e3
      generalize hBi : B.getD i 0 = bi at c2 e1 e4
      generalize C.getD i 0 = ci at e3 HS1
      generalize D.getD i 0 = di at e4 HS2
      clear hAi hBi
      go_wp2_with fail
      go_quiet (fail)
      go_wp2_with fail
      have K1 : Hid (NB .u64 (wr.drewN nq) g1 133 (swTo A C i)) := H1.out
      have K2 : Hid (NB .u64 (wr.drewN nq) g2 133 (swTo B D i)) := H2.out
      have KK : Hid (Keeps (fun k => k = g1 ∨ k = g2) w (wr.drewN nq)) := HK.out.drewN nq
      have d1 : (wr.drewN nq).cell? ⟨g1, i, none⟩ = some (.int .u64 (ai : Int)) := c1
      have d2 : (wr.drewN nq).cell? ⟨g2, i, none⟩ = some (.int .u64 (bi : Int)) := c2
      have q1 : ∀ j, (wr.drewN nq).frozen? ⟨g1, j, none⟩ = false := f1
      clear c1 c2 f1 f2 H1 H2 HK
      generalize wr.drewN nq = wq at K1 K2 KK d1 d2 q1 ⊢
      go_region
      go_wp2_with fail
      have P1 : Hid (NB .u64 (wq.setCell ⟨g1, i, none⟩ (.int .u64 (ci : Int))).drew g1 133 ((swTo A C i).set i ci)) := K1.out.set i ci
      have hs : Keeps (fun k => k = g1) wq (wq.setCell ⟨g1, i, none⟩ (.int .u64 (ci : Int))).drew := ((Keeps.refl (fun k => k = g1) wq).setCell (p := ⟨g1, i, none⟩) (.inl rfl) _).drew
      have P2 := hidden (K2.out.keep hs (fun e => hne e.symm))
      have PK : Hid (Keeps (fun k => k = g1 ∨ k = g2) w (wq.setCell ⟨g1, i, none⟩ (.int .u64 (ci : Int))).drew) := (KK.out.setCell (p := ⟨g1, i, none⟩) (.inl (.inl rfl)) _).drew
      have p2 := hs.cell d2 (fun e => hne e.symm)
      clear d1 d2 q1 K1 K2 KK hs
      generalize (wq.setCell ⟨g1, i, none⟩ (.int .u64 (ci : Int))).drew = ws at P1 P2 PK p2 ⊢
      have q2 := P2.out.frozen
      go_region
      go_wp2_with fail
      have Q2 : Hid (NB .u64 (ws.setCell ⟨g2, i, none⟩ (.int .u64 (di : Int))).drew g2 133 ((swTo B D i).set i di)) := P2.out.set i di
      have hs : Keeps (fun k => k = g2) ws (ws.setCell ⟨g2, i, none⟩ (.int .u64 (di : Int))).drew := ((Keeps.refl (fun k => k = g2) ws).setCell (p := ⟨g2, i, none⟩) (.inl rfl) _).drew
      have Q1 := hidden (P1.out.keep hs hne)
      have QK : Hid (Keeps (fun k => k = g1 ∨ k = g2) w (ws.setCell ⟨g2, i, none⟩ (.int .u64 (di : Int))).drew) := (PK.out.setCell (p := ⟨g2, i, none⟩) (.inl (.inr rfl)) _).drew
      clear p2 q2 P1 P2 PK hs e1 e2 e3 e4
      generalize (ws.setCell ⟨g2, i, none⟩ (.int .u64 (di : Int))).drew = wt at Q1 Q2 QK ⊢
      have c1 := Q1.out.cell (5 + i) (by rw [List.length_set]; omega)
      have c2 := Q2.out.cell (5 + i) (by rw [List.length_set]; omega)
      rw [getD_set, if_neg (by omega), swTo_off A C i (5 + i) hi (by omega) (.inr (by omega))] at c1
      rw [getD_set, if_neg (by omega), swTo_off B D i (5 + i) hi (by omega) (.inr (by omega))] at c2
      have f1 := Q1.out.frozen
      have f2 := Q2.out.frozen
      obtain ⟨y', x', e1, e2, e3, e4⟩ := HNUM.out (5 + i)
      generalize A.getD (5 + i) 0 = ai' at c1 e1 e3
      generalize B.getD (5 + i) 0 = bi' at c2 e1 e4
      generalize C.getD (5 + i) 0 = ci' at e3 HS1
      generalize D.getD (5 + i) 0 = di' at e4 HS2
      go_quiet (fail)
      go_wp2_with fail
      have K1 : Hid (NB .u64 (wt.drewN nq) g1 133 ((swTo A C i).set i ci)) := Q1.out
      have K2 : Hid (NB .u64 (wt.drewN nq) g2 133 ((swTo B D i).set i di)) := Q2.out
      have KK : Hid (Keeps (fun k => k = g1 ∨ k = g2) w (wt.drewN nq)) := QK.out.drewN nq
      have d1 : (wt.drewN nq).cell? ⟨g1, 5 + i, none⟩ = some (.int .u64 (ai' : Int)) := c1
      have d2 : (wt.drewN nq).cell? ⟨g2, 5 + i, none⟩ = some (.int .u64 (bi' : Int)) := c2
      have q1 : ∀ j, (wt.drewN nq).frozen? ⟨g1, j, none⟩ = false := f1
      clear c1 c2 f1 f2 Q1 Q2 QK
      generalize wt.drewN nq = wu at K1 K2 KK d1 d2 q1 ⊢
      go_region
      go_wp2_with fail
      have P1 : Hid (NB .u64 (wu.setCell ⟨g1, 5 + i, none⟩ (.int .u64 (ci' : Int))).drew g1 133 (((swTo A C i).set i ci).set (5 + i) ci')) := K1.out.set (5 + i) ci'
      have hs : Keeps (fun k => k = g1) wu (wu.setCell ⟨g1, 5 + i, none⟩ (.int .u64 (ci' : Int))).drew := ((Keeps.refl (fun k => k = g1) wu).setCell (p := ⟨g1, 5 + i, none⟩) (.inl rfl) _).drew
      have P2 := hidden (K2.out.keep hs (fun e => hne e.symm))
      have PK : Hid (Keeps (fun k => k = g1 ∨ k = g2) w (wu.setCell ⟨g1, 5 + i, none⟩ (.int .u64 (ci' : Int))).drew) := (KK.out.setCell (p := ⟨g1, 5 + i, none⟩) (.inl (.inl rfl)) _).drew
      have p2 := hs.cell d2 (fun e => hne e.symm)
      clear d1 d2 q1 K1 K2 KK hs
      generalize (wu.setCell ⟨g1, 5 + i, none⟩ (.int .u64 (ci' : Int))).drew = wv at P1 P2 PK p2 ⊢
      have q2 := P2.out.frozen
      go_region
      go_wp2
      go_roundw
      case rel =>
        refine ⟨i + 1, by omega, by go_num, ?_, ?_, (PK.out.setCell (p := ⟨g2, 5 + i, none⟩) (.inl (.inr rfl)) _).drew⟩
        · rw [HS1.out]
          exact P1.out.keep (S := fun k => k = g2) ((Keeps.refl (fun k => k = g2) wv).setCell (p := ⟨g2, 5 + i, none⟩) (.inl rfl) _).drew hne
        · rw [HS2.out]
          exact P2.out.set (5 + i) di'
      case measure => simp [intOf]; omega
    · have hlt' : ¬ (i : Int) < 5 := by omega
      obtain rfl : i = 5 := by omega
      go_wp2
      go_end0
      exact ⟨rfl, by rw [← HEC.out]; exact H1.out, by rw [← HED.out]; exact H2.out, HK.out⟩
end
section
open Go Go.RowKit

abbrev Ld := (Nat × Nat) × (Nat × Nat)
def cs (b : Nat) (p : Ld) : Ld := if b = 1 then (p.2, p.1) else p
def stepF (u : Nat) (p : Ld) : Ld := ((dblX p.1.1 p.1.2, dblZ p.1.1 p.1.2), (sumX p.1.1 p.1.2 p.2.1 p.2.2, sumZ p.1.1 p.1.2 p.2.1 p.2.2 u))
def bitAt (S : List UInt8) (t : Nat) : Nat := (S.getD (t / 8) 0).toNat / 2 ^ (t % 8) % 2
/-- The ladder behind k rounds. -/
def tlTo (S : List UInt8) (u : Nat) : Nat → Ld
  | 0 => ((1, 0), (u, 1))
  | k + 1 => cs (bitAt S (254 - k)) (stepF u (cs (bitAt S (254 - k)) (tlTo S u k)))
def ladderOf (S : List UInt8) (u : Nat) : Nat := fmul (tlTo S u 255).1.1 (inv (tlTo S u 255).1.2)
theorem cs_cs (a b : Nat) (p : Ld) (ha : a ≤ 1) (hb : b ≤ 1) : cs (a ^^^ b) (cs a p) = cs b p := by
  rcases (show a = 0 ∨ a = 1 by omega) with rfl | rfl <;> rcases (show b = 0 ∨ b = 1 by omega) with rfl | rfl <;> simp [cs]
theorem bitAt_le (S : List UInt8) (t : Nat) : bitAt S t ≤ 1 := by unfold bitAt; omega
theorem tm_one : Tm [1, 0, 0, 0, 0] 1 := ⟨rfl, by decide, fun i hi => by
  match i, hi with
  | 1, _ | 2, _ | 3, _ | 4, _ => simp
  | k + 5, _ => simp, by decide⟩
theorem tm_zero : Tm [0, 0, 0, 0, 0] 0 := ⟨rfl, by decide, fun i hi => by
  match i, hi with
  | 1, _ | 2, _ | 3, _ | 4, _ => simp
  | k + 5, _ => simp, by decide⟩
theorem swap_c {g1 g2 b : Nat} (hb : b ≤ 1) {p q : Nat × Nat} (hne : g1 ≠ g2) (w : World) (h1 : R10 w g1 p.1 p.2) (h2 : R10 w g2 q.1 q.2) :
    Calls Tryd.prog 92 #[.pointer (some ⟨g1, 0, none⟩), .pointer (some ⟨g2, 0, none⟩), .int .u64 (b : Int)] w fun e w' => e = .returned (.tuple #[]) ∧ R10 w' g1 (cs b (p, q)).1.1 (cs b (p, q)).1.2 ∧ R10 w' g2 (cs b (p, q)).2.1 (cs b (p, q)).2.2 ∧ Keeps (fun k => k = g1 ∨ k = g2) w w' := by
  obtain ⟨X, Z, n1, t1, t2⟩ := h1
  obtain ⟨X', Z', n2, t3, t4⟩ := h2
  have bd : ∀ {X Z : List Nat} {x z : Nat}, Tm X x → Tm Z z → ∀ i, (X ++ Z).getD i 0 ≤ 18446744073709551615 := fun {X Z x z} hX hZ i => by
    by_cases hi : i < X.length
    · have := hX.all i
      rw [List.getD_eq_getElem?_getD, List.getElem?_append_left hi, ← List.getD_eq_getElem?_getD]
      omega
    · have := hZ.all (i - X.length)
      rw [List.getD_eq_getElem?_getD, List.getElem?_append_right (by omega), ← List.getD_eq_getElem?_getD]
      omega
  refine (swap_l g1 g2 b hb (X ++ Z) (X' ++ Z') (by rw [List.length_append, t1.len, t2.len]) (by rw [List.length_append, t3.len, t4.len]) (bd t1 t2) (bd t3 t4) hne w n1 n2).mono fun e w' ⟨h1, h2, h3, h4⟩ => ⟨h1, ?_, ?_, h4⟩
  · unfold cs
    split
    · rename_i e; rw [if_pos e] at h2; exact ⟨X', Z', h2, t3, t4⟩
    · rename_i e; rw [if_neg e] at h2; exact ⟨X, Z, h2, t1, t2⟩
  · unfold cs
    split
    · rename_i e; rw [if_pos e] at h3; exact ⟨X, Z, h3, t1, t2⟩
    · rename_i e; rw [if_neg e] at h3; exact ⟨X', Z', h3, t3, t4⟩

theorem kd_inverse {ks : List Kd} {U : Nat} {o : Oper} {ρ : Operand → Value} {w : World} {x : Operand} {a : Nat} {ts : Array TypeId} (ho : o.op = .call { callee := .value (.func 95), args := #[x], argTypes := ts }) (hρ : ρ (.func 95) = .func (.func 95) #[] #[]) {vx : Value} (ex : ρ x = vx) (hx : IsN vx a) : Gives Tryd.prog o ρ w (GP ks U (.num (inv a)) w) :=
  gives_call (vs := #[vx]) ho hρ (by simp [ex]) Tryd.func95 (by kernel_rfl) (by kernel_rfl) ((inverse_c hx w).mono fun _ _ ⟨v, h1, h2, h3⟩ => ⟨v, h1, GP.plain h3 h2 rfl⟩)
/-- Loads, calls, and one store into the answer's place. -/
theorem region_res {id : Nat} {l : List Oper} {Q : Exit → Act → World → Prop} (U c1 a1 g : Nat) {a : Act} {w : World} (ks : List Kd) (d1 e1 : Tmp)
    (hk : growOk l.toArray U = true) (hp : c1 < U) (hlen : l.length = U + 1) (k3 : ks.getD c1 .any = .num a1)
    (hU : eachL (Req l ks U a w) 0 (l.take U)) (hs1 : isStore 118 d1 e1 l[U]?)
    (r1 : Region.ready .any l.toArray (listedU (U + 1) U) = [U]) (r2 : Region.ready .any l.toArray ((listedU (U + 1) U).setIfInBounds U true) = [])
    (ev : ∀ vs, (actsTo l.toArray a (fun _ => true) vs U).eval (.tmp d1) = .pointer (some ⟨g, 0, none⟩) ∧ (actsTo l.toArray a (fun _ => true) vs U).eval (.tmp e1) = vs c1)
    (hD : NB .u64 w g 118 [0, 0, 0, 0, 0])
    (hcont : ∀ vs w' R, Keeps (fun k => k = g) w w' → Tm R a1 → NB .u64 w' g 118 R → Q .normal (actsTo l.toArray a (fun _ => true) vs U) w') :
    (Code.region id l.toArray true).wp Tryd.prog Q a w := by
  obtain ⟨o1, ho1, hs1⟩ := hs1.spec
  refine region_ex U hk (fun i => (ks.getD i .any).holds) (fun i v x y he h => Kd.ext _ he h) (fun j u i v => (ks.getD j .any).sep u (ks.getD i .any) v) hU fun vs w1 he hF hS => ?_
  obtain ⟨e1', e2'⟩ := ev vs
  have f3 := hF c1 hp
  rw [k3] at f3
  obtain ⟨R1, hv1, ht1⟩ := f3
  have hD1 := hD.fresh he
  obtain ⟨z1, y1, x1⟩ := row_facts R1 ht1.len
  rw [hlen, show U + 1 - U = 0 + 1 by omega]
  refine wpAny_one r1 ho1 hs1.2.1 ?_
  refine wp_store_row 118 _ _ hs1.1 g (ncells .u64 R1).toArray e1' (e2'.trans hv1) 118 _ hD1 z1 x1 y1 ?_
  rw [hs1.2.2]
  refine wpAny_done r2 ?_ 0
  refine hcont vs _ R1 ((Keeps.ofFresh he).trans ⟨rfl, rfl, rfl, by simp, fun k _ hk => setRow_other _ _ _ _ hk⟩) ht1 ?_
  unfold NB
  rw [setRow_heap _ _ _ _ _ _ hD1]
section
variable {ops : Array Oper} {rest : List Oper} {o o2 : Oper} {a : Act} {w : World} {Q : Exit → Act → World → Prop} {x y z : Operand}
theorem wpList_loadR {g n m : Nat} (hg : o.guard = none) (ho : o.op = .load 133 x) (hx : a.eval x = .pointer (some ⟨g, 0, none⟩)) (hb : R10 w g n m)
    (h : ∀ v, IsR v n m → wpList Tryd.prog ops Q rest (a.put o.dst v) w) : wpList Tryd.prog ops Q (o :: rest) a w := by
  obtain ⟨X, Z, h1, h2, h3⟩ := hb
  exact wpList_gives (Φ := fun v w' => IsR v n m ∧ w' = w) hg (gives_loadR ho hx h1 h2.len h3.len ⟨⟨X, Z, rfl, h2, h3⟩, rfl⟩) fun v w' ⟨hv, e⟩ => by rw [e]; exact h v hv
theorem wpList_step {p : Ld} {u : Nat} {ts : Array TypeId} {vx vy vz : Value} (hg : o.guard = none) (ho : o.op = .call { callee := .value (.func 93), args := #[x, y, z], argTypes := ts }) (ex : a.eval x = vx) (hx : IsR vx p.1.1 p.1.2) (ey : a.eval y = vy) (hy : IsR vy p.2.1 p.2.2) (ez : a.eval z = vz) (hz : IsN vz u) (ht : Tp w)
    (h : ∀ r1 r2 w', IsR r1 (stepF u p).1.1 (stepF u p).1.2 → IsR r2 (stepF u p).2.1 (stepF u p).2.2 → Ex w w' → wpList Tryd.prog ops Q rest (a.put o.dst (.tuple #[r1, r2])) w') : wpList Tryd.prog ops Q (o :: rest) a w :=
  wpList_gives (Φ := fun v w' => ∃ r1 r2, v = .tuple #[r1, r2] ∧ IsR r1 (stepF u p).1.1 (stepF u p).1.2 ∧ IsR r2 (stepF u p).2.1 (stepF u p).2.2 ∧ Ex w w') hg
    (gives_call (vs := #[vx, vy, vz]) ho rfl (by simp [ex, ey, ez]) Tryd.func93 (by kernel_rfl) (by kernel_rfl) ((step_c hx hy hz w ht).mono fun _ _ ⟨r1, r2, h1, h2, h3, h4⟩ => ⟨_, h1, r1, r2, rfl, h2, h3, h4⟩))
    fun v w' ⟨r1, r2, e, h1, h2, h3⟩ => by rw [e]; exact h r1 r2 w' h1 h2 h3
theorem wpList_overR {n m n' m' g : Nat} {v : Value} (hg : o.guard = none) (ho : o.op = .store 133 x y) (hd : o.dst = none) (hx : a.eval x = .pointer (some ⟨g, 0, none⟩)) (hy : a.eval y = v) (hn : IsR v n m) (hb : R10 w g n' m')
    (h : ∀ w', Keeps (fun k => k = g) w w' → R10 w' g n m → wpList Tryd.prog ops Q rest a w') : wpList Tryd.prog ops Q (o :: rest) a w := by
  obtain ⟨X, Z, rfl, t1, t2⟩ := hn
  obtain ⟨X', Z', hb, t3, t4⟩ := hb
  have hz : (ncells .u64 (X' ++ Z')).toArray.size = (ncells .u64 (X ++ Z)).toArray.size := by rw [List.size_toArray, List.size_toArray, ncells_length, ncells_length, List.length_append, List.length_append, t1.len, t2.len, t3.len, t4.len]
  refine wpList_store_row hg 133 _ _ ho g (ncells .u64 (X ++ Z)).toArray hx hy 133 _ hb (rat_size X Z t1.len t2.len) hz (num_one _) ?_
  rw [hd]
  refine h _ ⟨rfl, rfl, rfl, by simp, fun k _ hk => setRow_other _ _ _ _ hk⟩ ⟨X, Z, ?_, t1, t2⟩
  unfold NB
  rw [setRow_heap _ _ _ _ _ _ hb]
end
theorem tl_step (S : List UInt8) (u j : Nat) (hj : j < 255) : cs (bitAt S j) (tlTo S u (255 - j)) = stepF u (cs (bitAt S j) (tlTo S u (255 - (j + 1)))) := by
  obtain ⟨k, hk⟩ : ∃ k, 255 - (j + 1) = k := ⟨_, rfl⟩
  rw [show 255 - j = k + 1 by omega, hk, tlTo, show 254 - k = j by omega]
  have := bitAt_le S j
  generalize stepF u (cs (bitAt S j) (tlTo S u k)) = p
  generalize bitAt S j = b at *
  rcases (show b = 0 ∨ b = 1 by omega) with rfl | rfl <;> simp [cs]
theorem bit_num (sb r t : Nat) (hs : sb ≤ 255) (ht : t ≤ 1) : IntKind.u64.wrap ((sb / 2 ^ r : Nat) : Int) = ((sb / 2 ^ r : Nat) : Int) ∧ bits .and .u64 ((sb / 2 ^ r : Nat) : Int) 1 = ((sb / 2 ^ r % 2 : Nat) : Int) ∧ bits .xor .u64 (t : Int) ((sb / 2 ^ r % 2 : Nat) : Int) = ((t ^^^ (sb / 2 ^ r % 2) : Nat) : Int) := by
  have h1 : sb / 2 ^ r ≤ 255 := Nat.le_trans (Nat.div_le_self _ _) hs
  refine ⟨m64w _ (by omega), ?_, u64_xor_nat t _ (by omega) (by omega)⟩
  have := u64_and_nat (sb / 2 ^ r) 1 (by omega) (by omega)
  rw [show ((1 : Nat) : Int) = 1 from rfl] at this
  rw [this, show (1 : Nat) = 2 ^ 1 - 1 from rfl, Nat.and_two_pow_sub_one_eq_mod]
/-- What lies ready in 'climb'. -/
structure CL (w wr : World) (S : List UInt8) (u g5 g6 : Nat) (p : Ld) : Prop where
  s : wr.heap[w.heap.size]? = some (.cells (bcells S).toArray 120 (0, 0))
  u : N5 wr (w.heap.size + 1) u
  r : NB .u64 wr (w.heap.size + 2) 118 [0, 0, 0, 0, 0]
  a : R10 wr g5 p.1.1 p.1.2
  b : R10 wr g6 p.2.1 p.2.2
  n : g5 ≠ g6 ∧ w.heap.size + 3 ≤ g5 ∧ w.heap.size + 3 ≤ g6
  e : Ex w wr
  t : Tp wr

theorem five_blocks (w : World) (o1 o2 o3 o4 o5 : Obj) : ((((((w.alloc o1).alloc o2).alloc o3).alloc o4).alloc o5).drew.heap[w.heap.size]? = some o1 ∧ (((((w.alloc o1).alloc o2).alloc o3).alloc o4).alloc o5).drew.heap[w.heap.size + 1]? = some o2 ∧ (((((w.alloc o1).alloc o2).alloc o3).alloc o4).alloc o5).drew.heap[w.heap.size + 2]? = some o3 ∧
    (((((w.alloc o1).alloc o2).alloc o3).alloc o4).alloc o5).drew.heap[w.heap.size + 3]? = some o4 ∧ (((((w.alloc o1).alloc o2).alloc o3).alloc o4).alloc o5).drew.heap[w.heap.size + 4]? = some o5) ∧ Ex w (((((w.alloc o1).alloc o2).alloc o3).alloc o4).alloc o5).drew := by
  refine ⟨?_, (((((Ex.alloc w o1).trans (Ex.alloc _ o2)).trans (Ex.alloc _ o3)).trans (Ex.alloc _ o4)).trans (Ex.alloc _ o5)).trans (Ex.drew _)⟩
  obtain ⟨w1, e1⟩ : ∃ x, x = w.alloc o1 := ⟨_, rfl⟩
  obtain ⟨w2, e2⟩ : ∃ x, x = w1.alloc o2 := ⟨_, rfl⟩
  obtain ⟨w3, e3⟩ : ∃ x, x = w2.alloc o3 := ⟨_, rfl⟩
  obtain ⟨w4, e4⟩ : ∃ x, x = w3.alloc o4 := ⟨_, rfl⟩
  obtain ⟨w5, e5⟩ : ∃ x, x = w4.alloc o5 := ⟨_, rfl⟩
  have s1 : w1.heap.size = w.heap.size + 1 := by rw [e1]; simp
  have s2 : w2.heap.size = w.heap.size + 2 := by rw [e2]; simp; omega
  have s3 : w3.heap.size = w.heap.size + 3 := by rw [e3]; simp; omega
  have s4 : w4.heap.size = w.heap.size + 4 := by rw [e4]; simp; omega
  have n1 : w1.heap[w.heap.size]? = some o1 := by rw [e1]; exact heap_alloc_new w o1
  have n2 : w2.heap[w.heap.size + 1]? = some o2 := by rw [e2, ← s1]; exact heap_alloc_new w1 o2
  have n3 : w3.heap[w.heap.size + 2]? = some o3 := by rw [e3, ← s2]; exact heap_alloc_new w2 o3
  have n4 : w4.heap[w.heap.size + 3]? = some o4 := by rw [e4, ← s3]; exact heap_alloc_new w3 o4
  have n5 : w5.heap[w.heap.size + 4]? = some o5 := by rw [e5, ← s4]; exact heap_alloc_new w4 o5
  have x2 : Ex w1 w2 := by rw [e2]; exact Ex.alloc w1 _
  have x3 : Ex w2 w3 := by rw [e3]; exact Ex.alloc w2 _
  have x4 : Ex w3 w4 := by rw [e4]; exact Ex.alloc w3 _
  have x5 : Ex w4 w5 := by rw [e5]; exact Ex.alloc w4 _
  rw [← e1, ← e2, ← e3, ← e4, ← e5, heap_drew]
  have x45 := x4.trans x5
  have x345 := x3.trans x45
  have x2345 := x2.trans x345
  exact ⟨by rw [x2345.block _ (by omega)]; exact n1, by rw [x345.block _ (by omega)]; exact n2, by rw [x45.block _ (by omega)]; exact n3, by rw [x5.block _ (by omega)]; exact n4, n5⟩
theorem CL.startA {w : World} {S : List UInt8} {SA : Array Value} {a b c d f u : Nat} (hS : (bcells S).toArray = SA) (hu : Tm [a, b, c, d, f] u) (ht : Tp w) :
    CL w (((((w.alloc (.cells SA 120)).alloc (.cells (ncells .u64 [a, b, c, d, f]).toArray 118)).alloc (.cells (ncells .u64 [0, 0, 0, 0, 0]).toArray 118)).alloc (.cells (ncells .u64 ([1, 0, 0, 0, 0] ++ [0, 0, 0, 0, 0])).toArray 133)).alloc (.cells (ncells .u64 ([a, b, c, d, f] ++ [1, 0, 0, 0, 0])).toArray 133)).drew S u (w.heap.size + 3) (w.heap.size + 4) ((1, 0), (u, 1)) := by
  obtain ⟨⟨h1, h2, h3, h4, h5⟩, h6⟩ := five_blocks w (.cells SA 120) (.cells (ncells .u64 [a, b, c, d, f]).toArray 118) (.cells (ncells .u64 [0, 0, 0, 0, 0]).toArray 118) (.cells (ncells .u64 ([1, 0, 0, 0, 0] ++ [0, 0, 0, 0, 0])).toArray 133) (.cells (ncells .u64 ([a, b, c, d, f] ++ [1, 0, 0, 0, 0])).toArray 133)
  exact ⟨by rw [hS]; exact h1, ⟨_, h2, hu⟩, h3, ⟨_, _, h4, tm_one, tm_zero⟩, ⟨_, _, h5, hu, tm_one⟩, ⟨by omega, by omega, by omega⟩, h6, ht.fresh h6⟩
theorem CL.startB {w : World} {S : List UInt8} {SA : Array Value} {a b c d f u : Nat} (hS : (bcells S).toArray = SA) (hu : Tm [a, b, c, d, f] u) (ht : Tp w) :
    CL w (((((w.alloc (.cells SA 120)).alloc (.cells (ncells .u64 [a, b, c, d, f]).toArray 118)).alloc (.cells (ncells .u64 [0, 0, 0, 0, 0]).toArray 118)).alloc (.cells (ncells .u64 ([a, b, c, d, f] ++ [1, 0, 0, 0, 0])).toArray 133)).alloc (.cells (ncells .u64 ([1, 0, 0, 0, 0] ++ [0, 0, 0, 0, 0])).toArray 133)).drew S u (w.heap.size + 4) (w.heap.size + 3) ((1, 0), (u, 1)) := by
  obtain ⟨⟨h1, h2, h3, h4, h5⟩, h6⟩ := five_blocks w (.cells SA 120) (.cells (ncells .u64 [a, b, c, d, f]).toArray 118) (.cells (ncells .u64 [0, 0, 0, 0, 0]).toArray 118) (.cells (ncells .u64 ([a, b, c, d, f] ++ [1, 0, 0, 0, 0])).toArray 133) (.cells (ncells .u64 ([1, 0, 0, 0, 0] ++ [0, 0, 0, 0, 0])).toArray 133)
  exact ⟨by rw [hS]; exact h1, ⟨_, h2, hu⟩, h3, ⟨_, _, h5, tm_one, tm_zero⟩, ⟨_, _, h4, hu, tm_one⟩, ⟨by omega, by omega, by omega⟩, h6, ht.fresh h6⟩
theorem CL.ext {w wr wr' : World} {S : List UInt8} {u g5 g6 : Nat} {p : Ld} (h : CL w wr S u g5 g6 p) (he : Ex wr wr') : CL w wr' S u g5 g6 p :=
  ⟨by rw [he.block _ (lt_of_block h.s)]; exact h.s, h.u.ext he, h.r.fresh he, h.a.ext he, h.b.ext he, h.n, h.e.trans he, h.t.fresh he⟩
theorem CL.set {w wr wr' : World} {S : List UInt8} {u g5 g6 : Nat} {p q : Ld} (h : CL w wr S u g5 g6 p) (h0 : 0 < w.heap.size) (hk : Keeps (fun k => k = g5 ∨ k = g6) wr wr') (ha : R10 wr' g5 q.1.1 q.1.2) (hb : R10 wr' g6 q.2.1 q.2.2) : CL w wr' S u g5 g6 q := by
  have hn := h.n
  exact ⟨by rw [hk.block _ (lt_of_block h.s) (by omega)]; exact h.s, h.u.keep hk (by omega), h.r.keep hk (by omega), ha, hb, h.n, Below.trans h.e (hk.below (B := w.heap.size) h.e.size (by intro k e; omega)), h.t.keep hk (by omega)⟩

set_option maxHeartbeats 800000 in
set_option maxRecDepth 100000 in
theorem climb_c {v : Value} {u : Nat} (S : List UInt8) (hS : S.length = 32) (h : IsN v u) (w : World) (htp : Tp w) :
    Calls Tryd.prog 80 #[.agg (bcells S).toArray, v] w fun e w' => ∃ r, e = .returned r ∧ IsN r (ladderOf S u) ∧ Ex w w' := by
  obtain ⟨X, rfl, hX⟩ := h
  obtain ⟨a, b, c, d, f, rfl⟩ := list5 hX.len
  have HX := hidden hX
  clear hX
  go_enter Tryd.func80, Tryd.ntmps80
  generalize hSA : (bcells S).toArray = SA
  simp only [ncells, List.map_cons, List.map_nil]
  go_upto_region 1 with fail
  rw [show w.heap.size + 1 + 1 = w.heap.size + 2 from rfl]
  have HSA := hidden hSA
  have HTP := hidden htp
  clear hSA htp
  go_cut [5, 6] from 10 to 14 (fun v5 v6 wx => ∃ g5 g6, v5 = .pointer (some ⟨g5, 0, none⟩) ∧ v6 = .pointer (some ⟨g6, 0, none⟩) ∧ CL w wx S u g5 g6 ((1, 0), (u, 1)))
  case first =>
    go_region
    · go_wp2_with fail
      go_meet
      case rel => exact ⟨_, _, rfl, rfl, CL.startA HSA.out HX.out HTP.out⟩
    · go_wp2_with fail
      go_meet
      case rel => exact ⟨_, _, rfl, rfl, CL.startB HSA.out HX.out HTP.out⟩
  case rest =>
    obtain ⟨g5, g6, rfl, rfl, hcl⟩ := hcut
    have HC := hidden hcl
    have h0 := HTP.out.1
    clear hcl HSA HX HTP
    go_wp2_with fail
    go_loopw [7, 8] (fun s c wr => ∃ b t : Nat, b ≤ 255 ∧ t ≤ 1 ∧ c = .int .i64 ((b : Int) - 1) ∧ s = .int .u64 (t : Int) ∧ CL w wr S u g5 g6 (cs t (tlTo S u (255 - b)))) (fun _ c _ => (intOf c + 1).toNat)
    case atStart => exact ⟨255, 0, by omega, by omega, rfl, rfl, HC.out⟩
    case round =>
      clear HC
      obtain ⟨b, t, hb, ht, rfl, rfl, hv⟩ := hrel
      have HC := hidden hv
      clear hv
      by_cases hz : b = 0
      · subst hz
        have HW := hidden (swap_c (p := (cs t (tlTo S u (255 - 0))).1) (q := (cs t (tlTo S u (255 - 0))).2) ht HC.out.n.1 wr HC.out.a HC.out.b)
        have HT : Hid (cs t ((cs t (tlTo S u (255 - 0))).1, (cs t (tlTo S u (255 - 0))).2) = tlTo S u 255) := by
          show cs t (cs t (tlTo S u 255)) = _
          rcases (show t = 0 ∨ t = 1 by omega) with rfl | rfl <;> simp [cs]
        rw [HT.out] at HW
        go_wp2_with fail
        refine HW.out.mono ?_
        rintro e w4 ⟨rfl, h1, h2, h3⟩
        have HD := hidden (HC.out.set (q := tlTo S u 255) h0 h3 h1 h2)
        clear HC HW HT h1 h2 h3
        generalize hT : tlTo S u 255 = T at HD
        have HL : Hid (ladderOf S u = fmul T.1.1 (inv T.1.2)) := by show _ = _; rw [← hT]; rfl
        clear hT
        go_wp2_with fail
        refine region_res 6 5 (fmul T.1.1 (inv T.1.2)) (w.heap.size + 2) [.ptr g5 0, .num T.1.1, .ptr g5 5, .num T.1.2, .num (inv T.1.2), .num (fmul T.1.1 (inv T.1.2))] 4 47 (by kernel_rfl) (by decide) (by kernel_rfl) (by kernel_rfl) ?_ (by unfold isStore; kernel_rfl) (by kernel_rfl) (by kernel_rfl) (fun vs => ⟨by kernel_rfl, by kernel_rfl⟩) HD.out.r ?_
        · refine req_take (.ptr g5 0) (by kernel_rfl) (fun vs w1 he hd => kd_field (x := .tmp 5) (f := 0) (by kernel_rfl) (by kernel_rfl) (.inl ⟨rfl, rfl⟩)) ?_
          refine req_take (.num T.1.1) (by kernel_rfl) (fun vs w1 he hd => kd_loadX (x := .tmp 42) (by kernel_rfl) (Eq.trans (b := vs 0) (by kernel_rfl) (hd 0 (.ptr g5 0) (by decide) (by kernel_rfl) (by kernel_rfl))) (HD.out.ext he).a) ?_
          refine req_take (.ptr g5 5) (by kernel_rfl) (fun vs w1 he hd => kd_field (x := .tmp 5) (f := 1) (by kernel_rfl) (by kernel_rfl) (.inr ⟨rfl, rfl⟩)) ?_
          refine req_take (.num T.1.2) (by kernel_rfl) (fun vs w1 he hd => kd_loadZ (x := .tmp 44) (by kernel_rfl) (Eq.trans (b := vs 2) (by kernel_rfl) (hd 2 (.ptr g5 5) (by decide) (by kernel_rfl) (by kernel_rfl))) (HD.out.ext he).a) ?_
          refine req_take (.num (inv T.1.2)) (by kernel_rfl) (fun vs w1 he hd => kd_inverse (x := .tmp 45) (ts := #[118]) (vx := vs 3) (by kernel_rfl) (by kernel_rfl) (by kernel_rfl) (hd 3 (.num T.1.2) (by decide) (by kernel_rfl) (by kernel_rfl))) ?_
          refine req_take (.num (fmul T.1.1 (inv T.1.2))) (by kernel_rfl) (fun vs w1 he hd => kd_times (x := .tmp 43) (y := .tmp 46) (ts := #[118, 118]) (vx := vs 1) (vy := vs 4) (by kernel_rfl) (by kernel_rfl) (by kernel_rfl) (hd 1 (.num T.1.1) (by decide) (by kernel_rfl) (by kernel_rfl)) (by kernel_rfl) (hd 4 (.num (inv T.1.2)) (by decide) (by kernel_rfl) (by kernel_rfl))) ?_
          exact eachL_zero
        · intro vs w5 R hk tR nR
          have HE : Hid (Ex w w5) := Ex.trans' HD.out.e hk
          have HN := hidden nR
          have HTR := hidden tR
          simp only [actsTo, if_true, dstOf, List.getElem?_toArray, List.getElem?_cons_succ, List.getElem?_cons_zero, Option.bind_some, Act.put, List.setIfInBounds_toArray, List.set_cons_zero, List.set_cons_succ]
          generalize vs 0 = y0
          generalize vs 1 = y1
          generalize vs 2 = y2
          generalize vs 3 = y3
          generalize vs 4 = y4
          generalize vs 5 = y5
          clear vs hk tR nR HD
          obtain ⟨z1, y1', x1⟩ := row_facts R HTR.out.len
          have HZ := hidden z1
          clear z1 y1' x1
          go_wp2_with fail
          (try simp only [Exit.inBlock, Exit.then])
          refine bodyPost_ret (results_cell1 rfl _ _ _ (w.heap.size + 2) (ncells .u64 R).toArray 118 (0, 0) 5 87 rfl HN.out Tryd.underlying118 HZ.out) rfl ?_
          exact ⟨_, rfl, ⟨R, rfl, by rw [HL.out]; exact HTR.out⟩, HE.out⟩
      · obtain ⟨j, rfl⟩ : ∃ j, b = j + 1 := ⟨b - 1, by omega⟩
        rw [show ((j + 1 : Nat) : Int) - 1 = (j : Int) by omega]
        have hj0 : (0 : Int) ≤ (j : Int) := by omega
        have hq2 : (j : Int) / 8 < 32 := by omega
        have hc : wr.cell? ⟨w.heap.size, j / 8, none⟩ = some (.int .u8 ((S.getD (j / 8) 0).toNat : Nat)) := by
          rw [cell_row HC.out.s]
          simp [bcells, List.getElem?_eq_getElem (show j / 8 < S.length by omega)]
        have hsb : (S.getD (j / 8) 0).toNat ≤ 255 := by have := (S.getD (j / 8) 0).toNat_lt; omega
        have HBA : Hid (bitAt S j = (S.getD (j / 8) 0).toNat / 2 ^ (j % 8) % 2) := rfl
        have HST := hidden (tl_step S u j (by omega))
        generalize (S.getD (j / 8) 0).toNat = sb at hc hsb HBA
        obtain ⟨e1, e2, e3⟩ := bit_num sb (j % 8) t hsb ht
        have e0 : (sb : Int) / 2 ^ (j % 8) = ((sb / 2 ^ (j % 8) : Nat) : Int) := by simp
        rw [← HBA.out] at e2 e3
        have hbl := bitAt_le S j
        generalize hbt : bitAt S j = bt at e2 e3 HST hbl
        generalize sb / 2 ^ (j % 8) = sv at e0 e1 e2
        have hxl : t ^^^ bt ≤ 1 := by
          rcases (show t = 0 ∨ t = 1 by omega) with rfl | rfl <;> rcases (show bt = 0 ∨ bt = 1 by omega) with rfl | rfl <;> decide
        have HW := hidden (swap_c (p := (cs t (tlTo S u (255 - (j + 1)))).1) (q := (cs t (tlTo S u (255 - (j + 1)))).2) hxl HC.out.n.1 wr HC.out.a HC.out.b)
        have HT : Hid (cs (t ^^^ bt) ((cs t (tlTo S u (255 - (j + 1)))).1, (cs t (tlTo S u (255 - (j + 1)))).2) = cs bt (tlTo S u (255 - (j + 1)))) := cs_cs t bt _ ht hbl
        rw [HT.out] at HW
        generalize t ^^^ bt = tb at e3 HW
        clear hbt HBA hsb HT hxl
        go_wp2_with fail
        refine HW.out.mono ?_
        rintro e w4 ⟨rfl, h1, h2, h3⟩
        have HD := hidden (HC.out.set (q := cs bt (tlTo S u (255 - (j + 1)))) h0 h3 h1 h2)
        generalize cs bt (tlTo S u (255 - (j + 1))) = P at HD HST
        clear HC HW h1 h2 h3
        have hn56 := hidden HD.out.n.1
        go_wp2_with (first
          | (refine wpList_loadR (x := .tmp 5) rfl rfl (by kernel_rfl) HD.out.a ?_; intro v34 i34)
          | (refine wpList_loadR (x := .tmp 6) rfl rfl (by kernel_rfl) HD.out.b ?_; intro v35 i35)
          | (refine wpList_load5 (x := .tmp 3) rfl rfl (by kernel_rfl) HD.out.u ?_; intro v36 i36)
          | (refine wpList_step (x := .tmp 34) (y := .tmp 35) (z := .tmp 36) (p := P) (vx := v34) (vy := v35) (vz := v36) rfl rfl (by kernel_rfl) i34 (by kernel_rfl) i35 (by kernel_rfl) i36 HD.out.t ?_; intro r1 r2 w5 j1 j2 hx)
          | (refine wpList_overR (x := .tmp 5) (y := .tmp 38) (v := r1) rfl rfl rfl (by kernel_rfl) (by kernel_rfl) j1 (HD.out.ext hx).a ?_; intro w6 hk6 n6)
          | (refine wpList_overR (x := .tmp 6) (y := .tmp 39) (v := r2) rfl rfl rfl (by kernel_rfl) (by kernel_rfl) j2 ((HD.out.ext hx).b.keep hk6 (fun e => hn56.out e.symm)) ?_; intro w7 hk7 n7))
        go_roundw
        case rel =>
          refine ⟨j, bt, by omega, hbl, by go_num, rfl, ?_⟩
          rw [HST.out]
          refine (HD.out.ext hx).set (q := stepF u P) h0 ((hk6.mono fun k _ e => .inl e).trans (hk7.mono fun k _ e => .inr e)) (n6.keep hk7 hn56.out) n7
        case measure => simp [intOf]
end
end Go.Proofs.YtookapglookphaaDoor
