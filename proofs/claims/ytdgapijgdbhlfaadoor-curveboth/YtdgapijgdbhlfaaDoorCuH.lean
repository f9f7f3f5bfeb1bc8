/- Plain regions of numbers, operation by operation; the last region of 'step'. -/
import Derived.Test.YtdgapijgdbhlfaaDoorCuF
namespace Go.Proofs.YtdgapijgdbhlfaaDoor
open Go Go.RowKit

section
variable {ops : Array Oper} {rest : List Oper} {o o2 : Oper} {a : Act} {w : World} {Q : Exit → Act → World → Prop} {x y : Operand}
theorem wpList_load5 {g n : Nat} (hg : o.guard = none) (ho : o.op = .load 40 x) (hx : a.eval x = .pointer (some ⟨g, 0, none⟩)) (hb : N5 w g n)
    (h : ∀ v, IsN v n → wpList Tryd.prog ops Q rest (a.put o.dst v) w) : wpList Tryd.prog ops Q (o :: rest) a w :=
  wpList_gives (Φ := fun v w' => IsN v n ∧ w' = w) hg (gives_load5 ho hx hb fun _ hv => ⟨hv, rfl⟩) fun v w' ⟨hv, e⟩ => by rw [e]; exact h v hv
theorem wpList_load5d {g n : Nat} {d : Tmp} (_ : o.dst = some d) (hg : o.guard = none) (ho : o.op = .load 40 x) (hx : a.eval x = .pointer (some ⟨g, 0, none⟩)) (hb : N5 w g n)
    (h : ∀ v, IsN v n → wpList Tryd.prog ops Q rest (a.put o.dst v) w) : wpList Tryd.prog ops Q (o :: rest) a w := wpList_load5 hg ho hx hb h
theorem wpList_loadX {g n m : Nat} (hg : o.guard = none) (ho : o.op = .load 40 x) (hx : a.eval x = .pointer (some ⟨g, 0, none⟩)) (hb : R10 w g n m)
    (h : ∀ v, IsN v n → wpList Tryd.prog ops Q rest (a.put o.dst v) w) : wpList Tryd.prog ops Q (o :: rest) a w := by
  obtain ⟨X, Z, h1, h2, h3⟩ := hb
  exact wpList_gives (Φ := fun v w' => IsN v n ∧ w' = w) hg (gives_load ho hx h1.rangeL h2.len ⟨⟨X, rfl, h2⟩, rfl⟩) fun v w' ⟨hv, e⟩ => by rw [e]; exact h v hv
theorem wpList_minus {n m : Nat} {ts : Array TypeId} {vx vy : Value} (hg : o.guard = none) (ho : o.op = .call { callee := .value (.func 34), args := #[x, y], argTypes := ts }) (ex : a.eval x = vx) (hx : IsN vx n) (ey : a.eval y = vy) (hy : IsN vy m) (ht : Tp w)
    (h : ∀ v w', IsN v (fsub n m) → Ex w w' → wpList Tryd.prog ops Q rest (a.put o.dst v) w') : wpList Tryd.prog ops Q (o :: rest) a w :=
  wpList_gives hg (kd_minus (ks := []) (U := 0) ho rfl ex hx ey hy ht) fun v w' hv => h v w' hv.2.1 hv.1
theorem wpList_times {n m : Nat} {ts : Array TypeId} {vx vy : Value} (hg : o.guard = none) (ho : o.op = .call { callee := .value (.func 29), args := #[x, y], argTypes := ts }) (ex : a.eval x = vx) (hx : IsN vx n) (ey : a.eval y = vy) (hy : IsN vy m)
    (h : ∀ v w', IsN v (fmul n m) → Ex w w' → wpList Tryd.prog ops Q rest (a.put o.dst v) w') : wpList Tryd.prog ops Q (o :: rest) a w :=
  wpList_gives hg (kd_times (ks := []) (U := 0) ho rfl ex hx ey hy) fun v w' hv => h v w' hv.2.1 hv.1
/-- A new place, and a number laid into it. -/
theorem wpList_new {n : Nat} {d e : Tmp} {v : Value} (hg : o.guard = none ∧ o2.guard = none) (ho : o.op = .alloc 40) (ho2 : o2.op = .store 40 (.tmp d) (.tmp e)) (hd : o.dst = some d) (hd2 : o2.dst = none)
    (hs : decide (d < a.tmps.size) = true) (hv : a.eval (.tmp e) = v) (hn : IsN v n) (hde : d ≠ e)
    (h : ∀ g w', Ex w w' → N5 w' g n → w.heap.size ≤ g → wpList Tryd.prog ops Q rest (a.put (some d) (.pointer (some ⟨g, 0, none⟩))) w') : wpList Tryd.prog ops Q (o :: o2 :: rest) a w := by
  obtain ⟨R, rfl, ht⟩ := hn
  refine wpList_gives (Φ := fun u w' => u = .pointer (some ⟨w.heap.size, 0, none⟩) ∧ w' = w.alloc (.cells (ncells .u64 [0, 0, 0, 0, 0]).toArray 40)) hg.1 (gives_alloc ho ⟨rfl, rfl⟩) fun u w' ⟨e1, e2⟩ => ?_
  rw [e1, e2, hd]
  obtain ⟨z1, y1, x1⟩ := row_facts R ht.len
  have hn0 := heap_alloc_new w (.cells (ncells .u64 [0, 0, 0, 0, 0]).toArray 40)
  refine wpList_store_row hg.2 40 _ _ ho2 w.heap.size (ncells .u64 R).toArray ?_ ?_ 40 _ hn0 z1 x1 y1 ?_
  · rw [eval_put_tmp, if_pos ⟨rfl, of_decide_eq_true hs⟩]
  · rw [eval_put_tmp, if_neg (by intro h; exact hde (Option.some.inj h.1)), hv]
  · rw [hd2]
    refine h w.heap.size _ ?_ ⟨R, ?_, ht⟩ (Nat.le_refl _)
    · exact below_setRow (Ex.alloc w _) (Nat.le_refl _) _
    · unfold NB
      rw [setRow_heap _ _ _ _ _ _ hn0]
/-- A number laid into a place that holds one. -/
theorem wpList_over {n m g : Nat} {v : Value} (hg : o.guard = none) (ho : o.op = .store 40 x y) (hd : o.dst = none) (hx : a.eval x = .pointer (some ⟨g, 0, none⟩)) (hy : a.eval y = v) (hn : IsN v n) (hb : N5 w g m)
    (h : ∀ w', Keeps (fun k => k = g) w w' → N5 w' g n → wpList Tryd.prog ops Q rest a w') : wpList Tryd.prog ops Q (o :: rest) a w := by
  obtain ⟨R, rfl, ht⟩ := hn
  obtain ⟨R0, hb, ht0⟩ := hb
  obtain ⟨z1, y1, x1⟩ := row_facts R ht.len
  have hz : (ncells .u64 R0).toArray.size = (ncells .u64 R).toArray.size := by rw [List.size_toArray, List.size_toArray, ncells_length, ncells_length, ht.len, ht0.len]
  refine wpList_store_row hg 40 _ _ ho g (ncells .u64 R).toArray hx hy 40 _ hb z1 hz y1 ?_
  rw [hd]
  refine h _ ⟨rfl, rfl, rfl, by simp, fun k _ hk => setRow_other _ _ _ _ hk⟩ ⟨R, ?_, ht⟩
  unfold NB
  rw [setRow_heap _ _ _ _ _ _ hb]
/-- A number laid into the middle of a block. -/
theorem wpList_mid {n g off : Nat} {t : TypeId} {v : Value} {D : List Nat} (hg : o.guard = none) (ho : o.op = .store 40 x y) (hd : o.dst = none) (hx : a.eval x = .pointer (some ⟨g, off, none⟩)) (hy : a.eval y = v) (hn : IsN v n) (hb : NB .u64 w g t D) (hl : off + 5 ≤ D.length)
    (h : ∀ w' R, Keeps (fun k => k = g) w w' → Tm R n → NB .u64 w' g t (setL D off R) → wpList Tryd.prog ops Q rest a w') : wpList Tryd.prog ops Q (o :: rest) a w := by
  obtain ⟨R, rfl, ht⟩ := hn
  refine wpList_store_mid hg 40 _ _ ho g off (ncells .u64 R).toArray hx hy (by rw [List.size_toArray, ncells_length, ht.len]; exact hb.there off 5 hl) (num_size' R ht.len) (num_one R) ?_
  rw [hd]
  exact h _ R (Keeps.setCells (S := fun k => k = g) (g := g) rfl _ _ _ _ (Keeps.refl _ w)) ht (NB.setCells R D off w hb)
end
/-- A number of step's own. -/
def NN (w0 w : World) (g a : Nat) : Prop := N5 w g a ∧ w0.heap.size + 5 ≤ g
theorem NN.ext {w0 w w' : World} {g a : Nat} (h : NN w0 w g a) (he : Ex w w') : NN w0 w' g a := ⟨h.1.ext he, h.2⟩
theorem NN.keepD {w0 w w' : World} {g a : Nat} (h : NN w0 w g a) (hk : Keeps (fun k => k = w0.heap.size + 3) w w') : NN w0 w' g a := ⟨h.1.keep hk (by have := h.2; omega), h.2⟩
theorem NN.keepS {w0 w w' : World} {g a : Nat} (h : NN w0 w g a) (hk : Keeps (fun k => k = w0.heap.size + 4) w w') : NN w0 w' g a := ⟨h.1.keep hk (by have := h.2; omega), h.2⟩
theorem NN.mk' {w0 wa w : World} {x2 z2 x3 z3 u : Nat} {D S : List Nat} {g a : Nat} (h : N5 w g a) (hs : ST w0 wa x2 z2 x3 z3 u D S) (hb : wa.heap.size ≤ g) : NN w0 w g a := ⟨h, by have := hs.size; omega⟩
theorem setL_a (R : List Nat) (h : R.length = 5) : setL Z10 0 R = R ++ [0, 0, 0, 0, 0] := by obtain ⟨a, b, c, d, e, rfl⟩ := list5 h; rfl
theorem setL_b (R S : List Nat) (h : R.length = 5) (k : S.length = 5) : setL (R ++ [0, 0, 0, 0, 0]) 5 S = R ++ S := by
  obtain ⟨a, b, c, d, e, rfl⟩ := list5 h
  obtain ⟨a', b', c', d', e', rfl⟩ := list5 k
  rfl
theorem gives_loadD {o : Oper} {ρ : Operand → Value} {w : World} {x : Operand} {g : Nat} {D : List Nat} {Φ : Value → World → Prop} (ho : o.op = .load 55 x) (hx : ρ x = .pointer (some ⟨g, 0, none⟩))
    (hr : NB .u64 w g 55 D) (hl : D.length = 10) (h : Φ (.agg (ncells .u64 D).toArray) w) : Gives Tryd.prog o ρ w Φ := by
  refine Gives.value (w' := w) (v := .agg (ncells .u64 D).toArray) ?_ h
  unfold execOp
  simp only [ho, hx]
  rw [Sem.run_bind, run_loadAt_mid w g 0 55 _ _ hr.range Tryd.underlying55 rfl (by rw [ncells_length, hl]; kernel_rfl)]
  rfl
theorem wpOp_load {l : List Oper} {i : Nat} {o : Oper} {Q : Exit → Act → World → Prop} {K : Act → World → Prop} {a : Act} {w : World} {x : Operand} {g : Nat} {D : List Nat} (ho : l[i]? = some o) (hg : o.guard = none) (hl : o.op = .load 55 x) (hx : a.eval x = .pointer (some ⟨g, 0, none⟩))
    (hr : NB .u64 w g 55 D) (hd : D.length = 10) (h : K (a.put o.dst (.agg (ncells .u64 D).toArray)) w) : wpOp Tryd.prog l.toArray Q i K a w := by
  unfold wpOp
  rw [show l.toArray[i]? = some o by simpa using ho]
  simp only [Region.wanted, hg, if_true]
  exact .inl (Gives.wp (Φ := fun v w' => v = .agg (ncells .u64 D).toArray ∧ w' = w) (gives_loadD hl hx hr hd ⟨rfl, rfl⟩) fun v w' ⟨e1, e2⟩ => by rw [e1, e2]; exact h)
theorem wpOp_back {l : List Oper} {i : Nat} {o : Oper} {Q : Exit → Act → World → Prop} {K : Act → World → Prop} {a : Act} {w : World} {d e : Tmp} {g : Nat} {D : List Nat} (ho : l[i]? = some o) (hs : isStore 55 d e (some o)) (hx : a.eval (.tmp d) = .pointer (some ⟨g, 0, none⟩)) (hy : a.eval (.tmp e) = .agg (ncells .u64 D).toArray)
    (hr : NB .u64 w g 55 D) (hd : D.length = 10) (h : K a (w.setRow g (ncells .u64 D).toArray)) : wpOp Tryd.prog l.toArray Q i K a w := by
  obtain ⟨p, q, s1, s2, s3⟩ := hs.spec
  cases q
  have z1 : (Tryd.prog.info? 55).map (·.size) = some (ncells .u64 D).toArray.size := by rw [List.size_toArray, ncells_length, hd]; kernel_rfl
  unfold wpOp
  rw [show l.toArray[i]? = some o by simpa using ho]
  simp only [Region.wanted, s2, if_true]
  refine .inl (wp_store_row 55 _ _ s1 g (ncells .u64 D).toArray hx hy 55 _ hr z1 rfl (num_one D) ?_)
  rw [s3]
  exact h
theorem NB.back {w : World} {g g' : Nat} {t : TypeId} {D D' : List Nat} (h : NB .u64 w g' t D') (h2 : NB .u64 w g t D) : NB .u64 (w.setRow g (ncells .u64 D).toArray) g' t D' := by
  unfold NB at *
  by_cases e : g' = g
  · subst e
    rw [setRow_heap _ _ _ _ _ _ h2, ← h2, h]
  · rw [setRow_other _ _ _ _ e, h]
/-- Two ratios, read and laid back. -/
theorem region_back {id : Nat} {Q : Exit → Act → World → Prop} (g1 g2 : Nat) {a : Act} {w : World} (D1 D2 : List Nat) (d1 d2 e1 e2 : Tmp) (o1 o2 o3 o4 : Oper)
    (k1 : o1.op = .load 55 (.tmp d1) ∧ o1.guard = none ∧ o1.dst = some e1) (k2 : o2.op = .load 55 (.tmp d2) ∧ o2.guard = none ∧ o2.dst = some e2)
    (s1 : isStore 55 d1 e1 (some o3)) (s2 : isStore 55 d2 e2 (some o4))
    (r0 : Region.ready .any [o1, o2, o3, o4].toArray #[false, false, false, false] = [0, 1]) (ra : Region.ready .any [o1, o2, o3, o4].toArray #[true, false, false, false] = [1, 2]) (rb : Region.ready .any [o1, o2, o3, o4].toArray #[false, true, false, false] = [0])
    (rc : Region.ready .any [o1, o2, o3, o4].toArray #[true, true, false, false] = [2]) (rd : Region.ready .any [o1, o2, o3, o4].toArray #[true, false, true, false] = [1]) (re : Region.ready .any [o1, o2, o3, o4].toArray #[true, true, true, false] = [3]) (rf : Region.ready .any [o1, o2, o3, o4].toArray #[true, true, true, true] = [])
    (hs : decide (e1 < a.tmps.size) = true ∧ decide (e2 < a.tmps.size) = true) (hne : e1 ≠ e2 ∧ d1 ≠ e1 ∧ d1 ≠ e2 ∧ d2 ≠ e1 ∧ d2 ≠ e2)
    (ev : a.eval (.tmp d1) = .pointer (some ⟨g1, 0, none⟩) ∧ a.eval (.tmp d2) = .pointer (some ⟨g2, 0, none⟩))
    (n1 : NB .u64 w g1 55 D1) (n2 : NB .u64 w g2 55 D2) (l1 : D1.length = 10) (l2 : D2.length = 10)
    (hcont : ∀ w', Keeps (fun k => k = g1 ∨ k = g2) w w' → NB .u64 w' g1 55 D1 → NB .u64 w' g2 55 D2 → Q .normal ((a.put (some e1) (.agg (ncells .u64 D1).toArray)).put (some e2) (.agg (ncells .u64 D2).toArray)) w') :
    (Code.region id [o1, o2, o3, o4].toArray true).wp Tryd.prog Q a w := by
  obtain ⟨q1, q2, q3⟩ := k1
  obtain ⟨p1, p2, p3⟩ := k2
  obtain ⟨z1, z2⟩ := hs
  have z1 := of_decide_eq_true z1
  have z2 := of_decide_eq_true z2
  obtain ⟨y1, y2, y3, y4, y5⟩ := hne
  obtain ⟨v1, v2⟩ := ev
  have tl : ∀ {d e : Tmp}, d ≠ e → ¬ (some e = some d ∧ d < a.tmps.size) := fun h e => h (Option.some.inj e.1).symm
  have E1 : ∀ v, (a.put (some e1) v).eval (.tmp d1) = .pointer (some ⟨g1, 0, none⟩) := fun v => by rw [eval_put_tmp, if_neg (tl y2), v1]
  have E2 : ∀ v, (a.put (some e1) v).eval (.tmp d2) = .pointer (some ⟨g2, 0, none⟩) := fun v => by rw [eval_put_tmp, if_neg (tl y4), v2]
  have E3 : ∀ v, (a.put (some e1) v).eval (.tmp e1) = v := fun v => by rw [eval_put_tmp, if_pos ⟨rfl, z1⟩]
  have E4 : ∀ v u, ((a.put (some e1) v).put (some e2) u).eval (.tmp d1) = .pointer (some ⟨g1, 0, none⟩) := fun v u => by rw [eval_put_tmp, if_neg (by intro e; exact y3 (Option.some.inj e.1).symm), E1]
  have E5 : ∀ v u, ((a.put (some e1) v).put (some e2) u).eval (.tmp d2) = .pointer (some ⟨g2, 0, none⟩) := fun v u => by rw [eval_put_tmp, if_neg (by intro e; exact y5 (Option.some.inj e.1).symm), E2]
  have E6 : ∀ v u, ((a.put (some e1) v).put (some e2) u).eval (.tmp e1) = v := fun v u => by rw [eval_put_tmp, if_neg (by intro e; exact y1 (Option.some.inj e.1).symm), E3]
  have E7 : ∀ v u, ((a.put (some e1) v).put (some e2) u).eval (.tmp e2) = u := fun v u => by rw [eval_put_tmp, if_pos ⟨rfl, by rw [put_size]; exact z2⟩]
  have E8 : ∀ v, (a.put (some e2) v).eval (.tmp d1) = .pointer (some ⟨g1, 0, none⟩) := fun v => by rw [eval_put_tmp, if_neg (tl y3), v1]
  have c0 : ∀ (w' : World) (v u : Value), Keeps (fun k => k = g1 ∨ k = g2) w w' → NB .u64 w' g1 55 D1 → NB .u64 w' g2 55 D2 → v = .agg (ncells .u64 D1).toArray → u = .agg (ncells .u64 D2).toArray →
      wpAny Tryd.prog .any [o1, o2, o3, o4].toArray Q 1 #[true, true, true, false] ((a.put (some e1) v).put (some e2) u) w' := fun w' v u hk h1 h2 ev eu => by
    subst ev
    subst eu
    refine wpAny_all re (by simp) fun j hj => ?_
    obtain rfl := List.mem_singleton.1 hj
    refine wpOp_back rfl s2 (E5 _ _) (E7 _ _) h2 l2 ?_
    refine wpAny_done rf ?_ 0
    refine hcont _ (hk.trans ⟨rfl, rfl, rfl, by simp, fun k _ h => setRow_other _ _ _ _ (fun e => h (.inr e))⟩) (h1.back h2) (h2.back h2)
  have keep1 : ∀ w', Keeps (fun k => k = g1 ∨ k = g2) w w' → Keeps (fun k => k = g1 ∨ k = g2) w (w'.setRow g1 (ncells .u64 D1).toArray) := fun w' hk => hk.trans ⟨rfl, rfl, rfl, by simp, fun k _ h => setRow_other _ _ _ _ (fun e => h (.inl e))⟩
  have m1 : NB .u64 w.drew g1 55 D1 := n1
  have m2 : NB .u64 w.drew g2 55 D2 := n2
  have k0 : Keeps (fun k => k = g1 ∨ k = g2) w w.drew := (Keeps.refl _ w).drew
  have c1 : ∀ (w' : World), Keeps (fun k => k = g1 ∨ k = g2) w w' → NB .u64 w' g1 55 D1 → NB .u64 w' g2 55 D2 →
      wpAny Tryd.prog .any [o1, o2, o3, o4].toArray Q 2 #[true, true, false, false] ((a.put (some e1) (.agg (ncells .u64 D1).toArray)).put (some e2) (.agg (ncells .u64 D2).toArray)) w' := fun w' hk h1 h2 => by
    refine wpAny_all rc (by simp) fun j hj => ?_
    obtain rfl := List.mem_singleton.1 hj
    refine wpOp_back rfl s1 (E4 _ _) (E6 _ _) h1 l1 ?_
    exact c0 _ _ _ (keep1 w' hk) (h1.back h1) (h2.back h1) rfl rfl
  refine wp_region_any (by kernel_rfl) ?_
  change wpAny Tryd.prog .any [o1, o2, o3, o4].toArray Q 4 #[false, false, false, false] a w.drew
  refine wpAny_all r0 (by simp) fun j hj => ?_
  rcases List.mem_cons.1 hj with rfl | hj
  · refine wpOp_load rfl q2 q1 v1 m1 l1 ?_
    rw [q3]
    change wpAny Tryd.prog .any [o1, o2, o3, o4].toArray Q 3 #[true, false, false, false] _ _
    refine wpAny_all ra (by simp) fun j hj => ?_
    rcases List.mem_cons.1 hj with rfl | hj
    · refine wpOp_load rfl p2 p1 (E2 _) m2 l2 ?_
      rw [p3]
      exact c1 _ k0 m1 m2
    · obtain rfl := List.mem_singleton.1 hj
      refine wpOp_back rfl s1 (E1 _) (E3 _) m1 l1 ?_
      change wpAny Tryd.prog .any [o1, o2, o3, o4].toArray Q 2 #[true, false, true, false] _ _
      refine wpAny_all rd (by simp) fun j hj => ?_
      obtain rfl := List.mem_singleton.1 hj
      refine wpOp_load rfl p2 p1 (E2 _) (m2.back m1) l2 ?_
      rw [p3]
      exact c0 _ _ _ (keep1 _ k0) (m1.back m1) (m2.back m1) rfl rfl
  · obtain rfl := List.mem_singleton.1 hj
    refine wpOp_load rfl p2 p1 v2 m2 l2 ?_
    rw [p3]
    change wpAny Tryd.prog .any [o1, o2, o3, o4].toArray Q 3 #[false, true, false, false] _ _
    refine wpAny_all rb (by simp) fun j hj => ?_
    obtain rfl := List.mem_singleton.1 hj
    refine wpOp_load rfl q2 q1 (E8 _) m1 l1 ?_
    rw [q3, Act.put_comm (x := some e2) (y := some e1) a _ _ (by intro d h1 h2; exact y1 (by rw [Option.some.inj h1, Option.some.inj h2]))]
    exact c1 _ k0 m1 m2
end Go.Proofs.YtdgapijgdbhlfaaDoor
