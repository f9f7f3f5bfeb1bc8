/- The document's swap. -/
import Derived.Test.YtdgapijgdbhlfaaDoorCrE
import Derived.Test.YtdgapijgdbhlfaaDoorCuK
namespace Go.Proofs.YtdgapijgdbhlfaaDoor
open Go Go.RowKit

theorem wpOp_loadI {l : List Oper} {i : Nat} {o : Oper} {Q : Exit → Act → World → Prop} {K : Act → World → Prop} {a : Act} {w : World} {x : Operand} {g : Nat} {D : List Int} (ho : l[i]? = some o) (hg : o.guard = none) (hl : o.op = .load 46 x) (hx : a.eval x = .pointer (some ⟨g, 0, none⟩))
    (hr : IB w g 46 D) (hd : D.length = 16) (h : K (a.put o.dst (.agg (icells D).toArray)) w) : wpOp Tryd.prog l.toArray Q i K a w := by
  unfold wpOp
  rw [show l.toArray[i]? = some o by simpa using ho]
  simp only [Region.wanted, hg, if_true]
  exact .inl (Gives.wp (Φ := fun v w' => v = .agg (icells D).toArray ∧ w' = w) (gives_loadI hl hx hr hd ⟨rfl, rfl⟩) fun v w' ⟨e1, e2⟩ => by rw [e1, e2]; exact h)
theorem wpOp_storeI {l : List Oper} {i : Nat} {o : Oper} {Q : Exit → Act → World → Prop} {K : Act → World → Prop} {a : Act} {w : World} {d e : Tmp} {g : Nat} {D D0 : List Int} (ho : l[i]? = some o) (hs : isStore 46 d e (some o)) (hx : a.eval (.tmp d) = .pointer (some ⟨g, 0, none⟩)) (hy : a.eval (.tmp e) = .agg (icells D).toArray)
    (hr : IB w g 46 D0) (hd : D.length = 16) (hd0 : D0.length = 16) (h : K a (w.setRow g (icells D).toArray)) : wpOp Tryd.prog l.toArray Q i K a w := by
  obtain ⟨p, q, s1, s2, s3⟩ := hs.spec
  cases q
  obtain ⟨z1, y1, _⟩ := row16 D hd
  have hz : (icells D0).toArray.size = (icells D).toArray.size := by rw [List.size_toArray, List.size_toArray, icells_length, icells_length, hd, hd0]
  unfold wpOp
  rw [show l.toArray[i]? = some o by simpa using ho]
  simp only [Region.wanted, s2, if_true]
  refine .inl (wp_store_row 46 _ _ s1 g (icells D).toArray hx hy 46 _ hr z1 hz y1 ?_)
  rw [s3]
  exact h
theorem IB.other {w : World} {g g' : Nat} {t : TypeId} {D' : List Int} (h : IB w g' t D') (hn : g' ≠ g) (c : Array Value) : IB (w.setRow g c) g' t D' := by
  unfold IB at *
  rw [setRow_other _ _ _ _ hn, h]
theorem IB.same {w : World} {g : Nat} {t : TypeId} {D D' : List Int} (h : IB w g t D') : IB (w.setRow g (icells D).toArray) g t D := by
  unfold IB at *
  rw [setRow_heap _ _ _ _ _ _ h]
/-- Two numbers, read and laid elsewhere. -/
theorem region_move {id : Nat} {Q : Exit → Act → World → Prop} (ga gb g1 g2 : Nat) {a : Act} {w : World} (A B : List Int) (d1 d2 s1' s2' e1 e2 : Tmp) (o1 o2 o3 o4 : Oper)
    (k1 : o1.op = .load 46 (.tmp d1) ∧ o1.guard = none ∧ o1.dst = some e1) (k2 : o2.op = .load 46 (.tmp d2) ∧ o2.guard = none ∧ o2.dst = some e2)
    (s1 : isStore 46 s1' e1 (some o3)) (s2 : isStore 46 s2' e2 (some o4))
    (r0 : Region.ready .any [o1, o2, o3, o4].toArray #[false, false, false, false] = [0, 1]) (ra : Region.ready .any [o1, o2, o3, o4].toArray #[true, false, false, false] = [1, 2]) (rb : Region.ready .any [o1, o2, o3, o4].toArray #[false, true, false, false] = [0])
    (rc : Region.ready .any [o1, o2, o3, o4].toArray #[true, true, false, false] = [2]) (rd : Region.ready .any [o1, o2, o3, o4].toArray #[true, false, true, false] = [1]) (re : Region.ready .any [o1, o2, o3, o4].toArray #[true, true, true, false] = [3]) (rf : Region.ready .any [o1, o2, o3, o4].toArray #[true, true, true, true] = [])
    (hs : decide (e1 < a.tmps.size) = true ∧ decide (e2 < a.tmps.size) = true) (hne : e1 ≠ e2 ∧ d1 ≠ e1 ∧ d1 ≠ e2 ∧ d2 ≠ e1 ∧ d2 ≠ e2) (hne2 : s1' ≠ e1 ∧ s1' ≠ e2 ∧ s2' ≠ e1 ∧ s2' ≠ e2)
    (ev : a.eval (.tmp d1) = .pointer (some ⟨ga, 0, none⟩) ∧ a.eval (.tmp d2) = .pointer (some ⟨gb, 0, none⟩) ∧ a.eval (.tmp s1') = .pointer (some ⟨g1, 0, none⟩) ∧ a.eval (.tmp s2') = .pointer (some ⟨g2, 0, none⟩))
    (na : IB w ga 46 A) (nb : IB w gb 46 B) (n1 : IB w g1 46 Z16) (n2 : IB w g2 46 Z16) (lA : A.length = 16) (lB : B.length = 16) (hg : ga ≠ g1 ∧ gb ≠ g1 ∧ g1 ≠ g2)
    (hcont : ∀ w', Keeps (fun k => k = g1 ∨ k = g2) w w' → IB w' g1 46 A → IB w' g2 46 B → Q .normal ((a.put (some e1) (.agg (icells A).toArray)).put (some e2) (.agg (icells B).toArray)) w') :
    (Code.region id [o1, o2, o3, o4].toArray true).wp Tryd.prog Q a w := by
  obtain ⟨q1, q2, q3⟩ := k1
  obtain ⟨p1, p2, p3⟩ := k2
  obtain ⟨z1, z2⟩ := hs
  have z1 := of_decide_eq_true z1
  have z2 := of_decide_eq_true z2
  obtain ⟨y1, y2, y3, y4, y5⟩ := hne
  obtain ⟨t1, t2, t3, t4⟩ := hne2
  obtain ⟨v1, v2, v3, v4⟩ := ev
  obtain ⟨ha1, hb1, h12⟩ := hg
  have off : ∀ {d e : Tmp} (b : Act) (v : Value), d ≠ e → (b.put (some e) v).eval (.tmp d) = b.eval (.tmp d) := fun {d e} b v h => by rw [eval_put_tmp, if_neg (by intro e; exact h (Option.some.inj e.1).symm)]
  have E7 : ∀ v u, ((a.put (some e1) v).put (some e2) u).eval (.tmp e2) = u := fun v u => by rw [eval_put_tmp, if_pos ⟨rfl, by rw [put_size]; exact z2⟩]
  have E3 : ∀ v, (a.put (some e1) v).eval (.tmp e1) = v := fun v => by rw [eval_put_tmp, if_pos ⟨rfl, z1⟩]
  have c0 : ∀ (w' : World), Keeps (fun k => k = g1 ∨ k = g2) w w' → IB w' g1 46 A → IB w' g2 46 Z16 →
      wpAny Tryd.prog .any [o1, o2, o3, o4].toArray Q 1 #[true, true, true, false] ((a.put (some e1) (.agg (icells A).toArray)).put (some e2) (.agg (icells B).toArray)) w' := fun w' hk h1 h2 => by
    refine wpAny_all re (by simp) fun j hj => ?_
    obtain rfl := List.mem_singleton.1 hj
    refine wpOp_storeI rfl s2 (by rw [off _ _ t4, off _ _ t3, v4]) (E7 _ _) h2 lB rfl ?_
    refine wpAny_done rf ?_ 0
    exact hcont _ (hk.trans ⟨rfl, rfl, rfl, by simp, fun k _ h => setRow_other _ _ _ _ (fun e => h (.inr e))⟩) (h1.other h12 _) h2.same
  have keep1 : ∀ w', Keeps (fun k => k = g1 ∨ k = g2) w w' → Keeps (fun k => k = g1 ∨ k = g2) w (w'.setRow g1 (icells A).toArray) := fun w' hk => hk.trans ⟨rfl, rfl, rfl, by simp, fun k _ h => setRow_other _ _ _ _ (fun e => h (.inl e))⟩
  have ma : IB w.drew ga 46 A := na
  have mb : IB w.drew gb 46 B := nb
  have m1 : IB w.drew g1 46 Z16 := n1
  have m2 : IB w.drew g2 46 Z16 := n2
  have k0 : Keeps (fun k => k = g1 ∨ k = g2) w w.drew := (Keeps.refl _ w).drew
  have c1 : wpAny Tryd.prog .any [o1, o2, o3, o4].toArray Q 2 #[true, true, false, false] ((a.put (some e1) (.agg (icells A).toArray)).put (some e2) (.agg (icells B).toArray)) w.drew := by
    refine wpAny_all rc (by simp) fun j hj => ?_
    obtain rfl := List.mem_singleton.1 hj
    refine wpOp_storeI rfl s1 (by rw [off _ _ t2, off _ _ t1, v3]) (by rw [off _ _ y1, E3]) m1 lA rfl ?_
    exact c0 _ (keep1 _ k0) m1.same (m2.other (Ne.symm h12) _)
  refine wp_region_any (by kernel_rfl) ?_
  change wpAny Tryd.prog .any [o1, o2, o3, o4].toArray Q 4 #[false, false, false, false] a w.drew
  refine wpAny_all r0 (by simp) fun j hj => ?_
  rcases List.mem_cons.1 hj with rfl | hj
  · refine wpOp_loadI rfl q2 q1 v1 ma lA ?_
    rw [q3]
    change wpAny Tryd.prog .any [o1, o2, o3, o4].toArray Q 3 #[true, false, false, false] _ _
    refine wpAny_all ra (by simp) fun j hj => ?_
    rcases List.mem_cons.1 hj with rfl | hj
    · refine wpOp_loadI rfl p2 p1 (by rw [off _ _ y4, v2]) mb lB ?_
      rw [p3]
      exact c1
    · obtain rfl := List.mem_singleton.1 hj
      refine wpOp_storeI rfl s1 (by rw [off _ _ t1, v3]) (E3 _) m1 lA rfl ?_
      change wpAny Tryd.prog .any [o1, o2, o3, o4].toArray Q 2 #[true, false, true, false] _ _
      refine wpAny_all rd (by simp) fun j hj => ?_
      obtain rfl := List.mem_singleton.1 hj
      refine wpOp_loadI rfl p2 p1 (by rw [off _ _ y4, v2]) (mb.other hb1 _) lB ?_
      rw [p3]
      exact c0 _ (keep1 _ k0) m1.same (m2.other (Ne.symm h12) _)
  · obtain rfl := List.mem_singleton.1 hj
    refine wpOp_loadI rfl p2 p1 v2 mb lB ?_
    rw [p3]
    change wpAny Tryd.prog .any [o1, o2, o3, o4].toArray Q 3 #[false, true, false, false] _ _
    refine wpAny_all rb (by simp) fun j hj => ?_
    obtain rfl := List.mem_singleton.1 hj
    refine wpOp_loadI rfl q2 q1 (by rw [off _ _ y3, v1]) ma lA ?_
    rw [q3, Act.put_comm (x := some e2) (y := some e1) a _ _ (by intro d h1 h2; exact y1 (by rw [Option.some.inj h1, Option.some.inj h2]))]
    exact c1
/-- What lies ready in 'swap'. -/
structure SW (w wr : World) (A B : List Int) : Prop where
  a : IB wr w.heap.size 46 A
  b : IB wr (w.heap.size + 1) 46 B
  c : IB wr (w.heap.size + 2) 46 Z16
  d : IB wr (w.heap.size + 3) 46 Z16
  e : Ex w wr
theorem SW.start (w : World) (A B : List Int) : SW w ((((w.alloc (.cells (icells A).toArray 46)).alloc (.cells (icells B).toArray 46)).alloc (.cells (icells Z16).toArray 46)).alloc (.cells (icells Z16).toArray 46)) A B := by
  have h := QI.start w A B
  generalize hw : ((w.alloc (.cells (icells A).toArray 46)).alloc (.cells (icells B).toArray 46)).alloc (.cells (icells Z16).toArray 46) = w3 at h ⊢
  have hs : w3.heap.size = w.heap.size + 3 := by rw [← hw]; simp
  have hk : Keeps (fun _ => False) w3 (w3.alloc (.cells (icells Z16).toArray 46)) := (Keeps.refl _ w3).alloc _
  refine ⟨h.n.keep hk (fun h => h), h.m.keep hk (fun h => h), h.r.keep hk (fun h => h), ?_, h.b.alloc (by omega) _⟩
  rw [← hs]
  exact IB.new w3 _

set_option maxHeartbeats 800000 in
set_option maxRecDepth 100000 in
theorem rswap_c (A B : List Int) (b : Nat) (hb : b ≤ 1) (lA : A.length = 16) (lB : B.length = 16) (w : World) :
    Calls Tryd.prog 21 #[.agg (icells A).toArray, .agg (icells B).toArray, .int .i64 (b : Int)] w fun e w' => e = .returned (.tuple #[.agg (icells (if b = 1 then B else A)).toArray, .agg (icells (if b = 1 then A else B)).toArray]) ∧ Ex w w' := by
  have H := hidden (SW.start w A B)
  have HLA := hidden lA
  have HLB := hidden lB
  obtain ⟨zA, _, _⟩ := row16 A lA
  obtain ⟨zB, _, _⟩ := row16 B lB
  have HZA := hidden zA
  have HZB := hidden zB
  clear lA lB zA zB
  rcases (show b = 0 ∨ b = 1 by omega) with rfl | rfl
  · rw [if_neg (by omega), if_neg (by omega)]
    go_enter Tryd.func21, Tryd.ntmps21
    go_upto_region 1 with fail
    change Code.wp _ _ _ _ ((((w.alloc (.cells (icells A).toArray 46)).alloc (.cells (icells B).toArray 46)).alloc (.cells (icells Z16).toArray 46)).alloc (.cells (icells Z16).toArray 46))
    generalize (((w.alloc (.cells (icells A).toArray 46)).alloc (.cells (icells B).toArray 46)).alloc (.cells (icells Z16).toArray 46)).alloc (.cells (icells Z16).toArray 46) = w4 at H ⊢
    rw [show w.heap.size + 1 + 1 = w.heap.size + 2 from rfl, show w.heap.size + 2 + 1 = w.heap.size + 3 from rfl]
    go_wp2_with fail
    refine region_move w.heap.size (w.heap.size + 1) (w.heap.size + 2) (w.heap.size + 3) A B 3 4 6 7 12 13 _ _ _ _ ⟨by kernel_rfl, by kernel_rfl, by kernel_rfl⟩ ⟨by kernel_rfl, by kernel_rfl, by kernel_rfl⟩ (by unfold isStore; kernel_rfl) (by unfold isStore; kernel_rfl) (by kernel_rfl) (by kernel_rfl) (by kernel_rfl) (by kernel_rfl) (by kernel_rfl) (by kernel_rfl) (by kernel_rfl) ⟨by kernel_rfl, by kernel_rfl⟩ (by decide) (by decide) ⟨by kernel_rfl, by kernel_rfl, by kernel_rfl, by kernel_rfl⟩ H.out.a H.out.b H.out.c H.out.d HLA.out HLB.out (by omega) ?_
    intro w5 hk n1 n2
    have HE : Hid (Ex w w5) := Below.trans H.out.e (hk.below (B := w.heap.size) H.out.e.size (by intro k e; omega))
    have M1 := hidden n1
    have M2 := hidden n2
    simp only [Act.put, List.setIfInBounds_toArray, List.set_cons_zero, List.set_cons_succ]
    clear hk n1 n2 H
    go_wp2_with fail
    (try simp only [Exit.inBlock, Exit.then])
    refine bodyPost_ret (results_cell2 rfl _ _ _ (w.heap.size + 2) (w.heap.size + 3) (icells A).toArray (icells B).toArray 46 46 _ rfl rfl M1.out M2.out Tryd.underlying46 rfl HZA.out HZB.out) rfl ?_
    exact ⟨rfl, HE.out⟩
  · rw [if_pos rfl, if_pos rfl]
    go_enter Tryd.func21, Tryd.ntmps21
    go_upto_region 1 with fail
    change Code.wp _ _ _ _ ((((w.alloc (.cells (icells A).toArray 46)).alloc (.cells (icells B).toArray 46)).alloc (.cells (icells Z16).toArray 46)).alloc (.cells (icells Z16).toArray 46))
    generalize (((w.alloc (.cells (icells A).toArray 46)).alloc (.cells (icells B).toArray 46)).alloc (.cells (icells Z16).toArray 46)).alloc (.cells (icells Z16).toArray 46) = w4 at H ⊢
    rw [show w.heap.size + 1 + 1 = w.heap.size + 2 from rfl, show w.heap.size + 2 + 1 = w.heap.size + 3 from rfl]
    go_wp2_with fail
    refine region_move (w.heap.size + 1) w.heap.size (w.heap.size + 2) (w.heap.size + 3) B A 4 3 6 7 10 11 _ _ _ _ ⟨by kernel_rfl, by kernel_rfl, by kernel_rfl⟩ ⟨by kernel_rfl, by kernel_rfl, by kernel_rfl⟩ (by unfold isStore; kernel_rfl) (by unfold isStore; kernel_rfl) (by kernel_rfl) (by kernel_rfl) (by kernel_rfl) (by kernel_rfl) (by kernel_rfl) (by kernel_rfl) (by kernel_rfl) ⟨by kernel_rfl, by kernel_rfl⟩ (by decide) (by decide) ⟨by kernel_rfl, by kernel_rfl, by kernel_rfl, by kernel_rfl⟩ H.out.b H.out.a H.out.c H.out.d HLB.out HLA.out (by omega) ?_
    intro w5 hk n1 n2
    have HE : Hid (Ex w w5) := Below.trans H.out.e (hk.below (B := w.heap.size) H.out.e.size (by intro k e; omega))
    have M1 := hidden n1
    have M2 := hidden n2
    simp only [Act.put, List.setIfInBounds_toArray, List.set_cons_zero, List.set_cons_succ]
    clear hk n1 n2 H
    go_wp2_with fail
    (try simp only [Exit.inBlock, Exit.then])
    refine bodyPost_ret (results_cell2 rfl _ _ _ (w.heap.size + 2) (w.heap.size + 3) (icells B).toArray (icells A).toArray 46 46 _ rfl rfl M1.out M2.out Tryd.underlying46 rfl HZB.out HZA.out) rfl ?_
    exact ⟨rfl, HE.out⟩
end Go.Proofs.YtdgapijgdbhlfaaDoor
