/- 'reduce' and 'bytes'. -/
import Derived.Test.YtdgapijgdbhlfaaDoorCuP
import Derived.Test.YtdgapijgdbhlfaaDoorCuH
namespace Go.Proofs.YtdgapijgdbhlfaaDoor
open Go Go.RowKit

theorem wpList_newL {ops : Array Oper} {rest : List Oper} {o o2 : Oper} {a : Act} {w : World} {Q : Exit → Act → World → Prop} {d e : Tmp} {R : List Nat} (hg : o.guard = none ∧ o2.guard = none) (ho : o.op = .alloc 40) (ho2 : o2.op = .store 40 (.tmp d) (.tmp e)) (hd : o.dst = some d) (hd2 : o2.dst = none)
    (hs : decide (d < a.tmps.size) = true) (hv : a.eval (.tmp e) = .agg (ncells .u64 R).toArray) (hl : R.length = 5) (hde : d ≠ e)
    (h : ∀ w', Ex w w' → NB .u64 w' w.heap.size 40 R → wpList Tryd.prog ops Q rest (a.put (some d) (.pointer (some ⟨w.heap.size, 0, none⟩))) w') : wpList Tryd.prog ops Q (o :: o2 :: rest) a w := by
  refine wpList_gives (Φ := fun u w' => u = .pointer (some ⟨w.heap.size, 0, none⟩) ∧ w' = w.alloc (.cells (ncells .u64 [0, 0, 0, 0, 0]).toArray 40)) hg.1 (gives_alloc ho ⟨rfl, rfl⟩) fun u w' ⟨e1, e2⟩ => ?_
  rw [e1, e2, hd]
  obtain ⟨z1, y1, x1⟩ := row_facts R hl
  have hn0 := heap_alloc_new w (.cells (ncells .u64 [0, 0, 0, 0, 0]).toArray 40)
  refine wpList_store_row hg.2 40 _ _ ho2 w.heap.size (ncells .u64 R).toArray ?_ ?_ 40 _ hn0 z1 x1 y1 ?_
  · rw [eval_put_tmp, if_pos ⟨rfl, of_decide_eq_true hs⟩]
  · rw [eval_put_tmp, if_neg (by intro h; exact hde (Option.some.inj h.1)), hv]
  · rw [hd2]
    refine h _ ?_ ?_
    · exact below_setRow (Ex.alloc w _) (Nat.le_refl _) _
    · unfold NB
      rw [setRow_heap _ _ _ _ _ _ hn0]

set_option maxHeartbeats 800000 in
set_option maxRecDepth 100000 in
theorem reduce_c (g : Nat) (L : List Nat) (a : Nat) (hT : Tm L a) (w : World) (h : NB .u64 w g 40 L) :
    Calls Tryd.prog 31 #[.pointer (some ⟨g, 0, none⟩)] w fun e w' => e = .returned (.tuple #[]) ∧ NB .u64 w' g 40 (L51 a) ∧ Keeps (fun k => k = g) w w' := by
  obtain ⟨o, ho, r1, r2⟩ := reduce_val hT
  have hl := hT.len
  have hall := hT.all
  have HA := hidden hall
  have hlt := h.lt
  have H := hidden h
  have HR1 := hidden r1
  have HR2 := hidden r2
  have HSZ : Hid ((Tryd.prog.info? 40).map (·.size) = some (ncells .u64 L).toArray.size) := (row_facts L hl).1
  clear h r1 r2 hT
  go_enter Tryd.func31, Tryd.ntmps31
  have HPP : Hid (w.heap[g]? = some (.cells (ncells .u64 L).toArray 40 (0, 0))) := H.out
  go_upto_region 1 with (first
    | (refine wpList_loadRow rfl 40 (.tmp 5) rfl g (ncells .u64 L).toArray 40 (0, 0) 5 38 rfl HPP.out Tryd.underlying40 HSZ.out ?_)
    | (refine wpList_newL (d := 2) (e := 6) (R := L) ⟨rfl, rfl⟩ rfl rfl rfl rfl (by kernel_rfl) (by kernel_rfl) hl (by decide) ?_; intro w1 hx n1))
  have H1 := hidden (H.out.fresh hx)
  have hc := n1.cell 0 (by omega)
  have hf := n1.frozen 0
  have h00 := hall 0
  have HX := hidden hx
  obtain ⟨s, hs⟩ : ∃ s, s = L.getD 0 0 + 19 := ⟨_, rfl⟩
  have hs2 : ((L.getD 0 0 : Nat) : Int) + 19 = (s : Int) := by omega
  have hsw := m64w s (by omega)
  rw [← hs] at HR1
  have HN1 : Hid (NB .u64 (w1.setCell ⟨w.heap.size, 0, none⟩ (.int .u64 (s : Int))) w.heap.size 40 (L.set 0 s)) := n1.set 0 s
  have HK1 : Hid (Keeps (fun k => k = w.heap.size) w1 (w1.setCell ⟨w.heap.size, 0, none⟩ (.int .u64 (s : Int)))) := (Keeps.refl (fun k => k = w.heap.size) w1).setCell (p := ⟨w.heap.size, 0, none⟩) (.inl rfl) _
  have hb : ∀ i, i < 5 → (L.set 0 s).getD i 0 ≤ 1152921504606846976 := by
    intro i _
    rw [getD_set]
    split
    · omega
    · have := hall i; omega
  have HB := hidden hb
  generalize hx0 : L.getD 0 0 = x0 at hc hs2 h00 HR2
  have HX0 := hidden hx0
  have HHS := hidden hs
  clear hb n1 hx hall H HPP hx0 hs
  go_upto_region 2 with fail
  generalize w1.setCell ⟨w.heap.size, 0, none⟩ (.int .u64 (s : Int)) = w2 at HN1 HK1 ⊢
  have HC := hidden (carry_c w.heap.size (L.set 0 s) (by rw [List.length_set]; exact hl) HB.out w2 HN1.out)
  rw [HR1.out] at HC
  clear hc hf hs2 hsw
  go_wp2_with fail
  refine HC.out.mono ?_
  rintro e w3 ⟨rfl, hn3, hk3⟩
  have HK3 : Hid (Keeps (fun k => k = w.heap.size) w1 w3) := HK1.out.trans hk3
  have H3 := hidden (H1.out.keep HK3.out (by omega))
  have hc := H3.out.cell 0 (by omega)
  rw [HX0.out] at hc
  have hf := H3.out.frozen 0
  obtain ⟨t, ht⟩ : ∃ t, t = x0 + 19 * o := ⟨_, rfl⟩
  obtain ⟨z, hz⟩ : ∃ z, z = 19 * o := ⟨_, rfl⟩
  rw [← ht] at HR2
  have hz2 : 19 * (o : Int) = (z : Int) := by omega
  have hzw := m64w z (by omega)
  have ht2 : (x0 : Int) + (z : Int) = (t : Int) := by omega
  have htw := m64w t (by omega)
  have HT : Hid (t ≤ 1152921504606846976) := by show _ ≤ _; omega
  clear hn3 hk3 HC HK1 HN1 H1 HR1 ht hz
  go_wp2_with fail
  go_region
  have HN4 : Hid (NB .u64 (w3.setCell ⟨g, 0, none⟩ (.int .u64 (t : Int))).drew g 40 (L.set 0 t)) := H3.out.set 0 t
  have HK4 : Hid (Keeps (fun k => k = g) w3 (w3.setCell ⟨g, 0, none⟩ (.int .u64 (t : Int))).drew) := ((Keeps.refl (fun k => k = g) w3).setCell (p := ⟨g, 0, none⟩) (.inl rfl) _).drew
  have hb : ∀ i, i < 5 → (L.set 0 t).getD i 0 ≤ 1152921504606846976 := by
    intro i _
    rw [getD_set]
    split
    · exact HT.out
    · have := HA.out i; omega
  have HB2 := hidden hb
  clear hb hc hf hz2 hzw ht2 htw H3
  generalize (w3.setCell ⟨g, 0, none⟩ (.int .u64 (t : Int))).drew = w4 at HN4 HK4 ⊢
  have HC := hidden (carry_c g (L.set 0 t) (by rw [List.length_set]; exact hl) HB2.out w4 HN4.out)
  rw [HR2.out] at HC
  generalize (cyTo (L.set 0 t) 5).2 = oo at HC
  go_wp2_with fail
  refine HC.out.mono ?_
  rintro e w5 ⟨rfl, hn5, hk5⟩
  have HK5 : Hid (Keeps (fun k => k = g) w w5) := by
    have k1 : Keeps (fun k => k = g ∨ k = w.heap.size) w w5 := ((Keeps.ofFresh HX.out).trans (HK3.out.mono fun k _ e => .inr e)).trans ((HK4.out.trans hk5).mono fun k _ e => .inl e)
    exact k1.mono fun k hk e => e.resolve_right (by omega)
  have HN5 := hidden hn5
  clear hn5 hk5 HC
  go_wp2
  go_end0
  exact ⟨rfl, HN5.out, HK5.out⟩
end Go.Proofs.YtdgapijgdbhlfaaDoor
