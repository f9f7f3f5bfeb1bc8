/- Rows of payloads, and the walk of AuthPlays. -/
import Derived.Test.YtpildjijaigmfaaAuW
namespace Go.Proofs.Ytpildjijaigmfaa
open Go Go.RowKit

theorem BSl.keepE {S : Nat → Prop} {w w' : World} {v : Value} {xs : List UInt8} (h : BSl w v xs) (hk : Keeps S w w') (hn : xs ≠ [] → ∀ k, v.ownBlock = some k → ¬ S k) : BSl w' v xs := by
  by_cases hx : xs = []
  · subst hx
    obtain ⟨ao, cap, rfl, h1, h2, h3, _⟩ := h
    exact ⟨ao, cap, rfl, h1, h2, h3, fun _ _ hne => absurd rfl hne⟩
  · exact h.keep hk (hn hx)
theorem BSl.ltE {w : World} {v : Value} {xs : List UInt8} (h : BSl w v xs) (hx : xs ≠ []) : ∀ k, v.ownBlock = some k → k < w.heap.size := by
  cases xs with
  | nil => exact absurd rfl hx
  | cons x r => exact h.blockLt
theorem Try.infoBs : (Try.prog.info? 25).map (fun i => (i.zero, i.size, i.bytes)) = some (some (.slice none 0 0), 1, 24) := by kernel_rfl
theorem srcSl {W : World} {B : Nat} {ao : Option Addr} {n c : Nat} (hb : W.heap[B]? = some (.cells #[.slice ao n c] 25 (0, 0))) : Src Try.prog 1 29 (.slice (some ⟨B, 0, none⟩) 1 1) 1 [.slice ao n c] W :=
  Src.ofSlice _ Try.underlying29 ⟨B, 0, none⟩ 1 1 [.slice ao n c] rfl (World.news_of_block (cs := #[.slice ao n c]) (t := 25) (fr := (0, 0)) hb) (by intro u hu; simp at hu; subst hu; rfl)
/-- A row of payloads of one's own, made since W. -/
structure PL (W w : World) (o : Value) (ps : List (List UInt8)) : Prop where
  ex : ∃ vs : List Value, vs.length = ps.length ∧ w.ownsRow W.heap.size 25 1 o ps.length vs ∧ ∀ i, i < ps.length → BSl w (vs.getD i undef) (ps.getD i []) ∧ (ps.getD i [] ≠ [] → ∀ k, (vs.getD i undef).ownBlock = some k → o.ownBlock ≠ some k)
  each : ∀ i, i < ps.length → (ps.getD i []).length ≤ 300
  below : Below W.heap.size W w
theorem PL.nil (W : World) : PL W W (.slice none 0 0) [] := ⟨⟨[], rfl, World.ownsRow_nil _ _ _ _, fun i hi => by simp at hi⟩, fun i hi => by simp at hi, Below.refl _ _⟩
theorem PL.fresh {W w w' : World} {o : Value} {ps : List (List UInt8)} (h : PL W w o ps) (hb : Below w.heap.size w w') : PL W w' o ps := by
  obtain ⟨⟨vs, h1, h2, h3⟩, h4, h5⟩ := h
  exact ⟨⟨vs, h1, (Keeps.ofFresh (S := fun _ => False) hb).row h2 (fun _ _ h => h), fun i hi => ⟨(h3 i hi).1.fresh hb, (h3 i hi).2⟩⟩, h4, h5.trans (hb.mono h5.size)⟩
theorem PL.shape {W w : World} {o : Value} {ps : List (List UInt8)} (h : PL W w o ps) : ∃ ao cap, o = .slice ao ps.length cap := by
  obtain ⟨⟨vs, h1, h2, h3⟩, h4, h5⟩ := h
  exact ownsRow_shape h2
theorem getD_snoc {α : Type} (l : List α) (x d : α) (i : Nat) : (l ++ [x]).getD i d = if i < l.length then l.getD i d else if i = l.length then x else d := by
  simp only [List.getD_eq_getElem?_getD]
  by_cases h : i < l.length
  · rw [if_pos h, List.getElem?_append_left h]
  · rw [if_neg h]
    by_cases e : i = l.length
    · subst e
      simp
    · rw [if_neg e, List.getElem?_append_right (by omega), List.getElem?_eq_none (by simp; omega)]
      rfl
theorem PL.add {W w w1 : World} {o o' v1 : Value} {ps : List (List UInt8)} {vs : List Value} {p : List UInt8} {m : Nat} (h : PL W w o ps) (hvl : vs.length = ps.length) (hvs : w.ownsRow W.heap.size 25 1 o ps.length vs)
    (hve : ∀ i, i < ps.length → BSl w (vs.getD i undef) (ps.getD i []) ∧ (ps.getD i [] ≠ [] → ∀ k, (vs.getD i undef).ownBlock = some k → o.ownBlock ≠ some k))
    (hp : BSl w v1 p) (hl : p.length ≤ 300) (hap : p ≠ [] → ∀ k, v1.ownBlock = some k → o.ownBlock ≠ some k) (hm : m = ps.length + 1)
    (hown : w1.ownsRow W.heap.size 25 1 o' m (vs ++ [v1])) (hgrow : (w.alloc (.cells #[v1] 25)).grownBy w1 o.ownBlock) (hat : o'.ownBlock = o.ownBlock ∨ o'.ownBlock = some (w.heap.size + 1)) : PL W w1 o' (ps ++ [p]) := by
  have hk : Keeps (fun k => o.ownBlock = some k) w w1 := ((Keeps.refl _ w).alloc _).trans (Keeps.ofGrown hgrow (fun k e => e))
  have key : ∀ u x, BSl w u x → (x ≠ [] → ∀ k, u.ownBlock = some k → o.ownBlock ≠ some k) → BSl w1 u x ∧ (x ≠ [] → ∀ k, u.ownBlock = some k → o'.ownBlock ≠ some k) := by
    intro u x h1 h2
    refine ⟨h1.keepE hk (fun hx k e h => h2 hx k e h), fun hx k e e2 => ?_⟩
    rcases hat with h3 | h3
    · exact h2 hx k e (by rw [← h3]; exact e2)
    · have := h1.ltE hx k e
      rw [h3] at e2
      simp at e2
      omega
  subst hm
  refine ⟨⟨vs ++ [v1], by simp [hvl], by rw [List.length_append]; exact hown, fun i hi => ?_⟩, fun i hi => ?_, ?_⟩
  · rw [getD_snoc, getD_snoc, hvl]
    by_cases h1 : i < ps.length
    · rw [if_pos h1, if_pos h1]
      exact key _ _ (hve i h1).1 (hve i h1).2
    · have h2 : i = ps.length := by simp at hi; omega
      rw [if_neg h1, if_neg h1, if_pos h2, if_pos h2]
      exact key _ _ hp hap
  · rw [getD_snoc]
    by_cases h1 : i < ps.length
    · rw [if_pos h1]
      exact h.each i h1
    · have h2 : i = ps.length := by simp at hi; omega
      rw [if_neg h1, if_pos h2]
      exact hl
  · exact (h.below.alloc h.below.size _).grown hgrow (by have := h.below.size; simp; omega) (fun k hk => (hvs.lt k hk).1)
theorem PL.lsl {W w : World} {o : Value} {ps : List (List UInt8)} (h : PL W w o ps) : LSl w o ps := by
  obtain ⟨⟨vs, h1, h2, h3⟩, h4, h5⟩ := h
  rcases id h2.2 with ⟨rfl, e⟩ | ⟨g, cap, cur, rfl, k1, k2, k3, k4, k5, k6⟩
  · exact ⟨none, 0, by rw [e], by omega, by simp [maxLen], fun j hj => by omega⟩
  · refine ⟨_, cap, rfl, k3, k4, fun j hj => ⟨g, 0, _, rfl, ?_, (h3 j hj).1⟩⟩
    have hc := h2.cells (g := g) rfl j (vs.getD j undef) (by simp [List.getElem?_eq_getElem (show j < vs.length by omega)])
    rw [add_lit'] at hc
    exact hc

set_option maxHeartbeats 1600000 in
set_option maxRecDepth 100000 in
theorem authPlays_c (v u : Value) (L : List Usr) (qs : List AskD) (w : World) (hv : USl w v L) (hu : ASl w u qs) :
    Calls Try.prog 4 #[v, u] w fun e w' => e = .returned (.bool true) ∧ Below w.heap.size w w' := by
  obtain ⟨i0, hi, hz0, hz1, hz2⟩ := info_parts Try.infoBs
  have HU := hidden (ub_users L)
  have HA := hidden hu
  have HV := hidden hv
  obtain ⟨ua, uc, rfl, huc, hum, _⟩ := id hu
  obtain ⟨va, vc, rfl, _⟩ := id hv
  unfold maxLen at hum
  clear hu hv
  have HK := hidden known_c
  go_enter Try.func4, Try.ntmps4
  go_wp2_with fail
  go_loopw [5, 6] (fun o i wr => ∃ (j : Nat) (ps : List (List UInt8)), j ≤ qs.length ∧ j ≤ 30 ∧ ps.length = j ∧ i = .int .i64 (j : Int) ∧ PL w wr o ps) (fun _ i _ => 30 - (intOf i).toNat)
  case atStart => exact ⟨0, [], by omega, by omega, rfl, rfl, PL.nil w⟩
  case round =>
    obtain ⟨j, ps, hj, hj30, hpl, rfl, hp⟩ := hrel
    have HP := hidden hp
    have HPS := hidden hpl
    obtain ⟨oa, oc, rfl⟩ := hp.shape
    rw [hpl]
    clear hp hpl
    by_cases hlt : j < qs.length
    · have i1 : (j : Int) < (qs.length : Int) := by omega
      by_cases h30 : j < 30
      · have i2 : (j : Int) < 30 := by omega
        obtain ⟨b, o, rfl, ⟨k0, k1, k2, k3, k4, k5⟩, hbs⟩ := (HA.out.fresh HP.out.below).at j hlt
        have HR0 := hidden (HA.out.row j hlt)
        have HPL := hidden (payL_len qs[j].k qs[j].n qs[j].us qs[j].ps qs[j].nm qs[j].bs)
        have HPC := hidden (payload_c qs[j].k qs[j].n qs[j].us qs[j].ps qs[j].nm qs[j].b qs[j].bs wr hbs)
        unfold askV at HPC
        obtain ⟨ba, bc, eb⟩ := hbs.len
        generalize payL qs[j].k qs[j].n qs[j].us qs[j].ps qs[j].nm qs[j].bs = p at HPL HPC
        generalize qs[j].b = qb at *
        generalize qs[j].bs = qbs at *
        generalize qs[j].k = qk at *
        generalize qs[j].n = qn at *
        generalize qs[j].us = qus at *
        generalize qs[j].ps = qps at *
        generalize qs[j].nm = qnm at *
        subst eb
        generalize hql : qbs.length = qbl at *
        clear hbs hql
        go_wp2_with fail
        refine HPC.out.mono ?_
        rintro e w3 ⟨v3, rfl, hb3, hpo, hbl3⟩
        have HP3 := hidden (HP.out.fresh hbl3)
        obtain ⟨vs, g1, g2, g3⟩ := HP3.out.ex
        have HOL := hidden (fun k e => (HP.out.ex.choose_spec.2.1.lt k e))
        have HV3 := hidden hb3
        have HAP : Hid (p ≠ [] → ∀ k, v3.ownBlock = some k → (Value.slice oa ps.length oc).ownBlock ≠ some k) := hidden fun hx k e e2 => by
          have hr := HOL.out k e2
          rcases hpo k e with h1 | ⟨h1, h2⟩
          · omega
          · have := HR0.out.ltE (h2 hx) k h1
            omega
        have G1 := hidden g1
        have G2 := hidden g2
        have G3 := hidden g3
        have hsz := HP3.out.below.size
        obtain ⟨a3, c3, rfl⟩ := hb3.len
        clear hpo hbl3 g1 g2 g3 hb3 HPC k0 k1 k2 k3 k4 k5 HR0 HOL
        generalize hpn : p.length = pn at HV3 HAP ⊢
        clear hpn
        have G2j := G2
        rw [HPS.out] at G2j
        have HAJ := HAP
        rw [HPS.out] at HAJ
        go_wp2_with (at_builtin; refine wpList_append_src _ rfl (.tmp 17) (.tmp 23) 29 29 rfl w.heap.size 25 i0 _ 24 Try.underlying29 hi hz0 hz1 hz2 rfl (.slice oa j oc) j vs rfl (G2j.out.alloc _) _ 1 _ rfl (srcSl (heap_alloc_new _ _)) (by unfold maxLen; omega) (by omega) (by simp; omega) (w3.heap.size + 1) (by simp) ?_)
        intro v' w4 hown hgrow hnil hat
        rw [← HPS.out] at hgrow hat
        have HP4 := hidden (HP3.out.add (p := p) G1.out G2.out G3.out HV3.out HPL.out HAP.out (by rw [HPS.out]) hown hgrow hat)
        obtain ⟨ao', cp', rfl⟩ := ownsRow_shape hown
        clear hown hgrow hnil hat HV3 HAP G1 G2 G3 HP3 HP G2j HAJ
        go_wp2_with fail
        go_roundw
        case rel => exact ⟨j + 1, ps ++ [p], by omega, by omega, by rw [List.length_append, HPS.out]; rfl, by go_num, HP4.out⟩
        case measure => simp [intOf]; omega
      · have i2 : ¬ (j : Int) < 30 := by omega
        go_wp2_with fail
        refine (users_c _ L wr (HV.out.fresh HP.out.below)).mono ?_
        rintro e w5 ⟨v5, rfl, ho5, hb5⟩
        have HU5 := hidden (USl.ofRow ho5)
        have HOB := hidden (fun k e => (ho5.lt k e).2)
        obtain ⟨a5, c5, rfl⟩ := ownsRow_shape ho5
        have HP5 := hidden (HP.out.fresh hb5)
        have hl5 := HP5.out.lsl
        rw [HPS.out] at hl5
        have HL5 := hidden hl5
        clear ho5 hb5 hl5 HP
        have HPY := hidden (plays_c _ _ (usersL L 5) ps w5 HU.out HU5.out HOB.out HL5.out HP5.out.each)
        generalize (usersL L 5).length = n5 at *
        clear HU5 HOB HL5
        go_wp2_with fail
        refine HPY.out.mono ?_
        rintro e w6 ⟨rfl, hb6⟩
        have HB6 := hidden (HP5.out.below.trans (hb6.mono HP5.out.below.size))
        clear hb6 HP5 HPY
        go_wp2_with fail
        refine (HK.out w6).mono ?_
        rintro e w7 ⟨rfl, hb7⟩
        have HB7 := hidden (HB6.out.trans (hb7.mono HB6.out.size))
        clear hb7 HB6
        go_wp2_with fail
        go_ret
        exact ⟨rfl, HB7.out⟩
    · have i1 : ¬ (j : Int) < (qs.length : Int) := by omega
      go_wp2_with fail
      refine (users_c _ L wr (HV.out.fresh HP.out.below)).mono ?_
      rintro e w5 ⟨v5, rfl, ho5, hb5⟩
      have HU5 := hidden (USl.ofRow ho5)
      have HOB := hidden (fun k e => (ho5.lt k e).2)
      obtain ⟨a5, c5, rfl⟩ := ownsRow_shape ho5
      have HP5 := hidden (HP.out.fresh hb5)
      have hl5 := HP5.out.lsl
      rw [HPS.out] at hl5
      have HL5 := hidden hl5
      clear ho5 hb5 hl5 HP
      have HPY := hidden (plays_c _ _ (usersL L 5) ps w5 HU.out HU5.out HOB.out HL5.out HP5.out.each)
      generalize (usersL L 5).length = n5 at *
      clear HU5 HOB HL5
      go_wp2_with fail
      refine HPY.out.mono ?_
      rintro e w6 ⟨rfl, hb6⟩
      have HB6 := hidden (HP5.out.below.trans (hb6.mono HP5.out.below.size))
      clear hb6 HP5 HPY
      go_wp2_with fail
      refine (HK.out w6).mono ?_
      rintro e w7 ⟨rfl, hb7⟩
      have HB7 := hidden (HB6.out.trans (hb7.mono HB6.out.size))
      clear hb7 HB6
      go_wp2_with fail
      go_ret
      exact ⟨rfl, HB7.out⟩

end Go.Proofs.Ytpildjijaigmfaa
