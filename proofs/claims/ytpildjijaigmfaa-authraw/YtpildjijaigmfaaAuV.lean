/- The walk of AuthRaw. -/
import Derived.Test.YtpildjijaigmfaaAuU
namespace Go.Proofs.Ytpildjijaigmfaa
open Go Go.RowKit

set_option maxHeartbeats 3200000 in
set_option maxRecDepth 100000 in
theorem authRaw_c (v u : Value) (L : List Usr) (qs : List (List UInt8)) (bg : Bool) (w : World) (hv : USl w v L) (hu : LSl w u qs) :
    Calls Try.prog 5 #[v, u, .bool bg] w fun e w' => e = .returned (.bool true) ∧ Below w.heap.size w w' := by
  obtain ⟨i0, hi, hz0, hz1, hz2⟩ := info_parts Try.infoBs
  have HU := hidden (ub_users L)
  have HA := hidden hu
  have HV := hidden hv
  obtain ⟨ua, uc, rfl, huc, hum, _⟩ := id hu
  obtain ⟨va, vc, rfl, _⟩ := id hv
  unfold maxLen at hum
  clear hu hv
  have HK := hidden known_c
  have HP1 : Hid (∀ w1 : World, Calls Try.prog 8 #[.agg #[.int .i64 1, .int .i64 0, .string ⟨#[]⟩, .string ⟨#[]⟩, .string ⟨#[]⟩, .slice none 0 0]] w1 fun e w' => PayPost w1 (.slice none 0 0) [] k1L e w') := hidden fun w1 => payload_c 1 0 ⟨#[]⟩ ⟨#[]⟩ ⟨#[]⟩ (.slice none 0 0) [] w1 (bsl_none w1)
  have HKL : Hid (k1L.length ≤ 300) := hidden (payL_len 1 0 ⟨#[]⟩ ⟨#[]⟩ ⟨#[]⟩ [])
  have HLOOP : Hid (∀ (o : Value) (ps0 : List (List UInt8)) (w0 : World), ps0.length ≤ 1 → PL w w0 o ps0 → True) := hidden fun _ _ _ _ _ => trivial
  clear HLOOP
  go_enter Try.func5, Try.ntmps5
  cases bg
  · go_wp2_with fail
    go_loopw [7, 8] (fun o i wr => ∃ (j : Nat) (ps : List (List UInt8)), j ≤ qs.length ∧ j ≤ 30 ∧ ps.length ≤ j + 1 ∧ i = .int .i64 (j : Int) ∧ PL w wr o ps) (fun _ i _ => 30 - (intOf i).toNat)
    case atStart => exact ⟨0, [], by omega, by omega, by simp, rfl, PL.nil w⟩
    case round =>
      obtain ⟨j, ps, hj, hj30, hpl, rfl, hp⟩ := hrel
      have HP := hidden hp
      have HPS := hidden hpl
      obtain ⟨oa, oc, rfl⟩ := hp.shape
      clear hp hpl
      by_cases hlt : j < qs.length
      · have i1 : (j : Int) < (qs.length : Int) := by omega
        by_cases h30 : j < 30
        · have i2 : (j : Int) < 30 := by omega
          obtain ⟨ua', uc', e1, _, _, hrow⟩ := HA.out
          cases e1
          obtain ⟨b, o, x, e2, k1, k2⟩ := hrow j hlt
          subst e2
          generalize qs.getD j [] = q at k2
          have HX0 := hidden k2
          have k1' := (Keeps.ofFresh (S := fun _ => False) HP.out.below).cell k1 (fun h => h)
          have HCU := hidden (cut_c 150 (by omega) x q wr (k2.fresh HP.out.below))
          obtain ⟨xa, xc, ex⟩ := k2.len
          subst ex
          generalize hql : q.length = ql at *
          clear k1 k2 hrow hql
          have HLN := hidden (show ps.length ≤ 31 by have := HPS.out; omega)
          obtain ⟨vs, g1, g2, g3⟩ := HP.out.ex
          have G1 := hidden g1
          have G2 := hidden g2
          have G3 := hidden g3
          have hsz := HP.out.below.size
          clear g1 g2 g3
          generalize hpn : ps.length = pn at *
          have HPN := hidden hpn
          clear hpn
          have hpn31 := HLN.out
          go_wp2_with fail
          refine HCU.out.mono ?_
          rintro e w3 ⟨v3, rfl, hb3, hob, rfl⟩
          have HV3 := hidden hb3
          have HAP : Hid (q.take 150 ≠ [] → ∀ k, v3.ownBlock = some k → (Value.slice oa pn oc).ownBlock ≠ some k) := hidden fun hx k e e2 => by
            have hr := (G2.out.lt k e2).1
            have hq : q ≠ [] := by rintro rfl; exact hx rfl
            have := HX0.out.ltE hq k (by rw [← hob]; exact e)
            omega
          have HPL : Hid ((q.take 150).length ≤ 300) := hidden (by rw [List.length_take]; omega)
          obtain ⟨a3, c3, rfl⟩ := hb3.len
          clear hb3 hob HCU k1' HX0
          generalize q.take 150 = p at HV3 HAP HPL ⊢
          generalize hzn : p.length = zn at HV3 HAP ⊢
          clear hzn
          go_wp2_with (at_builtin; refine wpList_append_src _ rfl (.tmp 25) (.tmp 31) 29 29 rfl w.heap.size 25 i0 _ 24 Try.underlying29 hi hz0 hz1 hz2 rfl (.slice oa pn oc) pn vs rfl (G2.out.alloc _) _ 1 _ rfl (srcSl (heap_alloc_new _ _)) (by unfold maxLen; omega) (by omega) (by simp; omega) (w3.heap.size + 1) (by simp) ?_)
          intro v' w4 hown hgrow hnil hat
          have HP4 : Hid (PL w w4 v' (ps ++ [p])) := hidden (by
            have h0 := HP.out
            have h1 := G1.out
            have h2 := G2.out
            have h3 := G3.out
            have h4 := HAP.out
            rw [← HPN.out] at h0 h1 h2 h3 h4 hgrow hat hown
            exact h0.add (p := p) h1 h2 h3 HV3.out HPL.out h4 rfl hown hgrow hat)
          obtain ⟨ao', cp', rfl⟩ := ownsRow_shape hown
          clear hown hgrow hnil hat HV3 HAP G1 G2 G3 HP
          go_wp2_with fail
          go_roundw
          case rel => exact ⟨j + 1, ps ++ [p], by omega, by omega, by have := HPS.out; have := HPN.out; simp; omega, by go_num, HP4.out⟩
          case measure => simp [intOf]; omega
        · have i2 : ¬ (j : Int) < 30 := by omega
          go_wp2_with fail
          refine (users_c _ L wr (HV.out.fresh HP.out.below)).mono ?_
          rintro e w5 ⟨v5, rfl, ho5, hb5⟩
          have HU5 := hidden (USl.ofRow ho5)
          have HOB := hidden (fun k e => (ho5.lt k e).2)
          obtain ⟨a5, c5, rfl⟩ := ownsRow_shape ho5
          have HP5 := hidden (HP.out.fresh hb5)
          have hl5 := HP5.out.lsl
          have HL5 := hidden hl5
          clear ho5 hb5 hl5 HP
          have HPY := hidden (plays_c _ _ (usersL L 5) ps w5 HU.out HU5.out HOB.out HL5.out HP5.out.each)
          generalize (usersL L 5).length = n5 at *
          clear HU5 HOB HL5
          go_wp2_with fail
          refine HPY.out.mono ?_
          rintro e w6 ⟨rfl, hb6⟩
          have HB6 := hidden (HP5.out.below.trans (hb6.mono HP5.out.below.size))
          clear hb6 HP5 HPY
          go_wp2_with fail
          refine (HK.out w6).mono ?_
          rintro e w7 ⟨rfl, hb7⟩
          have HB7 := hidden (HB6.out.trans (hb7.mono HB6.out.size))
          clear hb7 HB6
          go_wp2_with fail
          go_ret
          exact ⟨rfl, HB7.out⟩
      · have i1 : ¬ (j : Int) < (qs.length : Int) := by omega
        go_wp2_with fail
        refine (users_c _ L wr (HV.out.fresh HP.out.below)).mono ?_
        rintro e w5 ⟨v5, rfl, ho5, hb5⟩
        have HU5 := hidden (USl.ofRow ho5)
        have HOB := hidden (fun k e => (ho5.lt k e).2)
        obtain ⟨a5, c5, rfl⟩ := ownsRow_shape ho5
        have HP5 := hidden (HP.out.fresh hb5)
        have hl5 := HP5.out.lsl
        have HL5 := hidden hl5
        clear ho5 hb5 hl5 HP
        have HPY := hidden (plays_c _ _ (usersL L 5) ps w5 HU.out HU5.out HOB.out HL5.out HP5.out.each)
        generalize (usersL L 5).length = n5 at *
        clear HU5 HOB HL5
        go_wp2_with fail
        refine HPY.out.mono ?_
        rintro e w6 ⟨rfl, hb6⟩
        have HB6 := hidden (HP5.out.below.trans (hb6.mono HP5.out.below.size))
        clear hb6 HP5 HPY
        go_wp2_with fail
        refine (HK.out w6).mono ?_
        rintro e w7 ⟨rfl, hb7⟩
        have HB7 := hidden (HB6.out.trans (hb7.mono HB6.out.size))
        clear hb7 HB6
        go_wp2_with fail
        go_ret
        exact ⟨rfl, HB7.out⟩
  · go_wp2_with fail
    refine (HP1.out w).mono ?_
    rintro e w3 ⟨v3, rfl, hb3, _, hbl3⟩
    have HP3 := hidden ((PL.nil w).fresh hbl3)
    have HV3 := hidden hb3
    obtain ⟨a3, c3, rfl⟩ := hb3.len
    have hsz := hbl3.size
    clear hb3 hbl3
    generalize k1L = p at *
    generalize hzn : p.length = zn at HV3 ⊢
    clear hzn
    go_wp2_with (at_builtin; refine wpList_append_src _ rfl (.tmp 10) (.tmp 13) 29 29 rfl w.heap.size 25 i0 _ 24 Try.underlying29 hi hz0 hz1 hz2 rfl (.slice none 0 0) 0 [] rfl (World.ownsRow_nil _ _ _ _) _ 1 _ rfl (srcSl (heap_alloc_new _ _)) (by unfold maxLen; omega) (by omega) (by simp; omega) (w3.heap.size + 1) (by simp) ?_)
    intro v' w4 hown hgrow hnil hat
    have HP4 : Hid (PL w w4 v' ([] ++ [p])) := hidden (HP3.out.add (p := p) (vs := []) rfl (World.ownsRow_nil _ _ _ _) (fun i hi => by simp at hi) HV3.out HKL.out (fun _ k _ e => by simp [Value.ownBlock] at e) rfl hown hgrow hat)
    obtain ⟨ao', cp', rfl⟩ := ownsRow_shape hown
    clear hown hgrow hnil hat HV3 HP3
    go_wp2_with fail
    go_loopw [7, 8] (fun o i wr => ∃ (j : Nat) (ps : List (List UInt8)), j ≤ qs.length ∧ j ≤ 30 ∧ ps.length ≤ j + 1 ∧ i = .int .i64 (j : Int) ∧ PL w wr o ps) (fun _ i _ => 30 - (intOf i).toNat)
    case atStart => exact ⟨0, [p], by omega, by omega, by simp, rfl, HP4.out⟩
    case round =>
      obtain ⟨j, ps, hj, hj30, hpl, rfl, hp⟩ := hrel
      have HP := hidden hp
      have HPS := hidden hpl
      obtain ⟨oa, oc, rfl⟩ := hp.shape
      clear hp hpl
      by_cases hlt : j < qs.length
      · have i1 : (j : Int) < (qs.length : Int) := by omega
        by_cases h30 : j < 30
        · have i2 : (j : Int) < 30 := by omega
          obtain ⟨ua', uc', e1, _, _, hrow⟩ := HA.out
          cases e1
          obtain ⟨b, o, x, e2, k1, k2⟩ := hrow j hlt
          subst e2
          generalize qs.getD j [] = q at k2
          have HX0 := hidden k2
          have k1' := (Keeps.ofFresh (S := fun _ => False) HP.out.below).cell k1 (fun h => h)
          have HCU := hidden (cut_c 150 (by omega) x q wr (k2.fresh HP.out.below))
          obtain ⟨xa, xc, ex⟩ := k2.len
          subst ex
          generalize hql : q.length = ql at *
          clear k1 k2 hrow hql
          have HLN := hidden (show ps.length ≤ 31 by have := HPS.out; omega)
          obtain ⟨vs, g1, g2, g3⟩ := HP.out.ex
          have G1 := hidden g1
          have G2 := hidden g2
          have G3 := hidden g3
          have hsz := HP.out.below.size
          clear g1 g2 g3
          generalize hpn : ps.length = pn at *
          have HPN := hidden hpn
          clear hpn
          have hpn31 := HLN.out
          go_wp2_with fail
          refine HCU.out.mono ?_
          rintro e w3 ⟨v3, rfl, hb3, hob, rfl⟩
          have HV3 := hidden hb3
          have HAP : Hid (q.take 150 ≠ [] → ∀ k, v3.ownBlock = some k → (Value.slice oa pn oc).ownBlock ≠ some k) := hidden fun hx k e e2 => by
            have hr := (G2.out.lt k e2).1
            have hq : q ≠ [] := by rintro rfl; exact hx rfl
            have := HX0.out.ltE hq k (by rw [← hob]; exact e)
            omega
          have HPL : Hid ((q.take 150).length ≤ 300) := hidden (by rw [List.length_take]; omega)
          obtain ⟨a3, c3, rfl⟩ := hb3.len
          clear hb3 hob HCU k1' HX0
          generalize q.take 150 = p at HV3 HAP HPL ⊢
          generalize hzn : p.length = zn at HV3 HAP ⊢
          clear hzn
          go_wp2_with (at_builtin; refine wpList_append_src _ rfl (.tmp 25) (.tmp 31) 29 29 rfl w.heap.size 25 i0 _ 24 Try.underlying29 hi hz0 hz1 hz2 rfl (.slice oa pn oc) pn vs rfl (G2.out.alloc _) _ 1 _ rfl (srcSl (heap_alloc_new _ _)) (by unfold maxLen; omega) (by omega) (by simp; omega) (w3.heap.size + 1) (by simp) ?_)
          intro v' w4 hown hgrow hnil hat
          have HP4 : Hid (PL w w4 v' (ps ++ [p])) := hidden (by
            have h0 := HP.out
            have h1 := G1.out
            have h2 := G2.out
            have h3 := G3.out
            have h4 := HAP.out
            rw [← HPN.out] at h0 h1 h2 h3 h4 hgrow hat hown
            exact h0.add (p := p) h1 h2 h3 HV3.out HPL.out h4 rfl hown hgrow hat)
          obtain ⟨ao', cp', rfl⟩ := ownsRow_shape hown
          clear hown hgrow hnil hat HV3 HAP G1 G2 G3 HP
          go_wp2_with fail
          go_roundw
          case rel => exact ⟨j + 1, ps ++ [p], by omega, by omega, by have := HPS.out; have := HPN.out; simp; omega, by go_num, HP4.out⟩
          case measure => simp [intOf]; omega
        · have i2 : ¬ (j : Int) < 30 := by omega
          go_wp2_with fail
          refine (users_c _ L wr (HV.out.fresh HP.out.below)).mono ?_
          rintro e w5 ⟨v5, rfl, ho5, hb5⟩
          have HU5 := hidden (USl.ofRow ho5)
          have HOB := hidden (fun k e => (ho5.lt k e).2)
          obtain ⟨a5, c5, rfl⟩ := ownsRow_shape ho5
          have HP5 := hidden (HP.out.fresh hb5)
          have hl5 := HP5.out.lsl
          have HL5 := hidden hl5
          clear ho5 hb5 hl5 HP
          have HPY := hidden (plays_c _ _ (usersL L 5) ps w5 HU.out HU5.out HOB.out HL5.out HP5.out.each)
          generalize (usersL L 5).length = n5 at *
          clear HU5 HOB HL5
          go_wp2_with fail
          refine HPY.out.mono ?_
          rintro e w6 ⟨rfl, hb6⟩
          have HB6 := hidden (HP5.out.below.trans (hb6.mono HP5.out.below.size))
          clear hb6 HP5 HPY
          go_wp2_with fail
          refine (HK.out w6).mono ?_
          rintro e w7 ⟨rfl, hb7⟩
          have HB7 := hidden (HB6.out.trans (hb7.mono HB6.out.size))
          clear hb7 HB6
          go_wp2_with fail
          go_ret
          exact ⟨rfl, HB7.out⟩
      · have i1 : ¬ (j : Int) < (qs.length : Int) := by omega
        go_wp2_with fail
        refine (users_c _ L wr (HV.out.fresh HP.out.below)).mono ?_
        rintro e w5 ⟨v5, rfl, ho5, hb5⟩
        have HU5 := hidden (USl.ofRow ho5)
        have HOB := hidden (fun k e => (ho5.lt k e).2)
        obtain ⟨a5, c5, rfl⟩ := ownsRow_shape ho5
        have HP5 := hidden (HP.out.fresh hb5)
        have hl5 := HP5.out.lsl
        have HL5 := hidden hl5
        clear ho5 hb5 hl5 HP
        have HPY := hidden (plays_c _ _ (usersL L 5) ps w5 HU.out HU5.out HOB.out HL5.out HP5.out.each)
        generalize (usersL L 5).length = n5 at *
        clear HU5 HOB HL5
        go_wp2_with fail
        refine HPY.out.mono ?_
        rintro e w6 ⟨rfl, hb6⟩
        have HB6 := hidden (HP5.out.below.trans (hb6.mono HP5.out.below.size))
        clear hb6 HP5 HPY
        go_wp2_with fail
        refine (HK.out w6).mono ?_
        rintro e w7 ⟨rfl, hb7⟩
        have HB7 := hidden (HB6.out.trans (hb7.mono HB6.out.size))
        clear hb7 HB6
        go_wp2_with fail
        go_ret
        exact ⟨rfl, HB7.out⟩

end Go.Proofs.Ytpildjijaigmfaa
