/- kex: Client. -/
import Derived.Test.YtookapglookphaaDoorKxH
namespace Go.Proofs.YtookapglookphaaDoor
open Go Go.RowKit

/-- What Client tells. -/
def CliPost (w : World) (o : Int × List UInt8 × List UInt8) (e : Ending) (w' : World) : Prop :=
  Below w.heap.size w w' ∧ ∃ vk vh, e = .returned (.tuple #[.agg #[vk, vh], .int .i64 o.1]) ∧ BSl w' vk o.2.1 ∧ BSl w' vh o.2.2
set_option maxHeartbeats 1600000 in
set_option maxRecDepth 100000 in
theorem Client_c (pr pin ic is vi : Value) (s0 s1 : ByteArray) (k p i1 i2 reply : List UInt8) (hp : p.length ≤ 1000) (h1 : i1.length ≤ 1000) (h2 : i2.length ≤ 1000) (hs0 : s0.size ≤ 1000) (hs1 : s1.size ≤ 1000) (hin : reply.length ≤ 140737488355328) (w : World) (hr : Rw w) (htp : Tp w) (hs : SideS w pr pin ic is k p i1 i2) (hv : BSl w vi reply) :
    Calls Tryd.prog 9 #[.agg (sideV pr pin s0 s1 ic is), vi] w (CliPost w (cliO k p s0 s1 i1 i2 reply)) := by
  have HS := hidden hs
  have HR := hidden hr
  have HT := hidden htp
  have HV := hidden hv
  obtain ⟨a1, c1, e1⟩ := hs.pr.len
  obtain ⟨a2, c2, e2⟩ := hs.pin.len
  obtain ⟨a3, c3, e3⟩ := hs.ic.len
  obtain ⟨a4, c4, e4⟩ := hs.is.len
  obtain ⟨a5, c5, e5⟩ := hv.len
  subst e1 e2 e3 e4 e5
  obtain ⟨o, ho⟩ : ∃ o, o = cliO k p s0 s1 i1 i2 reply := ⟨_, rfl⟩
  rw [← ho]
  have HO := hidden ho
  unfold sideV
  clear hs hr htp hv ho
  obtain ⟨w2, hw2⟩ : ∃ W, W = (w.alloc (.cells #[.slice a1 k.length c1, .slice a2 p.length c2, .string s0, .string s1, .slice a3 i1.length c3, .slice a4 i2.length c4] 25)).alloc (.cells #[.slice none 0 0, .slice none 0 0] 30) := ⟨_, rfl⟩
  have hx2 := Box.start w #[.slice a1 k.length c1, .slice a2 p.length c2, .string s0, .string s1, .slice a3 i1.length c3, .slice a4 i2.length c4]
  rw [← hw2] at hx2
  go_enter Tryd.func9, Tryd.ntmps9
  go_wp2_with fail
  rw [← hw2]
  have HX2 := hidden hx2
  obtain ⟨q0, q1, q2, q3, q4, q5⟩ := side_cells hx2.side
  clear hw2 hx2 q1 q2 q3 q4 q5
  have HBc := hidden (Base_c _ k w2 (HT.out.fresh HX2.out.bel) (HS.out.fresh HX2.out.bel).pr)
  rw [show mulL k nineL = baseL k from rfl] at HBc
  by_cases hk : k.length = 32
  · have HK := hidden hk
    refine HBc.out.mono ?_
    intro e w3 ht
    obtain ⟨g, rfl, hg, hgc⟩ := ht.y hk
    have HX3 := hidden (HX2.out.next ht.b)
    have HM3 := hidden (BSl.ofBlock hgc (by rw [baseL_length]; omega))
    rw [baseL_length] at HM3
    clear ht hg hgc HX2 q0 HBc hk
    go_wp2_with fail
    refine (textsOf_c 31 3 (by omega) _ reply hin w3 (HV.out.fresh HX3.out.bel)).mono ?_
    intro e w4 ht
    by_cases hwf : Wf 31 3 reply
    · obtain ⟨R, pv, rfl, hR1, hR2, hR3⟩ := ht.y hwf
      have HX4 := hidden (HX3.out.next ht.bel)
      have HM4 := hidden (HM3.out.fresh ht.bel)
      obtain ⟨z0, hz0⟩ := hR3 0 (by omega)
      obtain ⟨z1, hz1⟩ := hR3 1 (by omega)
      obtain ⟨z2, hz2⟩ := hR3 2 (by omega)
      have HP0 := hidden (hwf.part_length (j := 0) (by omega))
      have HP1 := hidden (hwf.part_length (j := 1) (by omega))
      have HP2 := hidden (hwf.part_length (j := 2) (by omega))
      have HWF := hidden hwf
      obtain ⟨b0, d0, e0⟩ := hz0.len
      obtain ⟨b1, d1, e1⟩ := hz1.len
      obtain ⟨b2, d2, e2⟩ := hz2.len
      rw [HP0.out] at e0
      rw [HP1.out] at e1
      rw [HP2.out] at e2
      rw [e0] at z0 hz0
      rw [e1] at z1 hz1
      rw [e2] at z2 hz2
      have HZ0 := hidden hz0
      have HZ1 := hidden hz1
      have HZ2 := hidden hz2
      have HOw : Hid (o = if part reply 0 = sumL p then (if bare (mulL k (part reply 1)) = [] then (22, [], []) else if part reply 2 = macL p (hashK s0 s1 i1 i2 p (baseL k) (part reply 1) (bare (mulL k (part reply 1)))) then (0, bare (mulL k (part reply 1)), hashK s0 s1 i1 i2 p (baseL k) (part reply 1) (bare (mulL k (part reply 1)))) else (24, [], [])) else (24, [], [])) := by
        show _ = _
        rw [HO.out, cliO, if_pos HK.out, if_pos ((wfB_iff _ _ _).2 HWF.out)]
      clear ht hR1 hR2 hR3 HX3 HM3 hwf e0 e1 e2 hz0 hz1 hz2 HO HWF
      generalize part reply 0 = t0 at HP0 HZ0 HOw
      generalize part reply 1 = t1 at HP1 HZ1 HOw
      generalize part reply 2 = t2 at HP2 HZ2 HOw
      have HBL := hidden (baseL_length k)
      generalize baseL k = qc at HM4 HOw HBL
      go_wp2_with fail
      go_quiet (fail)
      have hbq : Below w4.heap.size w4 (w4.drewN nq) := below_drewN (Below.refl _ w4) nq
      have HX5 := hidden (HX4.out.next hbq)
      have HM5 := hidden (HM4.out.fresh hbq)
      have HY0 := hidden (HZ0.out.fresh hbq)
      have HY1 := hidden (HZ1.out.fresh hbq)
      have HY2 := hidden (HZ2.out.fresh hbq)
      clear hbq z0 z1 z2 HZ0 HZ1 HZ2 HX4 HM4
      generalize w4.drewN nq = w5 at HX5 HM5 HY0 HY1 HY2 ⊢
      obtain ⟨q0, q1, q2, q3, q4, q5⟩ := side_cells HX5.out.side
      clear q0 q2 q3 q4 q5
      go_wp2_with fail
      refine (Print_c _ p (by omega) w5 (HR.out.fresh HX5.out.bel) (HS.out.fresh HX5.out.bel).pin).mono ?_
      rintro e w6 ⟨v6, rfl, ho6, hb6⟩
      obtain ⟨a6, c6, rfl⟩ := ownsRow_shape ho6
      have HV6 := hidden (BSl.ofRow ho6)
      rw [sumL_length] at HV6 ⊢
      have HX6 := hidden (HX5.out.next hb6)
      have HM6 := hidden (HM5.out.fresh hb6)
      have HA0 := hidden (HY0.out.fresh hb6)
      have HA1 := hidden (HY1.out.fresh hb6)
      have HA2 := hidden (HY2.out.fresh hb6)
      clear ho6 hb6 HX5 HM5 HY0 HY1 HY2 q1
      go_wp2_with fail
      refine (ksame_c _ _ t0 (sumL p) (by rw [HP0.out, sumL_length]) w6 HA0.out HV6.out).mono ?_
      rintro e w7 ⟨rfl, nq7, rfl⟩
      have hbq : Below w6.heap.size w6 (w6.drewN nq7) := below_drewN (Below.refl _ w6) nq7
      have HX7 := hidden (HX6.out.next hbq)
      have HM7 := hidden (HM6.out.fresh hbq)
      have HB1 := hidden (HA1.out.fresh hbq)
      have HB2 := hidden (HA2.out.fresh hbq)
      clear hbq HX6 HM6 HA0 HA1 HA2 HV6
      generalize w6.drewN nq7 = w7 at HX7 HM7 HB1 HB2 ⊢
      by_cases hh : t0 = sumL p
      · rw [decide_eq_true hh]
        have HOx : Hid (o = if bare (mulL k t1) = [] then (22, [], []) else if t2 = macL p (hashK s0 s1 i1 i2 p qc t1 (bare (mulL k t1))) then (0, bare (mulL k t1), hashK s0 s1 i1 i2 p qc t1 (bare (mulL k t1))) else (24, [], [])) := by
          show _ = _
          rw [HOw.out, if_pos hh]
        clear hh HOw
        obtain ⟨q0, q1, q2, q3, q4, q5⟩ := side_cells HX7.out.side
        clear q1 q2 q3 q4 q5
        go_wp2_with fail
        refine (number_k _ _ k t1 HK.out HP1.out w7 (HT.out.fresh HX7.out.bel) (HS.out.fresh HX7.out.bel).pr HB1.out).mono ?_
        intro e w8 ht
        have HX8 := hidden (HX7.out.next ht.bel)
        have HM8 := hidden (HM7.out.fresh ht.bel)
        have HC1 := hidden (HB1.out.fresh ht.bel)
        have HC2 := hidden (HB2.out.fresh ht.bel)
        obtain ⟨r, hr⟩ : ∃ r, r = bare (mulL k t1) := ⟨_, rfl⟩
        rw [← hr] at ht HOx
        by_cases hre : r = []
        · obtain rfl := ht.n hre
          have HOe : Hid (o = (22, [], [])) := by show _ = _; rw [HOx.out, if_pos hre]
          have HD := hidden (HX8.out.done #[.slice none 0 0, .slice none 0 0])
          clear ht hr hre HX7 HM7 HB1 HB2 HOx q0
          go_wp2_with (first | (refine wpList_store_row rfl 30 (.tmp 4) (.tmp 58) rfl (w.heap.size + 1) #[.slice none 0 0, .slice none 0 0] rfl rfl 30 _ HX8.out.sec (by kernel_rfl) rfl (by simp [Value.oneCell']) ?_))
          refine bodyPost_ret (results_aggTmp rfl _ _ _ (w.heap.size + 1) _ 30 (0, 0) (.int .i64 22) rfl rfl HD.out.1 Tryd.underlying30 (by kernel_rfl)) rfl ?_
          exact ⟨HD.out.2.1, _, _, by rw [HOe.out], by rw [HOe.out]; exact bsl_none _, by rw [HOe.out]; exact bsl_none _⟩
        · obtain ⟨vk, rfl, hvk⟩ := ht.y hre
          have HVK := hidden hvk
          obtain ⟨ak, ck, rfl⟩ := hvk.len
          have HRL : Hid (r.length ≤ 32) := by show _ ≤ _; rw [hr]; exact bare_32
          have HOy : Hid (o = if t2 = macL p (hashK s0 s1 i1 i2 p qc t1 r) then (0, r, hashK s0 s1 i1 i2 p qc t1 r) else (24, [], [])) := by show _ = _; rw [HOx.out, if_neg hre]
          obtain ⟨q0, q1, q2, q3, q4, q5⟩ := side_cells HX8.out.side
          clear ht hr hre HX7 HM7 HB1 HB2 HOx hvk
          go_wp2_with fail
          refine (talk_c _ _ _ _ _ _ s0 s1 k p i1 i2 hp w8 (HR.out.fresh HX8.out.bel) (HS.out.fresh HX8.out.bel) qc t1 HM8.out HC1.out).mono ?_
          rintro e w9 ⟨v9, rfl, hv9, hb9⟩
          have HX9 := hidden (HX8.out.next hb9)
          have HM9 := hidden (HM8.out.fresh hb9)
          have HV9 := hidden hv9
          have HK9 := hidden (HVK.out.fresh hb9)
          have HD1 := hidden (HC1.out.fresh hb9)
          have HD2 := hidden (HC2.out.fresh hb9)
          obtain ⟨a7, c7, rfl⟩ := hv9.len
          clear q0 q1 q2 q3 q4 q5 hv9 hb9 HX8 HM8 HVK HC1 HC2
          go_wp2_with fail
          refine (Hash_c s0 s1 (pv5 _ _ _ _ _) (px5 i1 i2 (sumL p) qc t1) _ r (by omega) (by omega) (px5_le 1000000 (by omega) (by omega) (by rw [sumL_length]; omega) (by rw [HBL.out]; omega) (by rw [HP1.out]; omega)) (by have := HRL.out; omega) w9 (HR.out.fresh HX9.out.bel) (pv5_bsl (HS.out.fresh HX9.out.bel).ic (HS.out.fresh HX9.out.bel).is HV9.out HM9.out HD1.out) HK9.out).mono ?_
          rintro e w10 ⟨v10, rfl, hv10, hb10⟩
          have HX10 := hidden (HX9.out.next hb10)
          have HK10 := hidden (HK9.out.fresh hb10)
          have HE2 := hidden (HD2.out.fresh hb10)
          have HHL : Hid ((hashK s0 s1 i1 i2 p qc t1 r).length = 32) := sumL_length _
          rw [show hashL s0.data.toList s1.data.toList (px5 i1 i2 (sumL p) qc t1) r = hashK s0 s1 i1 i2 p qc t1 r from rfl] at hv10
          generalize hashK s0 s1 i1 i2 p qc t1 r = Hh at hv10 HOy HHL
          obtain ⟨a8, c8, rfl⟩ := ownsRow_shape hv10
          have HV10 := hidden (BSl.ofRow hv10)
          rw [HHL.out] at HV10 ⊢
          clear hv10 hb10 HX9 HM9 HV9 HK9 HD1 HD2
          obtain ⟨q0, q1, q2, q3, q4, q5⟩ := side_cells HX10.out.side
          clear q0 q2 q3 q4 q5
          go_wp2_with fail
          refine (Mac_c _ _ p Hh (by omega) (by rw [HHL.out]; omega) w10 (HR.out.fresh HX10.out.bel) (HS.out.fresh HX10.out.bel).pin HV10.out).mono ?_
          rintro e w11 ⟨v11, rfl, ho11, hb11⟩
          obtain ⟨a9, c9, rfl⟩ := ownsRow_shape ho11
          have HV11 := hidden (BSl.ofRow ho11)
          rw [macL_length] at HV11 ⊢
          have HX11 := hidden (HX10.out.next hb11)
          have HK11 := hidden (HK10.out.fresh hb11)
          have HF2 := hidden (HE2.out.fresh hb11)
          have HVH := hidden (HV10.out.fresh hb11)
          clear ho11 hb11 HX10 HK10 HE2 HV10 q1
          go_wp2_with fail
          refine (ksame_c _ _ t2 (macL p Hh) (by rw [HP2.out, macL_length]) w11 HF2.out HV11.out).mono ?_
          rintro e w12 ⟨rfl, nq12, rfl⟩
          have hbq : Below w11.heap.size w11 (w11.drewN nq12) := below_drewN (Below.refl _ w11) nq12
          have HX12 := hidden (HX11.out.next hbq)
          have HK12 := hidden (HK11.out.fresh hbq)
          have HH12 := hidden (HVH.out.fresh hbq)
          clear hbq HX11 HK11 HF2 HVH HV11
          generalize w11.drewN nq12 = w12 at HX12 HK12 HH12 ⊢
          by_cases hm : t2 = macL p Hh
          · rw [decide_eq_true hm]
            have HOe : Hid (o = (0, r, Hh)) := by show _ = _; rw [HOy.out, if_pos hm]
            have HD := hidden (HX12.out.done #[.slice ak r.length ck, .slice a8 32 c8])
            clear hm HOy
            go_wp2_with (first | (refine wpList_store_row rfl 30 (.tmp 4) (.tmp 76) rfl (w.heap.size + 1) #[.slice ak r.length ck, .slice a8 32 c8] rfl rfl 30 _ HX12.out.sec (by kernel_rfl) rfl (by simp [Value.oneCell']) ?_))
            refine bodyPost_ret (results_aggTmp rfl _ _ _ (w.heap.size + 1) _ 30 (0, 0) (.int .i64 0) rfl rfl HD.out.1 Tryd.underlying30 (by kernel_rfl)) rfl ?_
            exact ⟨HD.out.2.1, _, _, by rw [HOe.out], by rw [HOe.out]; exact HD.out.2.2 _ _ HK12.out, by rw [HOe.out]; exact HD.out.2.2 _ _ HH12.out⟩
          · rw [decide_eq_false hm]
            have HOe : Hid (o = (24, [], [])) := by show _ = _; rw [HOy.out, if_neg hm]
            have HD := hidden (HX12.out.done #[.slice none 0 0, .slice none 0 0])
            clear hm HOy
            go_wp2_with (first | (refine wpList_store_row rfl 30 (.tmp 4) (.tmp 73) rfl (w.heap.size + 1) #[.slice none 0 0, .slice none 0 0] rfl rfl 30 _ HX12.out.sec (by kernel_rfl) rfl (by simp [Value.oneCell']) ?_))
            refine bodyPost_ret (results_aggTmp rfl _ _ _ (w.heap.size + 1) _ 30 (0, 0) (.int .i64 24) rfl rfl HD.out.1 Tryd.underlying30 (by kernel_rfl)) rfl ?_
            exact ⟨HD.out.2.1, _, _, by rw [HOe.out], by rw [HOe.out]; exact bsl_none _, by rw [HOe.out]; exact bsl_none _⟩
      · rw [decide_eq_false hh]
        have HOe : Hid (o = (24, [], [])) := by show _ = _; rw [HOw.out, if_neg hh]
        have HD := hidden (HX7.out.done #[.slice none 0 0, .slice none 0 0])
        clear hh HOw
        go_wp2_with (first | (refine wpList_store_row rfl 30 (.tmp 4) (.tmp 48) rfl (w.heap.size + 1) #[.slice none 0 0, .slice none 0 0] rfl rfl 30 _ HX7.out.sec (by kernel_rfl) rfl (by simp [Value.oneCell']) ?_))
        refine bodyPost_ret (results_aggTmp rfl _ _ _ (w.heap.size + 1) _ 30 (0, 0) (.int .i64 24) rfl rfl HD.out.1 Tryd.underlying30 (by kernel_rfl)) rfl ?_
        exact ⟨HD.out.2.1, _, _, by rw [HOe.out], by rw [HOe.out]; exact bsl_none _, by rw [HOe.out]; exact bsl_none _⟩
    · obtain rfl := ht.n hwf
      have HX4 := hidden (HX3.out.next ht.bel)
      have HOe : Hid (o = (12, [], [])) := by
        show _ = _
        rw [HO.out, cliO, if_pos HK.out, if_neg (fun h => hwf ((wfB_iff _ _ _).1 h))]
      have HD := hidden (HX4.out.done #[.slice none 0 0, .slice none 0 0])
      clear ht hwf HO HX3 HM3
      go_wp2_with (first | (refine wpList_store_row rfl 30 (.tmp 4) (.tmp 31) rfl (w.heap.size + 1) #[.slice none 0 0, .slice none 0 0] rfl rfl 30 _ HX4.out.sec (by kernel_rfl) rfl (by simp [Value.oneCell']) ?_))
      refine bodyPost_ret (results_aggTmp rfl _ _ _ (w.heap.size + 1) _ 30 (0, 0) (.int .i64 12) rfl rfl HD.out.1 Tryd.underlying30 (by kernel_rfl)) rfl ?_
      exact ⟨HD.out.2.1, _, _, by rw [HOe.out], by rw [HOe.out]; exact bsl_none _, by rw [HOe.out]; exact bsl_none _⟩
  · refine HBc.out.mono ?_
    intro e w3 ht
    obtain rfl := ht.n hk
    have HX3 := hidden (HX2.out.next ht.b)
    have HOe : Hid (o = (1, [], [])) := by
      show _ = _
      rw [HO.out, cliO, if_neg hk]
    have HD := hidden (HX3.out.done #[.slice none 0 0, .slice none 0 0])
    clear ht hk HO HX2 q0 HBc
    go_wp2_with (first | (refine wpList_store_row rfl 30 (.tmp 4) (.tmp 22) rfl (w.heap.size + 1) #[.slice none 0 0, .slice none 0 0] rfl rfl 30 _ HX3.out.sec (by kernel_rfl) rfl (by simp [Value.oneCell']) ?_))
    refine bodyPost_ret (results_aggTmp rfl _ _ _ (w.heap.size + 1) _ 30 (0, 0) (.int .i64 1) rfl rfl HD.out.1 Tryd.underlying30 (by kernel_rfl)) rfl ?_
    exact ⟨HD.out.2.1, _, _, by rw [HOe.out], by rw [HOe.out]; exact bsl_none _, by rw [HOe.out]; exact bsl_none _⟩
end Go.Proofs.YtookapglookphaaDoor
