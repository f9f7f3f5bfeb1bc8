/- The document's hash and Server. -/
import Derived.Test.YtookapglookphaaDoorKxS
import Derived.Test.YtookapglookphaaDoorXpD
import Derived.Test.YtookapglookphaaDoorXqB
namespace Go.Proofs.YtookapglookphaaDoor
open Go Go.RowKit

set_option maxHeartbeats 800000 in
set_option maxRecDepth 100000 in
theorem rhash_c (a1 a2 a3 a4 : Option Addr) (n1 n2 c1 c2 c3 c4 : Nat) (s0 s1 : ByteArray) (vks vqc vqs vk : Value) (i1 i2 ks qc qs k : List UInt8) (h1 : i1.length ≤ 1000) (h2 : i2.length ≤ 1000) (hs0 : s0.size ≤ 1000) (hs1 : s1.size ≤ 1000) (hks : ks.length ≤ 1000) (hqc : qc.length ≤ 1000) (hqs : qs.length ≤ 1000) (hk : k.length ≤ 1000) (w : World) (hv1 : BSl w (.slice a3 i1.length c3) i1) (hv2 : BSl w (.slice a4 i2.length c4) i2) (hvks : BSl w vks ks) (hvqc : BSl w vqc qc) (hvqs : BSl w vqs qs) (hvk : BSl w vk k) :
    Calls Tryd.prog 36 #[.agg #[.slice a1 n1 c1, .slice a2 n2 c2, .string s0, .string s1, .slice a3 i1.length c3, .slice a4 i2.length c4], vks, vqc, vqs, vk] w fun e w' => Fresh w (hashL s0.data.toList s1.data.toList (px5 i1 i2 ks qc qs) k) e w' := by
  have HV1 := hidden hv1
  have HV2 := hidden hv2
  have HKS := hidden hvks
  have HQC := hidden hvqc
  have HQS := hidden hvqs
  have HVK := hidden hvk
  obtain ⟨b1, d1, rfl⟩ := hvks.len
  obtain ⟨b2, d2, rfl⟩ := hvqc.len
  obtain ⟨b3, d3, rfl⟩ := hvqs.len
  obtain ⟨b4, d4, rfl⟩ := hvk.len
  clear hv1 hv2 hvks hvqc hvqs hvk
  obtain ⟨w1, hw1⟩ : ∃ x, x = w.alloc (.cells #[.slice a1 n1 c1, .slice a2 n2 c2, .string s0, .string s1, .slice a3 i1.length c3, .slice a4 i2.length c4] 39) := ⟨_, rfl⟩
  have hb1 : Below w.heap.size w w1 := by rw [hw1]; exact (Below.refl _ w).alloc (Nat.le_refl _) _
  have HB1 := hidden hb1
  go_enter Tryd.func36, Tryd.ntmps36
  go_wp2_with fail
  rw [← hw1]
  clear hw1
  refine (rHash_c s0 s1 (pv5 _ _ _ _ _) (px5 i1 i2 ks qc qs) _ k (by omega) (by omega) (px5_le 1000000 (by omega) (by omega) (by omega) (by omega) (by omega)) (by omega) w1 (pv5_bsl (HV1.out.fresh hb1) (HV2.out.fresh hb1) (HKS.out.fresh hb1) (HQC.out.fresh hb1) (HQS.out.fresh hb1)) (HVK.out.fresh hb1)).mono ?_
  rintro e w2 hf
  obtain ⟨v2, rfl, ho2, hb2⟩ := Fresh.next HB1.out hf
  have HO2 := hidden ho2
  have HB2 := hidden hb2
  clear hf ho2 hb2 hb1
  go_wp2
  go_ret
  exact ⟨v2, rfl, HO2.out, HB2.out⟩

/-- What the document's Server tells. -/
def RSrvPost (w : World) (o : Int × List UInt8 × List UInt8 × List UInt8) (e : Ending) (w' : World) : Prop :=
  Below w.heap.size w w' ∧ ∃ vr vk vh, e = .returned (.tuple #[vr, .agg #[vk, vh], .int .i64 o.1]) ∧ w'.ownsRow w.heap.size 5 1 vr o.2.1.length (bcells o.2.1) ∧ BSl w' vk o.2.2.1 ∧ BSl w' vh o.2.2.2
theorem lt_one {P : Nat → Prop} (h : P 0) : ∀ j, j < 1 → P j := fun j hj => by
  have : j = 0 := by omega
  rw [this]
  exact h
theorem rep_eq (a b c : List UInt8) : [31] ++ textBytes a ++ textBytes b ++ textBytes c = payL 31 (px3 a b c) 3 := by
  simp [payL, joinTo, px3]
set_option maxHeartbeats 1600000 in
set_option maxRecDepth 100000 in
theorem rServer_c (pr pin ic is vi : Value) (s0 s1 : ByteArray) (k p i1 i2 init : List UInt8) (hp : p.length ≤ 1000) (h1 : i1.length ≤ 1000) (h2 : i2.length ≤ 1000) (hs0 : s0.size ≤ 1000) (hs1 : s1.size ≤ 1000) (hin : init.length ≤ 1000000) (w : World) (hs : SideS w pr pin ic is k p i1 i2) (hv : BSl w vi init) (hvb : ∀ q, vi.ownBlock = some q → q < w.heap.size) :
    Calls Tryd.prog 10 #[.agg (sideV pr pin s0 s1 ic is), vi] w (RSrvPost w (srvO k p s0 s1 i1 i2 init)) := by
  have HS := hidden hs
  have HV := hidden hv
  have HVB := hidden hvb
  obtain ⟨a1, c1, e1⟩ := hs.pr.len
  obtain ⟨a2, c2, e2⟩ := hs.pin.len
  obtain ⟨a3, c3, e3⟩ := hs.ic.len
  obtain ⟨a4, c4, e4⟩ := hs.is.len
  obtain ⟨a5, c5, e5⟩ := hv.len
  subst e1 e2 e3 e4 e5
  obtain ⟨o, ho⟩ : ∃ o, o = srvO k p s0 s1 i1 i2 init := ⟨_, rfl⟩
  rw [← ho]
  have HO := hidden ho
  unfold sideV
  clear hs hv ho hvb
  obtain ⟨w2, hw2⟩ : ∃ W, W = (w.alloc (.cells #[.slice a1 k.length c1, .slice a2 p.length c2, .string s0, .string s1, .slice a3 i1.length c3, .slice a4 i2.length c4] 39)).alloc (.cells #[.slice none 0 0, .slice none 0 0] 36) := ⟨_, rfl⟩
  have hx2 := RBox.start w #[.slice a1 k.length c1, .slice a2 p.length c2, .string s0, .string s1, .slice a3 i1.length c3, .slice a4 i2.length c4]
  rw [← hw2] at hx2
  go_enter Tryd.func10, Tryd.ntmps10
  go_wp2_with fail
  rw [← hw2]
  have HX2 := hidden hx2
  obtain ⟨q0, q1, q2, q3, q4, q5⟩ := side_cells hx2.side
  clear hw2 hx2 q1 q2 q3 q4 q5
  have HBc := hidden (rBase_c _ k w2 (HS.out.fresh HX2.out.bel).pr)
  rw [show mulL k nineL = baseL k from rfl] at HBc
  by_cases hk : k.length = 32
  · have HK := hidden hk
    refine HBc.out.mono ?_
    intro e w3 ht
    obtain ⟨am, cm, rfl, hm3⟩ := ht.y hk
    have HX3 := hidden (HX2.out.next ht.b)
    have HM3 := hidden hm3
    have HV3 := hidden (HV.out.fresh HX3.out.bel)
    have HVB3 : Hid (∀ q, (Value.slice a5 init.length c5).ownBlock = some q → q < w3.heap.size) := fun q e => by have := HVB.out q e; have := HX3.out.bel.size; omega
    have HR3 := hidden (RX.start HX3.out HM3.out HV3.out HVB3.out (by omega))
    clear ht hm3 HX2 q0 HBc hk HX3 HM3 HV3 HVB3
    go_wp2_with fail
    generalize w3.alloc (.cells #[.slice a5 init.length c5, .int .i64 0, .bool false, .int .i64 0, .int .i64 0] 67) = w4 at HR3 ⊢
    generalize w3.heap.size = c at HR3 ⊢
    generalize (Value.slice a5 init.length c5).ownBlock = gg at HR3
    refine (qbyte_c w4 HR3.out.rd).mono ?_
    rintro e w5 ⟨rfl, ht5⟩
    have HR5 := hidden (HR3.out.took ht5)
    clear ht5 HR3
    have HWF := hidden (wf_rs 30 1 init)
    have HS0 : Hid (rs init 0 = ((tk init 0 0 1).2.1, (tk init 0 0 1).2.2)) := rfl
    have HVL : Hid (val (tk init 0 0 1).1 < 256) := val_lt _ 1 (tk_len init 0 0 1)
    generalize tk init 0 0 1 = T0 at HR5 HWF HS0 HVL ⊢
    obtain ⟨t0, p0, y0⟩ := T0
    simp only at HR5 HWF HS0 HVL ⊢
    generalize val t0 = kd at HWF HVL ⊢
    have hkd : (kd : Int) < 256 := by have h : kd < 256 := HVL.out; omega
    have HQT := hidden (qtext_c 32 (by omega) (by omega) w5 HR5.out.rd)
    have HS1 : Hid (rs init 1 = ((tx init p0 y0 32).2.1, (tx init p0 y0 32).2.2)) := by show _ = _; rw [rs, HS0.out]
    have HX1 : Hid (rtx init 0 = (tx init p0 y0 32).1) := by show _ = _; rw [rtx, HS0.out]
    generalize tx init p0 y0 32 = T1 at HQT HS1 HX1
    obtain ⟨x1, p1, y1⟩ := T1
    simp only at HQT HS1 HX1
    have HXL : Hid (x1.length ≤ 32) := by show _ ≤ _; rw [← HX1.out]; exact rtx_le _ _
    rw [HS1.out] at HWF
    obtain ⟨S, hS, hSl, hSz⟩ : ∃ S : ByteArray, S = ⟨x1.toArray⟩ ∧ S.data.toList = x1 ∧ S.size = x1.length := ⟨_, rfl, rfl, size_list x1⟩
    rw [← hS] at HQT
    go_wp2_with fail
    refine HQT.out.mono ?_
    rintro e w6 ⟨rfl, ht6⟩
    have HR6 := hidden (HR5.out.took ht6)
    have hcv := run_bytes S w6
    have hbb := bytesW_below w6 S
    have HR7 := hidden (HR6.out.next hbb)
    have HQ7 := hidden (bytes_bsl w6 S (by have := HXL.out; omega))
    have hnf : bytesV w6 S = .slice (some ⟨w6.heap.size, 0, none⟩) S.size (grownCap w6 S.size 0 5) := rfl
    rw [hnf] at hcv HQ7
    rw [hSl] at HQ7
    generalize grownCap w6 S.size 0 5 = cq at hcv HQ7
    generalize bytesW w6 S = w7 at hcv HQ7 HR7
    generalize w6.heap.size = gq at hcv HQ7
    rw [hSz] at hcv HQ7
    clear ht6 HR6 HR5 HQT hbb hnf hS hSl hSz
    have HEI := hidden HWF.out
    by_cases hkd30 : kd = 30
    · have hne1 : ((kd : Int) != 30) = false := by rw [hkd30]; rfl
      go_wp2_with fail
      refine (qfine_c w7 HR7.out.rd).mono ?_
      rintro e w8 ⟨rfl, hk8⟩
      have hb8 : Below w7.heap.size w7 w8 := hk8.below (Nat.le_refl _) (fun k h => absurd h (by simp))
      have HR8 := hidden (HR7.out.next hb8)
      have HQ8 := hidden (HQ7.out.fresh hb8)
      clear hk8 hb8 HR7 HQ7 hcv
      generalize ends init p1 y1 = E at HEI ⊢
      obtain ⟨ey, ep⟩ := E
      simp only at HEI ⊢
      by_cases hey : ey = 0
      · have he0 : (ey == 0) = true := by rw [hey]; rfl
        rw [he0]
        by_cases hx32 : x1.length = 32
        · have hwf : Wf 30 1 init := HEI.out.2 ⟨hkd30, hey, lt_one (by rw [HX1.out]; exact hx32)⟩
          have HPT : Hid (x1 = part init 0) := by show _ = _; rw [← HX1.out]; exact hwf.rtx (by omega)
          have HWf := hidden hwf
          have HX32 := hidden hx32
          rw [hx32] at HQ8 ⊢
          clear hwf hx32 HX1 HEI HWF HXL hey he0 hne1 hkd30 hkd
          have HX8 := hidden HR8.out.box
          have HM8 := hidden HR8.out.mine
          clear HR8
          obtain ⟨q0, q1, q2, q3, q4, q5⟩ := side_cells HX8.out.side
          clear q1 q2 q3 q4 q5
          go_wp2_with fail
          refine (rMul_t _ _ k x1 w8 (HS.out.fresh HX8.out.bel).pr HQ8.out).mono ?_
          intro e w9 ht
          obtain ⟨an, cn, rfl, hn9⟩ := ht.y ⟨HK.out, HX32.out⟩
          have HX9 := hidden (HX8.out.next ht.b)
          have HM9 := hidden (HM8.out.fresh ht.b)
          have HQ9 := hidden (HQ8.out.fresh ht.b)
          have HN9 := hidden hn9
          clear ht hn9 HX8 HM8 HQ8 q0
          go_wp2_with fail
          refine (rbare_c _ (mulL k x1) w9 HN9.out (by rw [mulL_length]; omega)).mono ?_
          rintro e wa ⟨va, rfl, hoa, hba⟩
          obtain ⟨aa, ca, rfl⟩ := ownsRow_shape hoa
          have HXa := hidden (HX9.out.next hba)
          have HMa := hidden (HM9.out.fresh hba)
          have HQa := hidden (HQ9.out.fresh hba)
          have HKa := hidden (BSl.ofRow hoa)
          have HRr : Hid (bare (mulL k x1) = bare (mulL k (part init 0))) := by show _ = _; rw [← HPT.out]
          have HRL : Hid ((bare (mulL k x1)).length ≤ 32) := bare_32
          clear hoa hba HX9 HM9 HQ9 HN9
          generalize bare (mulL k x1) = r at HKa HRr HRL ⊢
          by_cases hre : r = []
          · have HOe : Hid (o = (22, [], [], [])) := by
              show _ = _
              rw [HO.out, srvO, if_pos HK.out, if_pos ((wfB_iff _ _ _).2 HWf.out), if_pos (by rw [← HRr.out]; exact hre)]
            have hz : ((r.length : Int) == 0) = true := by rw [hre]; rfl
            have HD := hidden (HXa.out.done #[.slice none 0 0, .slice none 0 0])
            clear hre HO HMa HQa HKa HRr HRL
            generalize r.length = lr at hz ⊢
            go_wp2_with (first | (refine wpList_store_row rfl 36 (.tmp 5) (.tmp 59) rfl (w.heap.size + 1) #[.slice none 0 0, .slice none 0 0] rfl rfl 36 _ HXa.out.sec (by kernel_rfl) rfl (by simp [Value.oneCell']) ?_))
            refine bodyPost_ret (results_tmpAggTmp rfl _ _ _ (w.heap.size + 1) _ 36 (0, 0) (.slice none 0 0) (.int .i64 22) rfl rfl rfl HD.out.1 Tryd.underlying36 (by kernel_rfl)) rfl ?_
            exact ⟨HD.out.2.1, _, _, _, by rw [HOe.out], by rw [HOe.out]; exact World.ownsRow_nil _ _ _ _, by rw [HOe.out]; exact bsl_none _, by rw [HOe.out]; exact bsl_none _⟩
          · have hz : ((r.length : Int) == 0) = false := by
              have : r.length ≠ 0 := fun h => hre (List.eq_nil_of_length_eq_zero h)
              simp
              omega
            have HOe : Hid (o = (0, repL p (baseL k) (hashK s0 s1 i1 i2 p x1 (baseL k) r), r, hashK s0 s1 i1 i2 p x1 (baseL k) r)) := by
              show _ = _
              rw [HO.out, srvO, if_pos HK.out, if_pos ((wfB_iff _ _ _).2 HWf.out), if_neg (by rw [← HRr.out]; exact hre), ← HRr.out, HPT.out]
            have HBL := hidden (baseL_length k)
            obtain ⟨q0, q1, q2, q3, q4, q5⟩ := side_cells HXa.out.side
            clear q0 q2 q3 q4 q5 hre HO HRr HPT HWf
            generalize baseL k = qs at HMa HOe HBL
            generalize hlr : r.length = lr at HKa HRL hz ⊢
            have HLR := hidden hlr
            clear hlr
            go_wp2_with fail
            refine (rSum_c _ p (by omega) wa (HS.out.fresh HXa.out.bel).pin).mono ?_
            rintro e wb ⟨vb, rfl, hob, hbb⟩
            obtain ⟨ab, cb, rfl⟩ := ownsRow_shape hob
            have HXb := hidden (HXa.out.next hbb)
            have HMb := hidden (HMa.out.fresh hbb)
            have HQb := hidden (HQa.out.fresh hbb)
            have HKb := hidden (HKa.out.fresh hbb)
            have HSb := hidden (BSl.ofRow hob)
            rw [sumL_length] at HSb ⊢
            clear hob hbb HXa HMa HQa HKa q1 hz
            obtain ⟨q0, q1, q2, q3, q4, q5⟩ := side_cells HXb.out.side
            go_wp2_with fail
            refine (rhash_c a1 a2 a3 a4 _ _ c1 c2 c3 c4 s0 s1 _ _ _ _ i1 i2 (sumL p) x1 qs r (by omega) (by omega) (by omega) (by omega) (by rw [sumL_length]; omega) (by rw [HX32.out]; omega) (by rw [HBL.out]; omega) (by rw [HLR.out]; have := HRL.out; omega) wb (HS.out.fresh HXb.out.bel).ic (HS.out.fresh HXb.out.bel).is HSb.out HQb.out HMb.out HKb.out).mono ?_
            rintro e wc ⟨vc, rfl, hoc, hbc⟩
            have HHL : Hid ((hashK s0 s1 i1 i2 p x1 qs r).length = 32) := sumL_length _
            rw [show hashL s0.data.toList s1.data.toList (px5 i1 i2 (sumL p) x1 qs) r = hashK s0 s1 i1 i2 p x1 qs r from rfl] at hoc
            generalize hashK s0 s1 i1 i2 p x1 qs r = Hh at hoc HOe HHL
            obtain ⟨ac, cc, rfl⟩ := ownsRow_shape hoc
            have HXc := hidden (HXb.out.next hbc)
            have HMc := hidden (HMb.out.fresh hbc)
            have HKc := hidden (HKb.out.fresh hbc)
            have HSc := hidden (HSb.out.fresh hbc)
            have HHc := hidden (BSl.ofRow hoc)
            rw [HHL.out] at HHc ⊢
            clear hoc hbc HXb HMb HQb HKb HSb q0 q1 q2 q3 q4 q5
            have hlc : Below wc.heap.size wc (wc.alloc (.cells (bcells [31]).toArray 5)) := (Below.refl _ wc).alloc (Nat.le_refl _) _
            have HLit := hidden (bsl_lit wc [31] (by simp))
            obtain ⟨S1, hS1, hS1l, hS1z⟩ : ∃ S : ByteArray, S = ⟨(sumL p).toArray⟩ ∧ S.data.toList = sumL p ∧ S.size = 32 := ⟨_, rfl, rfl, by rw [size_list, sumL_length]⟩
            have hc1 := run_strK (HSc.out.fresh hlc) hS1
            have HTx1 := hidden (rtext_c S1 (by omega) _ [31] _ HLit.out (by simp; omega))
            rw [hS1l] at HTx1
            change Hid (Calls Tryd.prog 37 #[.slice (some ⟨wc.heap.size, 0, none⟩) 1 1, .string S1] (wc.alloc (.cells #[.int .u8 31] 5)) _) at HTx1
            change (convert 22 9 (.slice ab 32 cb)).run Tryd.prog (wc.alloc (.cells #[.int .u8 31] 5)) = .ok (.string S1) (wc.alloc (.cells #[.int .u8 31] 5)) at hc1
            have HLC := hidden hlc
            clear hS1 hS1l hS1z hlc
            go_wp2_with fail
            refine HTx1.out.mono ?_
            rintro e wd hfd
            obtain ⟨vd, rfl, hod, hbd⟩ := Fresh.next HLC.out hfd
            obtain ⟨ad, cd, rfl⟩ := ownsRow_shape hod
            have HXd := hidden (HXc.out.next hbd)
            have HMd := hidden (HMc.out.fresh hbd)
            have HKd := hidden (HKc.out.fresh hbd)
            have HHd := hidden (HHc.out.fresh hbd)
            have HVd := hidden (BSl.ofRow hod)
            have HLd : Hid (([31] ++ textBytes (sumL p)).length ≤ 100) := by show _ ≤ _; rw [List.length_append, text_len, sumL_length]; simp
            clear hod hbd hfd HLC HTx1 HLit hc1 HXc HMc HKc HHc HSc
            generalize hT1 : [31] ++ textBytes (sumL p) = T1 at HVd HLd ⊢
            obtain ⟨S2, hS2, hS2l, hS2z⟩ : ∃ S : ByteArray, S = ⟨qs.toArray⟩ ∧ S.data.toList = qs ∧ S.size = 32 := ⟨_, rfl, rfl, by rw [size_list, HBL.out]⟩
            have hc2 := run_strK HMd.out hS2
            have HTx2 := hidden (rtext_c S2 (by omega) _ T1 wd HVd.out (by have := HLd.out; omega))
            rw [hS2l] at HTx2
            have HT1 := hidden hT1
            clear hS2 hS2l hS2z hT1
            generalize T1.length = l1 at HVd HLd HTx2 ⊢
            go_wp2_with fail
            refine HTx2.out.mono ?_
            rintro e we ⟨ve, rfl, hoe, hbe⟩
            obtain ⟨ae, ce, rfl⟩ := ownsRow_shape hoe
            have HXe := hidden (HXd.out.next hbe)
            have HKe := hidden (HKd.out.fresh hbe)
            have HHe := hidden (HHd.out.fresh hbe)
            have HVe := hidden (BSl.ofRow hoe)
            have HLe : Hid ((T1 ++ textBytes qs).length ≤ 200) := by show _ ≤ _; rw [List.length_append, text_len, HBL.out, ← HT1.out, List.length_append, text_len, sumL_length]; simp
            clear hoe hbe HTx2 hc2 HXd HMd HKd HHd HVd HLd
            generalize hT2 : T1 ++ textBytes qs = T2 at HVe HLe ⊢
            have HT2 := hidden hT2
            clear hT2
            obtain ⟨q0, q1, q2, q3, q4, q5⟩ := side_cells HXe.out.side
            clear q0 q2 q3 q4 q5
            generalize hl2 : T2.length = l2 at HVe HLe ⊢
            have HL2 := hidden hl2
            clear hl2
            go_wp2_with fail
            refine (rMac_c _ _ p Hh (by omega) (by rw [HHL.out]; omega) we (HS.out.fresh HXe.out.bel).pin HHe.out).mono ?_
            rintro e wf ⟨vf, rfl, hof, hbf⟩
            obtain ⟨af, cf, rfl⟩ := ownsRow_shape hof
            have HXf := hidden (HXe.out.next hbf)
            have HKf := hidden (HKe.out.fresh hbf)
            have HHf := hidden (HHe.out.fresh hbf)
            have HVf := hidden (HVe.out.fresh hbf)
            obtain ⟨S3, hS3, hS3l, hS3z⟩ : ∃ S : ByteArray, S = ⟨(macL p Hh).toArray⟩ ∧ S.data.toList = macL p Hh ∧ S.size = 32 := ⟨_, rfl, rfl, by rw [size_list, macL_length]⟩
            have hc3 := run_strK (BSl.ofRow hof) hS3
            rw [macL_length] at hc3 ⊢
            have HTx3 := hidden (rtext_c S3 (by omega) _ T2 wf HVf.out (by have h1 := HLe.out; have h2 := HL2.out; omega))
            rw [hS3l] at HTx3
            clear hof hbf HXe HKe HHe HVe hS3 hS3l hS3z q1
            go_wp2_with fail
            refine HTx3.out.mono ?_
            rintro e wg ⟨vg, rfl, hog, hbg⟩
            have HXg := hidden (HXf.out.next hbg)
            have HKg := hidden (HKf.out.fresh hbg)
            have HHg := hidden (HHf.out.fresh hbg)
            have HOg : Hid (wg.ownsRow w.heap.size 5 1 vg (repL p qs Hh).length (bcells (repL p qs Hh))) := by
              have e1 : T2 ++ textBytes (macL p Hh) = repL p qs Hh := by rw [← HT2.out, ← HT1.out, rep_eq]; rfl
              rw [e1] at hog
              obtain ⟨vx, hx1, hx2, _⟩ := Fresh.next HXf.out.bel ⟨vg, rfl, hog, hbg⟩
              cases hx1
              exact hx2
            clear hog hbg HXf HKf HHf HVf HTx3 hc3
            have HD := hidden (HXg.out.done #[.slice aa lr ca, .slice ac 32 cc])
            go_wp2_with (first | (refine wpList_store_row rfl 36 (.tmp 5) (.tmp 86) rfl (w.heap.size + 1) #[.slice aa lr ca, .slice ac 32 cc] rfl rfl 36 _ HXg.out.sec (by kernel_rfl) rfl (by simp [Value.oneCell']) ?_))
            refine bodyPost_ret (results_tmpAggTmp rfl _ _ _ (w.heap.size + 1) _ 36 (0, 0) vg (.int .i64 0) rfl rfl rfl HD.out.1 Tryd.underlying36 (by kernel_rfl)) rfl ?_
            exact ⟨HD.out.2.1, _, _, _, by rw [HOe.out], by rw [HOe.out]; exact HD.out.2.2.2 _ _ _ HOg.out, by rw [HOe.out]; exact HD.out.2.2.1 _ _ HKg.out, by rw [HOe.out]; exact HD.out.2.2.1 _ _ HHg.out⟩
        · have hl32 : ((x1.length : Int) != 32) = true := by rw [bne_iff_ne]; omega
          have HOe : Hid (o = (12, [], [], [])) := by
            show _ = _
            rw [HO.out, srvO, if_pos HK.out, if_neg (fun h => hx32 (by rw [← HX1.out]; exact (HEI.out.1 ((wfB_iff _ _ _).1 h)).2.2 0 (by omega)))]
          have HD := hidden (HR8.out.box.done #[.slice none 0 0, .slice none 0 0])
          generalize x1.length = lx at hl32 ⊢
          clear hx32 HEI HWF hey he0 hne1 hkd30 hkd HX1 HXL HO
          go_wp2_with (first | (refine wpList_store_row rfl 36 (.tmp 5) (.tmp 46) rfl (w.heap.size + 1) #[.slice none 0 0, .slice none 0 0] rfl rfl 36 _ HR8.out.box.sec (by kernel_rfl) rfl (by simp [Value.oneCell']) ?_))
          refine bodyPost_ret (results_tmpAggTmp rfl _ _ _ (w.heap.size + 1) _ 36 (0, 0) (.slice none 0 0) (.int .i64 12) rfl rfl rfl HD.out.1 Tryd.underlying36 (by kernel_rfl)) rfl ?_
          exact ⟨HD.out.2.1, _, _, _, by rw [HOe.out], by rw [HOe.out]; exact World.ownsRow_nil _ _ _ _, by rw [HOe.out]; exact bsl_none _, by rw [HOe.out]; exact bsl_none _⟩
      · have he0 : (ey == 0) = false := by simpa using hey
        rw [he0]
        have HOe : Hid (o = (12, [], [], [])) := by
          show _ = _
          rw [HO.out, srvO, if_pos HK.out, if_neg (fun h => hey (HEI.out.1 ((wfB_iff _ _ _).1 h)).2.1)]
        have HD := hidden (HR8.out.box.done #[.slice none 0 0, .slice none 0 0])
        generalize x1.length = lx
        clear HEI HWF hey he0 hne1 hkd30 hkd HX1 HXL HO
        go_wp2_with (first | (refine wpList_store_row rfl 36 (.tmp 5) (.tmp 46) rfl (w.heap.size + 1) #[.slice none 0 0, .slice none 0 0] rfl rfl 36 _ HR8.out.box.sec (by kernel_rfl) rfl (by simp [Value.oneCell']) ?_))
        refine bodyPost_ret (results_tmpAggTmp rfl _ _ _ (w.heap.size + 1) _ 36 (0, 0) (.slice none 0 0) (.int .i64 12) rfl rfl rfl HD.out.1 Tryd.underlying36 (by kernel_rfl)) rfl ?_
        exact ⟨HD.out.2.1, _, _, _, by rw [HOe.out], by rw [HOe.out]; exact World.ownsRow_nil _ _ _ _, by rw [HOe.out]; exact bsl_none _, by rw [HOe.out]; exact bsl_none _⟩
    · have hne1 : ((kd : Int) != 30) = true := by rw [bne_iff_ne]; omega
      have HOe : Hid (o = (12, [], [], [])) := by
        show _ = _
        rw [HO.out, srvO, if_pos HK.out, if_neg (fun h => hkd30 (HEI.out.1 ((wfB_iff _ _ _).1 h)).1)]
      have HD := hidden (HR7.out.box.done #[.slice none 0 0, .slice none 0 0])
      generalize x1.length = lx at hcv
      clear HEI HWF hkd30 HX1 HXL HO
      go_wp2_with (first | (refine wpList_store_row rfl 36 (.tmp 5) (.tmp 46) rfl (w.heap.size + 1) #[.slice none 0 0, .slice none 0 0] rfl rfl 36 _ HR7.out.box.sec (by kernel_rfl) rfl (by simp [Value.oneCell']) ?_))
      refine bodyPost_ret (results_tmpAggTmp rfl _ _ _ (w.heap.size + 1) _ 36 (0, 0) (.slice none 0 0) (.int .i64 12) rfl rfl rfl HD.out.1 Tryd.underlying36 (by kernel_rfl)) rfl ?_
      exact ⟨HD.out.2.1, _, _, _, by rw [HOe.out], by rw [HOe.out]; exact World.ownsRow_nil _ _ _ _, by rw [HOe.out]; exact bsl_none _, by rw [HOe.out]; exact bsl_none _⟩
  · refine HBc.out.mono ?_
    intro e w3 ht
    obtain rfl := ht.n hk
    have HX3 := hidden (HX2.out.next ht.b)
    have HOe : Hid (o = (1, [], [], [])) := by
      show _ = _
      rw [HO.out, srvO, if_neg hk]
    have HD := hidden (HX3.out.done #[.slice none 0 0, .slice none 0 0])
    clear ht hk HO HX2 q0 HBc
    go_wp2_with (first | (refine wpList_store_row rfl 36 (.tmp 5) (.tmp 25) rfl (w.heap.size + 1) #[.slice none 0 0, .slice none 0 0] rfl rfl 36 _ HX3.out.sec (by kernel_rfl) rfl (by simp [Value.oneCell']) ?_))
    refine bodyPost_ret (results_tmpAggTmp rfl _ _ _ (w.heap.size + 1) _ 36 (0, 0) (.slice none 0 0) (.int .i64 1) rfl rfl rfl HD.out.1 Tryd.underlying36 (by kernel_rfl)) rfl ?_
    exact ⟨HD.out.2.1, _, _, _, by rw [HOe.out], by rw [HOe.out]; exact World.ownsRow_nil _ _ _ _, by rw [HOe.out]; exact bsl_none _, by rw [HOe.out]; exact bsl_none _⟩
end Go.Proofs.YtookapglookphaaDoor
