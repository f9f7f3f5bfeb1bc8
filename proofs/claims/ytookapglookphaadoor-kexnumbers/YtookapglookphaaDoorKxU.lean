/- The document's Client. -/
import Derived.Test.YtookapglookphaaDoorKxT
namespace Go.Proofs.YtookapglookphaaDoor
open Go Go.RowKit

theorem str_eq (s t : ByteArray) : (s.toList == t.toList) = true ↔ s = t := by
  rw [ByteArray.toList_eq, ByteArray.toList_eq, beq_iff_eq]
  exact ⟨fun h => ByteArray.ext (Array.toList_inj.1 h), fun h => h ▸ rfl⟩
theorem str_no {s t : ByteArray} (h : s ≠ t) : (s.toList == t.toList) = false := by
  cases e : s.toList == t.toList with
  | false => rfl
  | true => exact absurd ((str_eq s t).1 e) h
theorem lists_eq {xs ys : List UInt8} {S T : ByteArray} (hS : S = ⟨xs.toArray⟩) (hT : T = ⟨ys.toArray⟩) : S = T ↔ xs = ys := by
  subst hS hT
  constructor
  · intro h
    have := congrArg (fun b : ByteArray => b.data.toList) h
    simpa using this
  · rintro rfl
    rfl
theorem lt_three {P : Nat → Prop} (h0 : P 0) (h1 : P 1) (h2 : P 2) : ∀ j, j < 3 → P j := fun j hj => by
  match j, hj with
  | 0, _ => exact h0
  | 1, _ => exact h1
  | 2, _ => exact h2
/-- A string made to bytes: new bytes. -/
theorem bytes_pkg (S : ByteArray) (xs : List UInt8) (hS : S = ⟨xs.toArray⟩) (hl : xs.length ≤ 1000) (w : World) : ∃ g cap w', (convert 9 22 (.string S)).run Tryd.prog w = .ok (.slice (some ⟨g, 0, none⟩) xs.length cap) w' ∧ BSl w' (.slice (some ⟨g, 0, none⟩) xs.length cap) xs ∧ Below w.heap.size w w' := by
  have hz : S.size = xs.length := by rw [hS]; exact size_list xs
  have hd : S.data.toList = xs := by rw [hS]
  have h1 := run_bytes S w
  have h2 := bytes_bsl w S (by omega)
  have hnf : bytesV w S = .slice (some ⟨w.heap.size, 0, none⟩) S.size (grownCap w S.size 0 5) := rfl
  rw [hnf, hz] at h1 h2
  rw [hd] at h2
  exact ⟨_, _, _, h1, h2, bytesW_below w S⟩
/-- What the document's Client tells. -/
def RCliPost (w : World) (o : Int × List UInt8 × List UInt8) (e : Ending) (w' : World) : Prop :=
  Below w.heap.size w w' ∧ ∃ vk vh, e = .returned (.tuple #[.agg #[vk, vh], .int .i64 o.1]) ∧ BSl w' vk o.2.1 ∧ BSl w' vh o.2.2
set_option maxHeartbeats 3200000 in
set_option maxRecDepth 100000 in
theorem rClient_c (pr pin ic is vi : Value) (s0 s1 : ByteArray) (k p i1 i2 reply : List UInt8) (hp : p.length ≤ 1000) (h1 : i1.length ≤ 1000) (h2 : i2.length ≤ 1000) (hs0 : s0.size ≤ 1000) (hs1 : s1.size ≤ 1000) (hin : reply.length ≤ 1000000) (w : World) (hs : SideS w pr pin ic is k p i1 i2) (hv : BSl w vi reply) (hvb : ∀ q, vi.ownBlock = some q → q < w.heap.size) :
    Calls Tryd.prog 13 #[.agg (sideV pr pin s0 s1 ic is), vi] w (RCliPost w (cliO k p s0 s1 i1 i2 reply)) := by
  have HS := hidden hs
  have HV := hidden hv
  have HVB := hidden hvb
  obtain ⟨a1, c1, e1⟩ := hs.pr.len
  obtain ⟨a2, c2, e2⟩ := hs.pin.len
  obtain ⟨a3, c3, e3⟩ := hs.ic.len
  obtain ⟨a4, c4, e4⟩ := hs.is.len
  obtain ⟨a5, c5, e5⟩ := hv.len
  subst e1 e2 e3 e4 e5
  obtain ⟨o, ho⟩ : ∃ o, o = cliO k p s0 s1 i1 i2 reply := ⟨_, rfl⟩
  rw [← ho]
  have HO := hidden ho
  unfold sideV
  clear hs hv ho hvb
  obtain ⟨w2, hw2⟩ : ∃ W, W = (w.alloc (.cells #[.slice a1 k.length c1, .slice a2 p.length c2, .string s0, .string s1, .slice a3 i1.length c3, .slice a4 i2.length c4] 39)).alloc (.cells #[.slice none 0 0, .slice none 0 0] 36) := ⟨_, rfl⟩
  have hx2 := RBox.start w #[.slice a1 k.length c1, .slice a2 p.length c2, .string s0, .string s1, .slice a3 i1.length c3, .slice a4 i2.length c4]
  rw [← hw2] at hx2
  go_enter Tryd.func13, Tryd.ntmps13
  go_wp2_with fail
  rw [← hw2]
  have HX2 := hidden hx2
  obtain ⟨q0, q1, q2, q3, q4, q5⟩ := side_cells hx2.side
  clear hw2 hx2 q1 q2 q3 q4 q5
  have HBc := hidden (rBase_c _ k w2 (HS.out.fresh HX2.out.bel).pr)
  rw [show mulL k nineL = baseL k from rfl] at HBc
  by_cases hk : k.length = 32
  · have HK := hidden hk
    refine HBc.out.mono ?_
    intro e w3 ht
    obtain ⟨am, cm, rfl, hm3⟩ := ht.y hk
    have HX3 := hidden (HX2.out.next ht.b)
    have HM3 := hidden hm3
    have HV3 := hidden (HV.out.fresh HX3.out.bel)
    have HVB3 : Hid (∀ q, (Value.slice a5 reply.length c5).ownBlock = some q → q < w3.heap.size) := fun q e => by have := HVB.out q e; have := HX3.out.bel.size; omega
    have HR3 := hidden (RX.start HX3.out HM3.out HV3.out HVB3.out (by omega))
    clear ht hm3 HX2 q0 HBc hk HX3 HM3 HV3 HVB3
    go_wp2_with fail
    generalize w3.alloc (.cells #[.slice a5 reply.length c5, .int .i64 0, .bool false, .int .i64 0, .int .i64 0] 67) = w4 at HR3 ⊢
    generalize w3.heap.size = c at HR3 ⊢
    generalize (Value.slice a5 reply.length c5).ownBlock = gg at HR3
    refine (qbyte_c w4 HR3.out.rd).mono ?_
    rintro e w5 ⟨rfl, ht5⟩
    have HR5 := hidden (HR3.out.took ht5)
    clear ht5 HR3
    have HWF := hidden (wf_rs 31 3 reply)
    have HS0 : Hid (rs reply 0 = ((tk reply 0 0 1).2.1, (tk reply 0 0 1).2.2)) := rfl
    have HVL : Hid (val (tk reply 0 0 1).1 < 256) := val_lt _ 1 (tk_len reply 0 0 1)
    generalize tk reply 0 0 1 = T0 at HR5 HWF HS0 HVL ⊢
    obtain ⟨t0, p0, y0⟩ := T0
    simp only at HR5 HWF HS0 HVL ⊢
    generalize val t0 = kd at HWF HVL ⊢
    have hkd : (kd : Int) < 256 := by have h : kd < 256 := HVL.out; omega
    have HQT := hidden (qtext_c 32 (by omega) (by omega) w5 HR5.out.rd)
    have HS1 : Hid (rs reply 1 = ((tx reply p0 y0 32).2.1, (tx reply p0 y0 32).2.2)) := by show _ = _; rw [rs, HS0.out]
    have HX1 : Hid (rtx reply 0 = (tx reply p0 y0 32).1) := by show _ = _; rw [rtx, HS0.out]
    generalize tx reply p0 y0 32 = T1 at HQT HS1 HX1
    obtain ⟨x1, p1, y1⟩ := T1
    simp only at HQT HS1 HX1
    have HXL1 : Hid (x1.length ≤ 32) := by show _ ≤ _; rw [← HX1.out]; exact rtx_le _ _
    obtain ⟨S1, hS1⟩ : ∃ S : ByteArray, S = ⟨x1.toArray⟩ := ⟨_, rfl⟩
    rw [← hS1] at HQT
    have HSS1 := hidden hS1
    have HZ1 : Hid (S1.size = x1.length) := by show _ = _; rw [hS1]; exact size_list x1
    clear hS1
    go_wp2_with fail
    refine HQT.out.mono ?_
    rintro e w6 ⟨rfl, ht6⟩
    have HR6 := hidden (HR5.out.took ht6)
    clear ht6 HR5 HQT
    have HQT := hidden (qtext_c 32 (by omega) (by omega) w6 HR6.out.rd)
    have HS2 : Hid (rs reply 2 = ((tx reply p1 y1 32).2.1, (tx reply p1 y1 32).2.2)) := by show _ = _; rw [rs, HS1.out]
    have HX2 : Hid (rtx reply 1 = (tx reply p1 y1 32).1) := by show _ = _; rw [rtx, HS1.out]
    generalize tx reply p1 y1 32 = T1 at HQT HS2 HX2
    obtain ⟨x2, p2, y2⟩ := T1
    simp only at HQT HS2 HX2
    have HXL2 : Hid (x2.length ≤ 32) := by show _ ≤ _; rw [← HX2.out]; exact rtx_le _ _
    obtain ⟨S2, hS2⟩ : ∃ S : ByteArray, S = ⟨x2.toArray⟩ := ⟨_, rfl⟩
    rw [← hS2] at HQT
    have HSS2 := hidden hS2
    have HZ2 : Hid (S2.size = x2.length) := by show _ = _; rw [hS2]; exact size_list x2
    clear hS2
    go_wp2_with fail
    refine HQT.out.mono ?_
    rintro e w7 ⟨rfl, ht6⟩
    have HR7 := hidden (HR6.out.took ht6)
    clear ht6 HR6 HQT
    have HQT := hidden (qtext_c 32 (by omega) (by omega) w7 HR7.out.rd)
    have HS3 : Hid (rs reply 3 = ((tx reply p2 y2 32).2.1, (tx reply p2 y2 32).2.2)) := by show _ = _; rw [rs, HS2.out]
    have HX3 : Hid (rtx reply 2 = (tx reply p2 y2 32).1) := by show _ = _; rw [rtx, HS2.out]
    generalize tx reply p2 y2 32 = T1 at HQT HS3 HX3
    obtain ⟨x3, p3, y3⟩ := T1
    simp only at HQT HS3 HX3
    have HXL3 : Hid (x3.length ≤ 32) := by show _ ≤ _; rw [← HX3.out]; exact rtx_le _ _
    obtain ⟨S3, hS3⟩ : ∃ S : ByteArray, S = ⟨x3.toArray⟩ := ⟨_, rfl⟩
    rw [← hS3] at HQT
    have HSS3 := hidden hS3
    have HZ3 : Hid (S3.size = x3.length) := by show _ = _; rw [hS3]; exact size_list x3
    clear hS3
    go_wp2_with fail
    refine HQT.out.mono ?_
    rintro e w8 ⟨rfl, ht6⟩
    have HR8 := hidden (HR7.out.took ht6)
    clear ht6 HR7 HQT
    rw [HS3.out] at HWF
    have HEI := hidden HWF.out
    clear HWF
    by_cases hkd31 : kd = 31
    · have hne1 : ((kd : Int) != 31) = false := by rw [hkd31]; rfl
      go_wp2_with fail
      refine (qfine_c w8 HR8.out.rd).mono ?_
      rintro e w9 ⟨rfl, hk8⟩
      have hb8 : Below w8.heap.size w8 w9 := hk8.below (Nat.le_refl _) (fun k h => absurd h (by simp))
      have HR9 := hidden (HR8.out.next hb8)
      clear hk8 hb8 HR8
      generalize ends reply p3 y3 = E at HEI ⊢
      obtain ⟨ey, ep⟩ := E
      simp only at HEI ⊢
      by_cases hey : ey = 0
      · have he0 : (ey == 0) = true := by rw [hey]; rfl
        rw [he0]
        by_cases hx1 : x1.length = 32
        · have hz1 : S1.size = 32 := by rw [HZ1.out]; exact hx1
          have hl1 : ((S1.size : Int) != 32) = false := by rw [hz1]; rfl
          by_cases hx2 : x2.length = 32
          · have hz2 : S2.size = 32 := by rw [HZ2.out]; exact hx2
            have hl2 : ((S2.size : Int) != 32) = false := by rw [hz2]; rfl
            by_cases hx3 : x3.length = 32
            · have hz3 : S3.size = 32 := by rw [HZ3.out]; exact hx3
              have hl3 : ((S3.size : Int) != 32) = false := by rw [hz3]; rfl
              have hwf : Wf 31 3 reply := HEI.out.2 ⟨hkd31, hey, lt_three (by rw [HX1.out]; exact hx1) (by rw [HX2.out]; exact hx2) (by rw [HX3.out]; exact hx3)⟩
              have HPT1 : Hid (x1 = part reply 0) := by show _ = _; rw [← HX1.out]; exact hwf.rtx (by omega)
              have HPT2 : Hid (x2 = part reply 1) := by show _ = _; rw [← HX2.out]; exact hwf.rtx (by omega)
              have HPT3 : Hid (x3 = part reply 2) := by show _ = _; rw [← HX3.out]; exact hwf.rtx (by omega)
              have HOw : Hid (o = if x1 = sumL p then (if bare (mulL k x2) = [] then (22, [], []) else if x3 = macL p (hashK s0 s1 i1 i2 p (baseL k) x2 (bare (mulL k x2))) then (0, bare (mulL k x2), hashK s0 s1 i1 i2 p (baseL k) x2 (bare (mulL k x2))) else (24, [], [])) else (24, [], [])) := by
                show _ = _
                rw [HO.out, cliO, if_pos HK.out, if_pos ((wfB_iff _ _ _).2 hwf), HPT1.out, HPT2.out, HPT3.out]
              have HL1 := hidden hx1
              have HL2 := hidden hx2
              have HL3 := hidden hx3
              have HXa := hidden HR9.out.box
              have HMa := hidden HR9.out.mine
              have HBL := hidden (baseL_length k)
              clear hwf HPT1 HPT2 HPT3 HEI HX1 HX2 HX3 HXL1 HXL2 HXL3 hx1 hx2 hx3 hey he0 hz1 hz2 hz3 HR9 HO HZ1 HZ2 HZ3
              generalize baseL k = qc at HMa HOw HBL
              obtain ⟨q0, q1, q2, q3, q4, q5⟩ := side_cells HXa.out.side
              clear q0 q2 q3 q4 q5
              go_wp2_with fail
              refine (rSum_c _ p (by omega) w9 (HS.out.fresh HXa.out.bel).pin).mono ?_
              rintro e wb ⟨vb, rfl, hob, hbb⟩
              obtain ⟨ab, cb, rfl⟩ := ownsRow_shape hob
              have HXb := hidden (HXa.out.next hbb)
              have HMb := hidden (HMa.out.fresh hbb)
              obtain ⟨SP, hSP⟩ : ∃ S : ByteArray, S = ⟨(sumL p).toArray⟩ := ⟨_, rfl⟩
              have hcP := run_strK (BSl.ofRow hob) hSP
              rw [sumL_length] at hcP ⊢
              have HEQ := hidden (lists_eq HSS1.out hSP)
              clear hob hbb HXa HMa q1 hSP hne1 hl1 hl2 hl3
              by_cases hh : x1 = sumL p
              · have hq : (S1.toList == SP.toList) = true := (str_eq _ _).2 (HEQ.out.2 hh)
                have HOx : Hid (o = if bare (mulL k x2) = [] then (22, [], []) else if x3 = macL p (hashK s0 s1 i1 i2 p qc x2 (bare (mulL k x2))) then (0, bare (mulL k x2), hashK s0 s1 i1 i2 p qc x2 (bare (mulL k x2))) else (24, [], [])) := by show _ = _; rw [HOw.out, if_pos hh]
                have HH := hidden hh
                clear hh HOw HEQ
                obtain ⟨q0, q1, q2, q3, q4, q5⟩ := side_cells HXb.out.side
                clear q1 q2 q3 q4 q5
                obtain ⟨g2, d2, wc, hcv, hvc, hbc⟩ := bytes_pkg S2 x2 HSS2.out (by rw [HL2.out]; omega) wb
                rw [HL2.out] at hcv hvc
                have HXc := hidden (HXb.out.next hbc)
                have HMc := hidden (HMb.out.fresh hbc)
                have HVc := hidden hvc
                clear hvc hbc HXb HMb
                go_wp2_with fail
                refine (rMul_t _ _ k x2 wc (HS.out.fresh HXc.out.bel).pr HVc.out).mono ?_
                intro e wd ht
                obtain ⟨an, cn, rfl, hnd⟩ := ht.y ⟨HK.out, HL2.out⟩
                have HXd := hidden (HXc.out.next ht.b)
                have HMd := hidden (HMc.out.fresh ht.b)
                have HNd := hidden hnd
                clear ht hnd HXc HMc HVc hcv q0 hq hcP
                go_wp2_with fail
                refine (rbare_c _ (mulL k x2) wd HNd.out (by rw [mulL_length]; omega)).mono ?_
                rintro e we ⟨ve, rfl, hoe, hbe⟩
                obtain ⟨ae, ce, rfl⟩ := ownsRow_shape hoe
                have HXe := hidden (HXd.out.next hbe)
                have HMe := hidden (HMd.out.fresh hbe)
                have HKe := hidden (BSl.ofRow hoe)
                have HRL : Hid ((bare (mulL k x2)).length ≤ 32) := bare_32
                clear hoe hbe HXd HMd HNd
                generalize bare (mulL k x2) = r at HKe HRL HOx ⊢
                by_cases hre : r = []
                · have HOe : Hid (o = (22, [], [])) := by show _ = _; rw [HOx.out, if_pos hre]
                  have hz : ((r.length : Int) == 0) = true := by rw [hre]; rfl
                  have HD := hidden (HXe.out.done #[.slice none 0 0, .slice none 0 0])
                  clear hre HOx HMe HKe HRL
                  generalize r.length = lr at hz ⊢
                  go_wp2_with (first | (refine wpList_store_row rfl 36 (.tmp 4) (.tmp 79) rfl (w.heap.size + 1) #[.slice none 0 0, .slice none 0 0] rfl rfl 36 _ HXe.out.sec (by kernel_rfl) rfl (by simp [Value.oneCell']) ?_))
                  refine bodyPost_ret (results_aggTmp rfl _ _ _ (w.heap.size + 1) _ 36 (0, 0) (.int .i64 22) rfl rfl HD.out.1 Tryd.underlying36 (by kernel_rfl)) rfl ?_
                  exact ⟨HD.out.2.1, _, _, by rw [HOe.out], by rw [HOe.out]; exact bsl_none _, by rw [HOe.out]; exact bsl_none _⟩
                · have hz : ((r.length : Int) == 0) = false := by
                    have : r.length ≠ 0 := fun h => hre (List.eq_nil_of_length_eq_zero h)
                    simp
                    omega
                  have HOy : Hid (o = if x3 = macL p (hashK s0 s1 i1 i2 p qc x2 r) then (0, r, hashK s0 s1 i1 i2 p qc x2 r) else (24, [], [])) := by show _ = _; rw [HOx.out, if_neg hre]
                  obtain ⟨q0, q1, q2, q3, q4, q5⟩ := side_cells HXe.out.side
                  obtain ⟨g3, d3, wf, hcf, hvf, hbf⟩ := bytes_pkg S1 x1 HSS1.out (by rw [HL1.out]; omega) we
                  obtain ⟨g4, d4, wg, hcg, hvg, hbg⟩ := bytes_pkg S2 x2 HSS2.out (by rw [HL2.out]; omega) wf
                  rw [HL1.out] at hcf hvf
                  rw [HL2.out] at hcg hvg
                  have hbfg := hbf.trans (hbg.mono hbf.size)
                  have HXg := hidden (HXe.out.next hbfg)
                  have HMg := hidden (HMe.out.fresh hbfg)
                  have HKg := hidden (HKe.out.fresh hbfg)
                  have HVf := hidden (hvf.fresh hbg)
                  have HVg := hidden hvg
                  clear hre HOx hvf hvg hbf hbg hbfg HXe HMe HKe
                  generalize hlr : r.length = lr at HKg HRL hz ⊢
                  have HLR := hidden hlr
                  clear hlr
                  go_wp2_with fail
                  refine (rhash_c a1 a2 a3 a4 _ _ c1 c2 c3 c4 s0 s1 _ _ _ _ i1 i2 x1 qc x2 r (by omega) (by omega) (by omega) (by omega) (by rw [HL1.out]; omega) (by rw [HBL.out]; omega) (by rw [HL2.out]; omega) (by rw [HLR.out]; have := HRL.out; omega) wg (HS.out.fresh HXg.out.bel).ic (HS.out.fresh HXg.out.bel).is HVf.out HMg.out HVg.out HKg.out).mono ?_
                  rintro e wh ⟨vh, rfl, hoh, hbh⟩
                  have HHL : Hid ((hashK s0 s1 i1 i2 p qc x2 r).length = 32) := sumL_length _
                  rw [HH.out, show hashL s0.data.toList s1.data.toList (px5 i1 i2 (sumL p) qc x2) r = hashK s0 s1 i1 i2 p qc x2 r from rfl] at hoh
                  generalize hashK s0 s1 i1 i2 p qc x2 r = Hh at hoh HOy HHL
                  obtain ⟨ah, ch, rfl⟩ := ownsRow_shape hoh
                  have HXh := hidden (HXg.out.next hbh)
                  have HKh := hidden (HKg.out.fresh hbh)
                  have HHh := hidden (BSl.ofRow hoh)
                  rw [HHL.out] at HHh ⊢
                  clear hoh hbh HXg HMg HKg HVf HVg q0 q1 q2 q3 q4 q5 hcf hcg hz
                  obtain ⟨q0, q1, q2, q3, q4, q5⟩ := side_cells HXh.out.side
                  clear q0 q2 q3 q4 q5
                  go_wp2_with fail
                  refine (rMac_c _ _ p Hh (by omega) (by rw [HHL.out]; omega) wh (HS.out.fresh HXh.out.bel).pin HHh.out).mono ?_
                  rintro e wi ⟨vi, rfl, hoi, hbi⟩
                  obtain ⟨ai, ci, rfl⟩ := ownsRow_shape hoi
                  have HXi := hidden (HXh.out.next hbi)
                  have HKi := hidden (HKh.out.fresh hbi)
                  have HHi := hidden (HHh.out.fresh hbi)
                  obtain ⟨SM, hSM⟩ : ∃ S : ByteArray, S = ⟨(macL p Hh).toArray⟩ := ⟨_, rfl⟩
                  have hcM := run_strK (BSl.ofRow hoi) hSM
                  rw [macL_length] at hcM ⊢
                  have HEM := hidden (lists_eq HSS3.out hSM)
                  clear hoi hbi HXh HKh HHh hSM q1
                  by_cases hm : x3 = macL p Hh
                  · have hq : (S3.toList == SM.toList) = true := (str_eq _ _).2 (HEM.out.2 hm)
                    have HOe : Hid (o = (0, r, Hh)) := by show _ = _; rw [HOy.out, if_pos hm]
                    have HD := hidden (HXi.out.done #[.slice ae lr ce, .slice ah 32 ch])
                    clear hm HOy HEM
                    go_wp2_with (first | (refine wpList_store_row rfl 36 (.tmp 4) (.tmp 98) rfl (w.heap.size + 1) #[.slice ae lr ce, .slice ah 32 ch] rfl rfl 36 _ HXi.out.sec (by kernel_rfl) rfl (by simp [Value.oneCell']) ?_))
                    refine bodyPost_ret (results_aggTmp rfl _ _ _ (w.heap.size + 1) _ 36 (0, 0) (.int .i64 0) rfl rfl HD.out.1 Tryd.underlying36 (by kernel_rfl)) rfl ?_
                    exact ⟨HD.out.2.1, _, _, by rw [HOe.out], by rw [HOe.out]; exact HD.out.2.2.1 _ _ HKi.out, by rw [HOe.out]; exact HD.out.2.2.1 _ _ HHi.out⟩
                  · have hq : (S3.toList == SM.toList) = false := str_no (fun h => hm (HEM.out.1 h))
                    have HOe : Hid (o = (24, [], [])) := by show _ = _; rw [HOy.out, if_neg hm]
                    have HD := hidden (HXi.out.done #[.slice none 0 0, .slice none 0 0])
                    clear hm HOy HEM
                    go_wp2_with (first | (refine wpList_store_row rfl 36 (.tmp 4) (.tmp 95) rfl (w.heap.size + 1) #[.slice none 0 0, .slice none 0 0] rfl rfl 36 _ HXi.out.sec (by kernel_rfl) rfl (by simp [Value.oneCell']) ?_))
                    refine bodyPost_ret (results_aggTmp rfl _ _ _ (w.heap.size + 1) _ 36 (0, 0) (.int .i64 24) rfl rfl HD.out.1 Tryd.underlying36 (by kernel_rfl)) rfl ?_
                    exact ⟨HD.out.2.1, _, _, by rw [HOe.out], by rw [HOe.out]; exact bsl_none _, by rw [HOe.out]; exact bsl_none _⟩
              · have hq : (S1.toList == SP.toList) = false := str_no (fun h => hh (HEQ.out.1 h))
                have HOe : Hid (o = (24, [], [])) := by show _ = _; rw [HOw.out, if_neg hh]
                have HD := hidden (HXb.out.done #[.slice none 0 0, .slice none 0 0])
                clear hh HOw HEQ
                go_wp2_with (first | (refine wpList_store_row rfl 36 (.tmp 4) (.tmp 65) rfl (w.heap.size + 1) #[.slice none 0 0, .slice none 0 0] rfl rfl 36 _ HXb.out.sec (by kernel_rfl) rfl (by simp [Value.oneCell']) ?_))
                refine bodyPost_ret (results_aggTmp rfl _ _ _ (w.heap.size + 1) _ 36 (0, 0) (.int .i64 24) rfl rfl HD.out.1 Tryd.underlying36 (by kernel_rfl)) rfl ?_
                exact ⟨HD.out.2.1, _, _, by rw [HOe.out], by rw [HOe.out]; exact bsl_none _, by rw [HOe.out]; exact bsl_none _⟩
            · have hl3 : ((S3.size : Int) != 32) = true := by rw [bne_iff_ne, HZ3.out]; omega
              have HOe : Hid (o = (12, [], [])) := by
                show _ = _
                rw [HO.out, cliO, if_pos HK.out, if_neg (fun h => hx3 (by rw [← HX3.out]; exact (HEI.out.1 ((wfB_iff _ _ _).1 h)).2.2 2 (by omega)))]
              have HD := hidden (HR9.out.box.done #[.slice none 0 0, .slice none 0 0])
              clear HO
              go_wp2_with (first | (refine wpList_store_row rfl 36 (.tmp 4) (.tmp 58) rfl (w.heap.size + 1) #[.slice none 0 0, .slice none 0 0] rfl rfl 36 _ HR9.out.box.sec (by kernel_rfl) rfl (by simp [Value.oneCell']) ?_))
              refine bodyPost_ret (results_aggTmp rfl _ _ _ (w.heap.size + 1) _ 36 (0, 0) (.int .i64 12) rfl rfl HD.out.1 Tryd.underlying36 (by kernel_rfl)) rfl ?_
              exact ⟨HD.out.2.1, _, _, by rw [HOe.out], by rw [HOe.out]; exact bsl_none _, by rw [HOe.out]; exact bsl_none _⟩
          · have hl2 : ((S2.size : Int) != 32) = true := by rw [bne_iff_ne, HZ2.out]; omega
            have HOe : Hid (o = (12, [], [])) := by
              show _ = _
              rw [HO.out, cliO, if_pos HK.out, if_neg (fun h => hx2 (by rw [← HX2.out]; exact (HEI.out.1 ((wfB_iff _ _ _).1 h)).2.2 1 (by omega)))]
            have HD := hidden (HR9.out.box.done #[.slice none 0 0, .slice none 0 0])
            clear HO
            go_wp2_with (first | (refine wpList_store_row rfl 36 (.tmp 4) (.tmp 58) rfl (w.heap.size + 1) #[.slice none 0 0, .slice none 0 0] rfl rfl 36 _ HR9.out.box.sec (by kernel_rfl) rfl (by simp [Value.oneCell']) ?_))
            refine bodyPost_ret (results_aggTmp rfl _ _ _ (w.heap.size + 1) _ 36 (0, 0) (.int .i64 12) rfl rfl HD.out.1 Tryd.underlying36 (by kernel_rfl)) rfl ?_
            exact ⟨HD.out.2.1, _, _, by rw [HOe.out], by rw [HOe.out]; exact bsl_none _, by rw [HOe.out]; exact bsl_none _⟩
        · have hl1 : ((S1.size : Int) != 32) = true := by rw [bne_iff_ne, HZ1.out]; omega
          have HOe : Hid (o = (12, [], [])) := by
            show _ = _
            rw [HO.out, cliO, if_pos HK.out, if_neg (fun h => hx1 (by rw [← HX1.out]; exact (HEI.out.1 ((wfB_iff _ _ _).1 h)).2.2 0 (by omega)))]
          have HD := hidden (HR9.out.box.done #[.slice none 0 0, .slice none 0 0])
          clear HO
          go_wp2_with (first | (refine wpList_store_row rfl 36 (.tmp 4) (.tmp 58) rfl (w.heap.size + 1) #[.slice none 0 0, .slice none 0 0] rfl rfl 36 _ HR9.out.box.sec (by kernel_rfl) rfl (by simp [Value.oneCell']) ?_))
          refine bodyPost_ret (results_aggTmp rfl _ _ _ (w.heap.size + 1) _ 36 (0, 0) (.int .i64 12) rfl rfl HD.out.1 Tryd.underlying36 (by kernel_rfl)) rfl ?_
          exact ⟨HD.out.2.1, _, _, by rw [HOe.out], by rw [HOe.out]; exact bsl_none _, by rw [HOe.out]; exact bsl_none _⟩
      · have he0 : (ey == 0) = false := by simpa using hey
        rw [he0]
        have HOe : Hid (o = (12, [], [])) := by
          show _ = _
          rw [HO.out, cliO, if_pos HK.out, if_neg (fun h => hey (HEI.out.1 ((wfB_iff _ _ _).1 h)).2.1)]
        have HD := hidden (HR9.out.box.done #[.slice none 0 0, .slice none 0 0])
        clear HO
        go_wp2_with (first | (refine wpList_store_row rfl 36 (.tmp 4) (.tmp 58) rfl (w.heap.size + 1) #[.slice none 0 0, .slice none 0 0] rfl rfl 36 _ HR9.out.box.sec (by kernel_rfl) rfl (by simp [Value.oneCell']) ?_))
        refine bodyPost_ret (results_aggTmp rfl _ _ _ (w.heap.size + 1) _ 36 (0, 0) (.int .i64 12) rfl rfl HD.out.1 Tryd.underlying36 (by kernel_rfl)) rfl ?_
        exact ⟨HD.out.2.1, _, _, by rw [HOe.out], by rw [HOe.out]; exact bsl_none _, by rw [HOe.out]; exact bsl_none _⟩
    · have hne1 : ((kd : Int) != 31) = true := by rw [bne_iff_ne]; omega
      have HOe : Hid (o = (12, [], [])) := by
        show _ = _
        rw [HO.out, cliO, if_pos HK.out, if_neg (fun h => hkd31 (HEI.out.1 ((wfB_iff _ _ _).1 h)).1)]
      have HD := hidden (HR8.out.box.done #[.slice none 0 0, .slice none 0 0])
      clear HO
      go_wp2_with (first | (refine wpList_store_row rfl 36 (.tmp 4) (.tmp 58) rfl (w.heap.size + 1) #[.slice none 0 0, .slice none 0 0] rfl rfl 36 _ HR8.out.box.sec (by kernel_rfl) rfl (by simp [Value.oneCell']) ?_))
      refine bodyPost_ret (results_aggTmp rfl _ _ _ (w.heap.size + 1) _ 36 (0, 0) (.int .i64 12) rfl rfl HD.out.1 Tryd.underlying36 (by kernel_rfl)) rfl ?_
      exact ⟨HD.out.2.1, _, _, by rw [HOe.out], by rw [HOe.out]; exact bsl_none _, by rw [HOe.out]; exact bsl_none _⟩
  · refine HBc.out.mono ?_
    intro e w3 ht
    obtain rfl := ht.n hk
    have HX3 := hidden (HX2.out.next ht.b)
    have HOe : Hid (o = (1, [], [])) := by
      show _ = _
      rw [HO.out, cliO, if_neg hk]
    have HD := hidden (HX3.out.done #[.slice none 0 0, .slice none 0 0])
    clear ht hk HO HX2 q0 HBc
    go_wp2_with (first | (refine wpList_store_row rfl 36 (.tmp 4) (.tmp 24) rfl (w.heap.size + 1) #[.slice none 0 0, .slice none 0 0] rfl rfl 36 _ HX3.out.sec (by kernel_rfl) rfl (by simp [Value.oneCell']) ?_))
    refine bodyPost_ret (results_aggTmp rfl _ _ _ (w.heap.size + 1) _ 36 (0, 0) (.int .i64 1) rfl rfl HD.out.1 Tryd.underlying36 (by kernel_rfl)) rfl ?_
    exact ⟨HD.out.2.1, _, _, by rw [HOe.out], by rw [HOe.out]; exact bsl_none _, by rw [HOe.out]; exact bsl_none _⟩
end Go.Proofs.YtookapglookphaaDoor
