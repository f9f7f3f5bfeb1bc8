/- The walk of the law CurveBoth. -/
import Derived.Test.YtdgapijgdbhlfaaDoorCvP
namespace Go.Proofs.YtdgapijgdbhlfaaDoor
open Go Go.RowKit

set_option maxHeartbeats 1600000 in
set_option maxRecDepth 100000 in
theorem curveBoth_c (v0 v1 : Value) (z0 z1 : List UInt8) (lo hi : UInt8) (w : World) (htp : Tp w) (h0 : BSl w v0 z0) (h1 : BSl w v1 z1) :
    Calls Tryd.prog 5 #[v0, v1, .int .u8 (lo.toNat : Nat), .int .u8 (hi.toNat : Nat)] w fun e w' => e = .returned (.bool true) ∧ Below w.heap.size w w' := by
  have HTP := hidden htp
  have HS0 := hidden (sized_c 32 (by omega) v0 z0 w h0)
  have HQ1 := hidden h1
  obtain ⟨a0, n0, rfl⟩ := h0.len
  obtain ⟨a1, n1, rfl⟩ := h1.len
  have HWP : Hid (0 < w.heap.size) := htp.1
  clear h0 h1 htp
  go_enter Tryd.func5, Tryd.ntmps5
  go_wp2_with fail
  refine HS0.out.mono ?_
  rintro e w1 ⟨rfl, hk, hb⟩
  have hkl := sizedL_length z0 32
  generalize sizedL z0 32 = A at hk hkl
  have HLA := hidden hkl
  replace HQ1 := hidden (HQ1.out.fresh hb)
  replace HTP := hidden (HTP.out.fresh hb)
  have HA := hidden (ORow.ofBlockV hk hkl)
  have HE0 : Hid (Ex w w1) := hb
  have HS1 := hidden (sized_c 32 (by omega) _ z1 w1 HQ1.out)
  clear HS0 hk hkl hb
  go_wp2_with fail
  refine HS1.out.mono ?_
  rintro e w2 ⟨rfl, hk, hb⟩
  have hkl := sizedL_length z1 32
  generalize sizedL z1 32 = B at hk hkl
  have HLB := hidden hkl
  replace HA := hidden (HA.out.freshV hb)
  replace HTP := hidden (HTP.out.fresh hb)
  have HB := hidden (ORow.ofBlockV hk hkl)
  replace HE0 := hidden (Ex.trans HE0.out hb)
  clear HS1 hk hkl hb HQ1
  generalize w1.heap.size = g1 at HB ⊢
  have HK := hidden (Base_y _ A HLA.out w2 HTP.out (HA.out.bsl32 HLA.out))
  go_wp2_with fail
  refine HK.out.mono ?_
  rintro e w3 ⟨gP, rfl, hgP, hr, _, hb⟩
  obtain ⟨P, hP⟩ : ∃ x, x = mulL A nineL := ⟨_, rfl⟩
  rw [← hP] at hr
  have HLP : Hid (P.length = 32) := by show _ = _; rw [hP]; exact mulL_length _ _
  have HEP := hidden hP
  have HGP := hidden hgP
  clear HK
  replace HA := hidden (HA.out.freshV hb)
  replace HB := hidden (HB.out.freshV hb)
  replace HTP := hidden (HTP.out.fresh hb)
  have HP := hidden (ORow.ofBlockV hr HLP.out)
  replace HE0 := hidden (Ex.trans HE0.out hb)
  clear hr hb hP hgP
  have HK := hidden (Base_y _ B HLB.out w3 HTP.out (HB.out.bsl32 HLB.out))
  go_wp2_with fail
  refine HK.out.mono ?_
  rintro e w4 ⟨gQ, rfl, hgQ, hr, _, hb⟩
  obtain ⟨Q, hQ⟩ : ∃ x, x = mulL B nineL := ⟨_, rfl⟩
  rw [← hQ] at hr
  have HLQ : Hid (Q.length = 32) := by show _ = _; rw [hQ]; exact mulL_length _ _
  have HEQ := hidden hQ
  have HGQ := hidden hgQ
  clear HK
  have HAQ : Hid (¬ w.heap.size = gQ) := by have := HA.out.lt; show ¬ _; omega
  have HTQ : Hid (¬ 0 = gQ) := by have := HTP.out.1; show ¬ _; omega
  have HWQ : Hid (w.heap.size ≤ gQ) := by have := HE0.out.size; show _ ≤ _; omega
  replace HA := hidden (HA.out.freshV hb)
  replace HB := hidden (HB.out.freshV hb)
  replace HP := hidden (HP.out.freshV hb)
  replace HTP := hidden (HTP.out.fresh hb)
  have HQ := hidden (ORow.ofBlockV hr HLQ.out)
  replace HE0 := hidden (Ex.trans HE0.out hb)
  clear hr hb hQ hgQ
  have HK := hidden (Mul_y _ _ A Q HLA.out HLQ.out w4 HTP.out (HA.out.bsl32 HLA.out) (HQ.out.bsl32 HLQ.out))
  go_wp2_with fail
  refine HK.out.mono ?_
  rintro e w5 ⟨gX, rfl, hgX, hr, _, hb⟩
  obtain ⟨X, hX⟩ : ∃ x, x = mulL A Q := ⟨_, rfl⟩
  rw [← hX] at hr
  have HLX : Hid (X.length = 32) := by show _ = _; rw [hX]; exact mulL_length _ _
  have HEX := hidden hX
  have HGX := hidden hgX
  clear HK
  have HXQ : Hid (¬ gX = gQ) := by have := HQ.out.lt; show ¬ _; omega
  replace HA := hidden (HA.out.freshV hb)
  replace HB := hidden (HB.out.freshV hb)
  replace HP := hidden (HP.out.freshV hb)
  replace HQ := hidden (HQ.out.freshV hb)
  replace HTP := hidden (HTP.out.fresh hb)
  have HX := hidden (ORow.ofBlockV hr HLX.out)
  replace HE0 := hidden (Ex.trans HE0.out hb)
  clear hr hb hX hgX
  have HK := hidden (Mul_y _ _ B P HLB.out HLP.out w5 HTP.out (HB.out.bsl32 HLB.out) (HP.out.bsl32 HLP.out))
  go_wp2_with fail
  refine HK.out.mono ?_
  rintro e w6 ⟨gY, rfl, hgY, hr, _, hb⟩
  obtain ⟨Y, hY⟩ : ∃ x, x = mulL B P := ⟨_, rfl⟩
  rw [← hY] at hr
  have HLY : Hid (Y.length = 32) := by show _ = _; rw [hY]; exact mulL_length _ _
  have HEY := hidden hY
  have HGY := hidden hgY
  clear HK
  replace HA := hidden (HA.out.freshV hb)
  replace HB := hidden (HB.out.freshV hb)
  replace HP := hidden (HP.out.freshV hb)
  replace HQ := hidden (HQ.out.freshV hb)
  replace HX := hidden (HX.out.freshV hb)
  replace HTP := hidden (HTP.out.fresh hb)
  have HY := hidden (ORow.ofBlockV hr HLY.out)
  replace HE0 := hidden (Ex.trans HE0.out hb)
  clear hr hb hY hgY
  have HXY : Hid (Y = X) := by show _ = _; rw [HEY.out, HEX.out, HEQ.out, HEP.out]; exact (mul_both A B HLA.out HLB.out).symm
  have s1 := run_string (HX.out.bsl32 HLX.out)
  have s2 := run_string (HY.out.bsl32 HLY.out)
  rw [HXY.out] at s2
  generalize (⟨X.toArray⟩ : ByteArray) = SX at s1 s2
  clear HY HXY HP HEY HEP HLY HLP HGY HGP
  go_upto_region 9 with fail
  clear s2 s1
  go_wp2_with (refine wpList_cloneV _ rfl (.tmp 74) (.tmp 75) rfl rfl _ A rfl (HA.out.bsl32 HLA.out) (by have := HLA.out; omega) ?_)
  have HA0 : Hid (w.heap.size < w6.heap.size) := HA.out.lt
  have HB0 : Hid (g1 < w6.heap.size) := HB.out.lt
  have HQ0 : Hid (gQ < w6.heap.size) := HQ.out.lt
  have HX0 : Hid (gX < w6.heap.size) := HX.out.lt
  have HEw := HE0
  intro vc wc ho8 hb
  have hne : A ≠ [] := by intro e; have := HLA.out; rw [e] at this; simp at this
  obtain ⟨gC, cC, rfl, hor⟩ := ORow.ofOwns ho8 hne
  rw [HLA.out]
  have HGC : Hid (w6.heap.size ≤ gC) := hor.1
  have HCC : Hid (32 ≤ cC) := by have := hor.2.1; rw [HLA.out] at this; exact this
  replace HA := hidden (HA.out.freshV hb)
  replace HB := hidden (HB.out.freshV hb)
  replace HQ := hidden (HQ.out.freshV hb)
  replace HX := hidden (HX.out.freshV hb)
  replace HTP := hidden (HTP.out.fresh hb)
  replace HE0 := hidden (Ex.trans HE0.out hb)
  have HC : Hid (ORow wc 0 gC cC A) := ⟨Nat.zero_le _, hor.2⟩
  clear ho8 hb hor hne
  obtain ⟨y0, hy0⟩ : ∃ y : UInt8, y = (A.getD 0 0 &&& 248) ||| (lo &&& 7) := ⟨_, rfl⟩
  obtain ⟨y1, hy1⟩ : ∃ y : UInt8, y = (A.getD 31 0 &&& 63) ||| (hi &&& 192) := ⟨_, rfl⟩
  obtain ⟨C, hC⟩ : ∃ C, C = (A.set 0 y0).set 31 y1 := ⟨_, rfl⟩
  have HEC : Hid (clampL C = clampL A) := by show _ = _; rw [hC, hy0, hy1]; exact clamp_same A HLA.out lo hi
  have HLC : Hid (C.length = 32) := by show _ = _; rw [hC, List.length_set, List.length_set]; exact HLA.out
  have c0 := HC.out.cell 0 (by rw [HLA.out]; omega)
  have c31 := HC.out.cell 31 (by rw [HLA.out]; omega)
  have f0 := HC.out.frozen 0
  have f31 := HC.out.frozen 31
  have b0 := andU (A.getD 0 0) 248
  have b1 := andU lo 7
  have b2 := orU (A.getD 0 0 &&& 248) (lo &&& 7)
  have b3 := andU (A.getD 31 0) 63
  have b4 := andU hi 192
  have b5 := orU (A.getD 31 0 &&& 63) (hi &&& 192)
  rw [show (((248 : UInt8).toNat : Nat) : Int) = 248 from rfl] at b0
  rw [show (((7 : UInt8).toNat : Nat) : Int) = 7 from rfl] at b1
  rw [show (((63 : UInt8).toNat : Nat) : Int) = 63 from rfl] at b3
  rw [show (((192 : UInt8).toNat : Nat) : Int) = 192 from rfl] at b4
  rw [← hy0] at b2
  rw [← hy1] at b5
  have HC2 : Hid (ORow ((wc.setCell ⟨gC, 0, none⟩ (.int .u8 (y0.toNat : Nat))).setCell ⟨gC, 31, none⟩ (.int .u8 (y1.toNat : Nat))) 0 gC cC C) := by show ORow _ _ _ _ _; rw [hC]; exact (HC.out.set 0 y0).set 31 y1
  have HKC : Hid (Keeps (fun k => k = gC) wc ((wc.setCell ⟨gC, 0, none⟩ (.int .u8 (y0.toNat : Nat))).setCell ⟨gC, 31, none⟩ (.int .u8 (y1.toNat : Nat)))) := by show Keeps _ _ _; exact ((Keeps.refl (fun k => k = gC) wc).setCell (p := ⟨gC, 0, none⟩) (.inl rfl) _).setCell (p := ⟨gC, 31, none⟩) (.inl rfl) _
  clear HC hC hy0 hy1
  generalize (A.getD 0 0 &&& 248).toNat = q0 at b0 b2
  generalize (lo &&& 7).toNat = q1 at b1 b2
  generalize (A.getD 31 0 &&& 63).toNat = q2 at b3 b5
  generalize (hi &&& 192).toNat = q3 at b4 b5
  generalize (A.getD 0 0).toNat = q4 at c0 b0
  generalize (A.getD 31 0).toNat = q5 at c31 b3
  generalize lo.toNat = q6 at b1 ⊢
  generalize hi.toNat = q7 at b4 ⊢
  generalize y0.toNat = q8 at b2 HC2 HKC
  generalize y1.toNat = q9 at b5 HC2 HKC
  have hcc := HCC.out
  go_wp2_with fail
  try rw [b0, b1, b2, b3, b4, b5]
  clear b0 b1 b2 b3 b4 b5 c0 c31 f0 f31
  generalize (wc.setCell ⟨gC, 0, none⟩ (.int .u8 (q8 : Int))).setCell ⟨gC, 31, none⟩ (.int .u8 (q9 : Int)) = wd at HC2 HKC ⊢
  have hnA : ¬ w.heap.size = gC := by have := HA0.out; have := HGC.out; omega
  replace HA := hidden (HA.out.keep HKC.out hnA)
  have hnB : ¬ g1 = gC := by have := HB0.out; have := HGC.out; omega
  replace HB := hidden (HB.out.keep HKC.out hnB)
  have hnQ : ¬ gQ = gC := by have := HQ0.out; have := HGC.out; omega
  replace HQ := hidden (HQ.out.keep HKC.out hnQ)
  have hnX : ¬ gX = gC := by have := HX0.out; have := HGC.out; omega
  replace HX := hidden (HX.out.keep HKC.out hnX)
  have HD : Hid (Below w.heap.size wc wd) := HKC.out.below (by have := HE0.out.size; exact this) (by intro k e; have := HGC.out; have := HEw.out.size; rw [e]; omega)
  replace HE0 := hidden (Below.trans HE0.out HD.out)
  replace HTP := hidden (HTP.out.keep HKC.out (by have := HWP.out; have := HGC.out; have := HEw.out.size; omega))
  clear HKC HD
  have HK := hidden (Mul_y _ _ C Q HLC.out HLQ.out wd HTP.out (HC2.out.bsl32 HLC.out) (HQ.out.bsl32 HLQ.out))
  rw [mul_clamp HEC.out Q, ← HEX.out] at HK
  refine HK.out.mono ?_
  rintro e we ⟨gZ, rfl, hgZ, hr, _, hb⟩
  have HZQ : Hid (¬ gZ = gQ) := by have := HQ.out.lt; show ¬ _; omega
  replace HA := hidden (HA.out.freshV hb)
  replace HQ := hidden (HQ.out.freshV hb)
  replace HX := hidden (HX.out.freshV hb)
  replace HTP := hidden (HTP.out.fresh hb)
  have HZ := hidden (ORow.ofBlockV hr HLX.out)
  replace HE0 := hidden (Ex.trans HE0.out hb)
  clear HK hr hb hgZ HC2 HB
  obtain ⟨y2, hy2⟩ : ∃ y : UInt8, y = Q.getD 31 0 ^^^ 128 := ⟨_, rfl⟩
  have c31 := HQ.out.cell 31 (by rw [HLQ.out]; omega)
  have f31 := HQ.out.frozen 31
  have b0 := xorU (Q.getD 31 0) 128
  rw [show (((128 : UInt8).toNat : Nat) : Int) = 128 from rfl, ← hy2] at b0
  have HQ2 : Hid (ORow (we.setCell ⟨gQ, 31, none⟩ (.int .u8 (y2.toNat : Nat))) 0 gQ 32 (Q.set 31 y2)) := HQ.out.set 31 y2
  have HKQ : Hid (Keeps (fun k => k = gQ) we (we.setCell ⟨gQ, 31, none⟩ (.int .u8 (y2.toNat : Nat)))) := by show Keeps _ _ _; exact (Keeps.refl (fun k => k = gQ) we).setCell (p := ⟨gQ, 31, none⟩) (.inl rfl) _
  have HET : Hid (mulL A (Q.set 31 y2) = X) := by show _ = _; rw [hy2, mul_top A Q HLQ.out]; exact HEX.out.symm
  have HLT : Hid ((Q.set 31 y2).length = 32) := by show _ = _; rw [List.length_set]; exact HLQ.out
  clear hy2 HQ
  generalize y2.toNat = q10 at b0 HQ2 HKQ
  generalize (Q.getD 31 0).toNat = q11 at b0 c31
  go_wp2_with fail
  try rw [b0]
  clear b0 c31 f31
  generalize we.setCell ⟨gQ, 31, none⟩ (.int .u8 (q10 : Int)) = wf at HQ2 HKQ ⊢
  replace HA := hidden (HA.out.keep HKQ.out HAQ.out)
  replace HX := hidden (HX.out.keep HKQ.out HXQ.out)
  replace HZ := hidden (HZ.out.keep HKQ.out HZQ.out)
  replace HTP := hidden (HTP.out.keep HKQ.out HTQ.out)
  have HD : Hid (Below w.heap.size we wf) := HKQ.out.below (by have := HE0.out.size; exact this) (by intro k e; have := HWQ.out; rw [e]; exact this)
  replace HE0 := hidden (Below.trans HE0.out HD.out)
  have HK := hidden (Mul_y _ _ A (Q.set 31 y2) HLA.out HLT.out wf HTP.out (HA.out.bsl32 HLA.out) (HQ2.out.bsl32 HLT.out))
  rw [HET.out] at HK
  clear HKQ HD HET
  refine HK.out.mono ?_
  rintro e wg ⟨gW, rfl, _, hr, _, hb⟩
  have s1 := run_string ((HZ.out.freshV hb).bsl32 HLX.out)
  have s2 := run_string ((HX.out.freshV hb).bsl32 HLX.out)
  have s3 := run_string ((ORow.ofBlockV hr HLX.out).bsl32 HLX.out)
  generalize (⟨X.toArray⟩ : ByteArray) = SX at s1 s2 s3
  replace HTP := hidden (HTP.out.fresh hb)
  replace HE0 := hidden (Ex.trans HE0.out hb)
  have HKN := hidden (known_c wg HTP.out)
  clear HK hr hb HA HX HZ HQ2 HLT
  go_wp2_with fail
  refine HKN.out.mono ?_
  rintro e wk ⟨rfl, hbk⟩
  replace HE0 := hidden (Ex.trans HE0.out hbk)
  clear HKN hbk s1 s2 s3
  go_wp2
  go_ret
  exact ⟨rfl, HE0.out⟩
end Go.Proofs.YtdgapijgdbhlfaaDoor
