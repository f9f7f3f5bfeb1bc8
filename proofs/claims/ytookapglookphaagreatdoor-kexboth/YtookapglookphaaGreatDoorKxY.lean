/- KexBoth. -/
import Derived.Test.YtookapglookphaaGreatDoorKxX
import Derived.Test.YtookapglookphaaGreatDoorKxU
namespace Go.Proofs.YtookapglookphaaGreatDoor
open Go Go.RowKit

set_option maxHeartbeats 6400000 in
set_option maxRecDepth 100000 in
theorem kexBoth_c (v0 v1 v2 v5 v6 v8 : Value) (s0 s1 : ByteArray) (which : Int) (k0 k1 p0 i10 i20 id : List UInt8) (hid : id.length ≤ 140737488351232) (w : World) (hr : Rw w) (htp : Tp w) (h0 : BSl w v0 k0) (h1 : BSl w v1 k1) (h2 : BSl w v2 p0) (h5 : BSl w v5 i10) (h6 : BSl w v6 i20) (h8 : BSl w v8 id) :
    Calls Tryz.prog 4 #[v0, v1, v2, .string s0, .string s1, v5, v6, .int .i64 which, v8] w fun e w' => e = .returned (.bool true) ∧ Below w.heap.size w w' := by
  have HR := hidden hr
  have HT := hidden htp
  have H0 := hidden h0
  have H1 := hidden h1
  have H2 := hidden h2
  have H5 := hidden h5
  have H6 := hidden h6
  have H8 := hidden h8
  obtain ⟨a8, c8, rfl⟩ := h8.len
  clear hr htp h0 h1 h2 h5 h6 h8
  go_enter Tryz.func4, Tryz.ntmps4
  go_wp2_with fail
  refine (side_c true _ _ _ _ s0 s1 k0 p0 i10 i20 w H0.out H2.out H5.out H6.out).mono ?_
  rintro e w1 ⟨hb1, pr, pin, ic, is, rfl, hs1⟩
  have HKC : Hid ((privL true k0).length = 32) := privL_32 k0
  have HPL : Hid ((p0.take 80).length ≤ 80) := by show _ ≤ _; rw [List.length_take]; omega
  have HI1 : Hid ((i10.take 100).length ≤ 100) := by show _ ≤ _; rw [List.length_take]; omega
  have HI2 : Hid ((i20.take 100).length ≤ 100) := by show _ ≤ _; rw [List.length_take]; omega
  have HZ0 := hidden (headS_le s0)
  have HZ1 := hidden (headS_le s1)
  have HSd : Hid (∀ wx, Below w.heap.size w wx → Calls Tryz.prog 5 #[v1, v2, .string s0, .string s1, v5, v6, .bool true] wx (SidePost wx true k1 p0 s0 s1 i10 i20)) := fun wx hb => side_c true _ _ _ _ s0 s1 k1 p0 i10 i20 wx (H1.out.fresh hb) (H2.out.fresh hb) (H5.out.fresh hb) (H6.out.fresh hb)
  unfold sideV
  obtain ⟨a0, a1, a4, a5, c0, c1, c4, c5, rfl, rfl, rfl, rfl⟩ := hs1.shape
  have hb2 : Below w1.heap.size w1 (w1.alloc (.cells #[.slice a0 (privL true k0).length c0, .slice a1 (p0.take 80).length c1, .string (headS s0), .string (headS s1), .slice a4 (i10.take 100).length c4, .slice a5 (i20.take 100).length c5] 24)) := (Below.refl _ w1).alloc (Nat.le_refl _) _
  have HA : Hid (SB (w1.alloc (.cells #[.slice a0 (privL true k0).length c0, .slice a1 (p0.take 80).length c1, .string (headS s0), .string (headS s1), .slice a4 (i10.take 100).length c4, .slice a5 (i20.take 100).length c5] 24)) w1.heap.size a0 a1 a4 a5 _ _ _ _ c0 c1 c4 c5 (headS s0) (headS s1) (privL true k0) (p0.take 80) (i10.take 100) (i20.take 100)) := ⟨heap_alloc_new w1 _, hs1.fresh hb2⟩
  have HB2 := hidden (hb1.trans (hb2.mono hb1.size))
  have HLO := hidden hb1.size
  clear hb1 hb2 hs1 H0 H1
  generalize privL true k0 = kc at HA HKC HB2 ⊢
  generalize hpe : p0.take 80 = p at HA HPL HB2 ⊢
  generalize hi1e : i10.take 100 = i1 at HA HI1 HB2 ⊢
  generalize hi2e : i20.take 100 = i2 at HA HI2 HB2 ⊢
  generalize hs0e : headS s0 = t0 at HA HZ0 HB2 ⊢
  generalize hs1e : headS s1 = t1 at HA HZ1 HB2 ⊢
  generalize kc.length = lc at HA HB2 ⊢
  generalize hl1 : p.length = l1 at HA HB2 ⊢
  generalize hl4 : i1.length = l4 at HA HB2 ⊢
  generalize hl5 : i2.length = l5 at HA HB2 ⊢
  have HE := hidden (And.intro hpe (And.intro hi1e (And.intro hi2e (And.intro hs0e hs1e))))
  have HLL := hidden (And.intro hl1 (And.intro hl4 hl5))
  clear hpe hi1e hi2e hs0e hs1e hl1 hl4 hl5
  go_wp2_with fail
  generalize w1.alloc (.cells #[.slice a0 lc c0, .slice a1 l1 c1, .string t0, .string t1, .slice a4 l4 c4, .slice a5 l5 c5] 24) = w2 at HA HB2 ⊢
  generalize w1.heap.size = B1 at HA HLO ⊢
  refine (HSd.out w2 HB2.out).mono ?_
  rintro e w3 ⟨hb3, pr, pin, ic, is, rfl, hs3⟩
  have HKS : Hid ((privL true k1).length = 32) := privL_32 k1
  rw [HE.out.1, HE.out.2.1, HE.out.2.2.1] at hs3
  rw [HE.out.2.2.2.1, HE.out.2.2.2.2]
  unfold sideV
  obtain ⟨b0, b1, b4, b5, d0, d1, d4, d5, rfl, rfl, rfl, rfl⟩ := hs3.shape
  rw [HLL.out.1, HLL.out.2.1, HLL.out.2.2] at hs3 ⊢
  generalize privL true k1 = ks at hs3 HKS ⊢
  generalize ks.length = lk at hs3 ⊢
  have hb4 : Below w3.heap.size w3 (w3.alloc (.cells #[.slice b0 lk d0, .slice b1 l1 d1, .string t0, .string t1, .slice b4 l4 d4, .slice b5 l5 d5] 24)) := (Below.refl _ w3).alloc (Nat.le_refl _) _
  have hb34 := hb3.trans (hb4.mono hb3.size)
  have HA4 := hidden (HA.out.next hb34)
  have HS4 : Hid (SB (w3.alloc (.cells #[.slice b0 lk d0, .slice b1 l1 d1, .string t0, .string t1, .slice b4 l4 d4, .slice b5 l5 d5] 24)) w3.heap.size b0 b1 b4 b5 lk l1 l4 l5 d0 d1 d4 d5 t0 t1 ks p i1 i2) := ⟨heap_alloc_new w3 _, hs3.fresh hb4⟩
  have HB4 := hidden (HB2.out.trans (hb34.mono HB2.out.size))
  have q0 := (side_cells HA4.out.row).1
  clear hb3 hb4 hb34 hs3 HA HSd H2 H5 H6 HE HB2
  go_wp2_with fail
  generalize w3.alloc (.cells #[.slice b0 lk d0, .slice b1 l1 d1, .string t0, .string t1, .slice b4 l4 d4, .slice b5 l5 d5] 24) = w4 at HA4 HS4 HB4 q0 ⊢
  generalize w3.heap.size = B2 at HS4 ⊢
  refine (Init_c _ kc w4 (HT.out.fresh HB4.out) HA4.out.s.pr).mono ?_
  rintro e w5 ⟨hb5, vi, rfl, hvi, _⟩
  rw [ini_ok HKC.out] at hvi ⊢
  simp only at hvi ⊢
  have HIV := hidden hvi
  obtain ⟨ai, ci, rfl⟩ := hvi.len
  have HIL := hidden (ini_le kc)
  have HA5 := hidden (HA4.out.next hb5)
  have HS5 := hidden (HS4.out.next hb5)
  have HB5 := hidden (HB4.out.trans (hb5.mono HB4.out.size))
  have HSV := hidden (@srv_ok kc ks HKS.out p t0 t1 i1 i2)
  have HSN := hidden (@srv_none kc ks HKS.out p t0 t1 i1 i2)
  obtain ⟨q0, q1, q2, q3, q4, q5⟩ := side_cells HS5.out.row
  clear hb5 hvi HA4 HS4 HB4
  generalize payL 30 (fun _ => baseL kc) 1 = I at HIV HIL HSV HSN ⊢
  generalize hIl : I.length = lI at HIV HIL ⊢
  have HILe := hidden hIl
  clear hIl
  go_wp2_with fail
  refine (Server_c _ _ _ _ _ t0 t1 ks p i1 i2 I (by have := HPL.out; omega) (by have := HI1.out; omega) (by have := HI2.out; omega) (by have := HZ0.out; omega) (by have := HZ1.out; omega) (by have h1 := HIL.out; have h2 := HILe.out; omega) w5 (HR.out.fresh HB5.out) (HT.out.fresh HB5.out) HS5.out.s HIV.out).mono ?_
  rintro e w6 ⟨hb6, vr, vk, vh, rfl, hvr, hvk, hvh⟩
  have HA6 := hidden (HA5.out.next hb6)
  have HB6 := hidden (HB5.out.trans (hb6.mono HB5.out.size))
  have HKn : Hid (∀ wx, Below w.heap.size w wx → Calls Tryz.prog 18 #[] wx fun e w' => e = .returned (.bool true) ∧ Below wx.heap.size wx w') := fun wx hb => known_c wx (HR.out.fresh hb) (HT.out.fresh hb)
  clear q0 q1 q2 q3 q4 q5 hb6 HA5 HS5 HB5 HIV
  by_cases hK : secK kc ks = []
  · rw [HSN.out hK] at hvr hvk hvh ⊢
    simp only at hvr hvk hvh ⊢
    obtain ⟨xr, yr, rfl⟩ := hvr.nil
    obtain ⟨xk, yk, rfl⟩ := hvk.nil
    obtain ⟨xh, yh, rfl⟩ := hvh.nil
    have HB7 : Hid (Below w.heap.size w (w6.alloc (.cells #[.slice xk 0 yk, .slice xh 0 yh] 35))) := HB6.out.alloc HB6.out.size _
    clear hvr hvk hvh hK HSV HSN HA6
    go_wp2_with fail
    refine (HKn.out _ HB7.out).mono ?_
    rintro e w8 ⟨rfl, hb8⟩
    have HB8 := hidden (HB7.out.trans (hb8.mono HB7.out.size))
    clear hb8
    go_wp2_with fail
    go_ret
    exact ⟨rfl, HB8.out⟩
  · rw [HSV.out hK] at hvr hvk hvh ⊢
    simp only at hvr hvk hvh ⊢
    have HCL := hidden (cli_ok HKC.out HKS.out p t0 t1 i1 i2 hK)
    have HRP := hidden (rep_le p ks (secH kc ks p t0 t1 i1 i2))
    have HRN := hidden (rep_ne p (baseL ks) (secH kc ks p t0 t1 i1 i2))
    have HHL := hidden (secH_len kc ks p t0 t1 i1 i2)
    have HKL := hidden (secK_le kc ks)
    clear hK HSV HSN
    generalize repL p (baseL ks) (secH kc ks p t0 t1 i1 i2) = RP at hvr HCL HRP HRN
    generalize secK kc ks = K at hvk HCL HKL
    generalize secH kc ks p t0 t1 i1 i2 = H at hvh HCL HHL
    have HR6 := hidden hvr
    have HK6 := hidden hvk
    have HH6 := hidden hvh
    obtain ⟨ar, cr, rfl⟩ := hvr.len
    obtain ⟨ak, ck, rfl⟩ := hvk.len
    obtain ⟨ah, ch, rfl⟩ := hvh.len
    rw [HHL.out] at HH6 ⊢
    have hb7 : Below w6.heap.size w6 (w6.alloc (.cells #[.slice ak K.length ck, .slice ah 32 ch] 35)) := (Below.refl _ w6).alloc (Nat.le_refl _) _
    have HX7 : Hid ((w6.alloc (.cells #[.slice ak K.length ck, .slice ah 32 ch] 35)).heap[w6.heap.size]? = some (.cells #[.slice ak K.length ck, .slice ah 32 ch] 35 (0, 0))) := heap_alloc_new w6 _
    have HA7 := hidden (HA6.out.next hb7)
    have HR7 := hidden (HR6.out.fresh hb7)
    have HK7 := hidden (HK6.out.fresh hb7)
    have HH7 := hidden (HH6.out.fresh hb7)
    have HB7 := hidden (HB6.out.trans (hb7.mono HB6.out.size))
    obtain ⟨q0, q1, q2, q3, q4, q5⟩ := side_cells HA7.out.row
    clear hvr hvk hvh hb7 HA6 HB6 HR6 HK6 HH6
    generalize hlr : RP.length = lr at HR7 HRP ⊢
    have HLR := hidden hlr
    clear hlr
    generalize hlk : K.length = lK at HK7 HKL HX7 HA7 HR7 HH7 HB7 q0 q1 q2 q3 q4 q5 ⊢
    have HLK := hidden hlk
    clear hlk
    go_wp2_with fail
    generalize w6.alloc (.cells #[.slice ak lK ck, .slice ah 32 ch] 35) = w7 at HX7 HA7 HR7 HK7 HH7 HB7 q0 q1 q2 q3 q4 q5 ⊢
    generalize w6.heap.size = BX at HX7 ⊢
    refine (Client_c _ _ _ _ _ t0 t1 kc p i1 i2 RP (by have := HPL.out; omega) (by have := HI1.out; omega) (by have := HI2.out; omega) (by have := HZ0.out; omega) (by have := HZ1.out; omega) (by have h1 := HRP.out; have h2 := HLR.out; omega) w7 (HR.out.fresh HB7.out) (HT.out.fresh HB7.out) HA7.out.s HR7.out).mono ?_
    rintro e w8 ⟨hb8, yk, yh, rfl, hyk, hyh⟩
    rw [HCL.out] at hyk hyh ⊢
    simp only at hyk hyh ⊢
    have HYK := hidden hyk
    have HYH := hidden hyh
    obtain ⟨ek, fk, rfl⟩ := hyk.len
    obtain ⟨eh, fh, rfl⟩ := hyh.len
    rw [HHL.out] at HYH ⊢
    rw [HLK.out] at HYK ⊢
    have hb9 : Below w8.heap.size w8 (w8.alloc (.cells #[.slice ek lK fk, .slice eh 32 fh] 35)) := (Below.refl _ w8).alloc (Nat.le_refl _) _
    have hb79 := hb8.trans (hb9.mono hb8.size)
    have HX9 : Hid ((w8.alloc (.cells #[.slice ek lK fk, .slice eh 32 fh] 35)).heap[BX]? = some (.cells #[.slice ak lK ck, .slice ah 32 ch] 35 (0, 0))) := (hb79.block BX (lt_of_block HX7.out)).trans HX7.out
    have HY9 : Hid ((w8.alloc (.cells #[.slice ek lK fk, .slice eh 32 fh] 35)).heap[w8.heap.size]? = some (.cells #[.slice ek lK fk, .slice eh 32 fh] 35 (0, 0))) := heap_alloc_new w8 _
    have HA9 := hidden (HA7.out.next hb79)
    have HR9 := hidden (HR7.out.fresh hb79)
    have HK9 := hidden (HK7.out.fresh hb79)
    have HH9 := hidden (HH7.out.fresh hb79)
    have HYK9 := hidden (HYK.out.fresh hb9)
    have HYH9 := hidden (HYH.out.fresh hb9)
    have HB9 := hidden (HB7.out.trans (hb79.mono HB7.out.size))
    obtain ⟨x0, x1⟩ := cells2 HX9.out
    clear hyk hyh hb8 hb9 hb79 HX7 HA7 HR7 HK7 HH7 HB7 HYK HYH q0 q1 q2 q3 q4 q5
    go_wp2_with fail
    refine (Keys_c _ _ _ K H id (by have h1 := HKL.out; have h2 := HLK.out; omega) (by rw [HHL.out]; omega) hid _ (HR.out.fresh HB9.out) HK9.out HH9.out (H8.out.fresh HB9.out)).mono ?_
    rintro e wa ⟨hba, m1, m2, rfl, hm1, hm2⟩
    generalize w8.alloc (.cells #[.slice ek lK fk, .slice eh 32 fh] 35) = w9 at HX9 HY9 HA9 HR9 HK9 HH9 HYK9 HYH9 HB9 x0 x1 hba
    generalize w8.heap.size = BY at HY9 ⊢
    have HXa : Hid (wa.heap[BX]? = some (.cells #[.slice ak lK ck, .slice ah 32 ch] 35 (0, 0))) := (hba.block BX (lt_of_block HX9.out)).trans HX9.out
    have HYa : Hid (wa.heap[BY]? = some (.cells #[.slice ek lK fk, .slice eh 32 fh] 35 (0, 0))) := (hba.block BY (lt_of_block HY9.out)).trans HY9.out
    have HAa := hidden (HA9.out.next hba)
    have HRa := hidden (HR9.out.fresh hba)
    have HKa := hidden (HK9.out.fresh hba)
    have HHa := hidden (HH9.out.fresh hba)
    have HYKa := hidden (HYK9.out.fresh hba)
    have HYHa := hidden (HYH9.out.fresh hba)
    have HBa := hidden (HB9.out.trans (hba.mono HB9.out.size))
    have HM1 := hidden hm1
    have HM2 := hidden hm2
    obtain ⟨g1, o1, rfl⟩ := hm1.len
    obtain ⟨g2, o2, rfl⟩ := hm2.len
    rw [deriveL_length, deriveL_length]
    rw [deriveL_length] at HM1 HM2
    obtain ⟨y0, y1⟩ := cells2 HYa.out
    clear hm1 hm2 hba HX9 HY9 HA9 HR9 HK9 HH9 HYK9 HYH9 HB9 x0 x1
    go_wp2_with fail
    refine (Keys_c _ _ _ K H id (by have h1 := HKL.out; have h2 := HLK.out; omega) (by rw [HHL.out]; omega) hid wa (HR.out.fresh HBa.out) HYKa.out HYHa.out (H8.out.fresh HBa.out)).mono ?_
    rintro e wb ⟨hbb, m3, m4, rfl, hm3, hm4⟩
    have HXb : Hid (wb.heap[BX]? = some (.cells #[.slice ak lK ck, .slice ah 32 ch] 35 (0, 0))) := (hbb.block BX (lt_of_block HXa.out)).trans HXa.out
    have HYb : Hid (wb.heap[BY]? = some (.cells #[.slice ek lK fk, .slice eh 32 fh] 35 (0, 0))) := (hbb.block BY (lt_of_block HYa.out)).trans HYa.out
    have HAb := hidden (HAa.out.next hbb)
    have HRb := hidden (HRa.out.fresh hbb)
    have HBb := hidden (HBa.out.trans (hbb.mono HBa.out.size))
    obtain ⟨g3, o3, rfl⟩ := hm3.len
    obtain ⟨g4, o4, rfl⟩ := hm4.len
    rw [deriveL_length] at hm3 hm4
    rw [deriveL_length, deriveL_length]
    obtain ⟨x0, x1⟩ := cells2 HXb.out
    obtain ⟨y0', y1'⟩ := cells2 HYb.out
    obtain ⟨SK, hSK⟩ : ∃ S : ByteArray, S = ⟨K.toArray⟩ := ⟨_, rfl⟩
    obtain ⟨SH, hSH⟩ : ∃ S : ByteArray, S = ⟨H.toArray⟩ := ⟨_, rfl⟩
    obtain ⟨S1, hS1⟩ : ∃ S : ByteArray, S = ⟨(deriveL K H 67 id 32).toArray⟩ := ⟨_, rfl⟩
    obtain ⟨S2, hS2⟩ : ∃ S : ByteArray, S = ⟨(deriveL K H 68 id 32).toArray⟩ := ⟨_, rfl⟩
    have r1 := run_str (HKa.out.fresh hbb) hSK
    have r2 := run_str (HYKa.out.fresh hbb) hSK
    have r3 := run_str (HHa.out.fresh hbb) hSH
    have r4 := run_str (HYHa.out.fresh hbb) hSH
    have r5 := run_str (HM1.out.fresh hbb) hS1
    have r6 := run_str (HM2.out.fresh hbb) hS2
    have r7 := run_str hm3 hS1
    have r8 := run_str hm4 hS2
    clear hm3 hm4 hbb hSK hSH hS1 hS2 HXa HYa HAa HRa HKa HHa HYKa HYHa HBa HM1 HM2 y0 y1
    go_wp2_with fail
    refine (within_c which 4 (by omega) wb).mono ?_
    rintro e wc ⟨q, rfl, hq, rfl⟩
    clear x0 x1 y0' y1' r1 r2 r3 r4 r5 r6 r7 r8 HXb HYb
    obtain ⟨z0, z1, z2, z3, z4, z5⟩ := side_cells HAb.out.row
    have f2 := frozen_row HAb.out.row 2
    have f3 := frozen_row HAb.out.row 3
    have f4 := frozen_row HAb.out.row 4
    have f5 := frozen_row HAb.out.row 5
    have hq5 : q = 0 ∨ q = 1 ∨ q = 2 ∨ q = 3 ∨ q = 4 := by omega
    clear hq
    rcases hq5 with rfl | rfl | rfl | rfl | rfl
    · have hzz := HZ0.out
      go_wp2_with fail
      obtain ⟨tx, htx⟩ : ∃ tx : ByteArray, tx = t0 ++ ⟨#[120]⟩ := ⟨_, rfl⟩
      rw [← htx]
      have HTX : Hid (tx.size ≤ 60) := by show _ ≤ _; rw [htx, ByteArray.size_append]; have h1 := HZ0.out; have h2 : (⟨#[120]⟩ : ByteArray).size = 1 := rfl; omega
      have HAd := hidden (HAb.out.set2 tx)
      have HRd := hidden (HAb.out.keepS 2 (.string tx) _ _ HRb.out)
      have HBd : Hid (Below w.heap.size w (wc.setCell ⟨B1, 2, none⟩ (.string tx))) := HBb.out.setCell HLO.out _
      have HJ1 := hidden HI1.out
      have HJ2 := hidden HI2.out
      have HU0 : Hid ((tx : ByteArray).size ≤ 60) := by show _ ≤ _; have h1 := HTX.out; have h2 := HZ0.out; have h3 := HZ1.out; omega
      have HU1 : Hid ((t1 : ByteArray).size ≤ 60) := by show _ ≤ _; have h1 := HTX.out; have h2 := HZ0.out; have h3 := HZ1.out; omega
      clear htx hzz z0 z1 z2 z3 z4 z5 f2 f3 f4 f5 HAb HRb HBb
      generalize wc.setCell ⟨B1, 2, none⟩ (.string tx) = wd at HAd HRd HBd ⊢
      have HVBd : Hid (∀ wy, Below wd.heap.size wd wy → ∀ q, (Value.slice ar lr cr).ownBlock = some q → q < wy.heap.size) := fun wy hb q e => by
        obtain ⟨bb, oo, cc, e2, hl⟩ := HRd.out.nonnil HRN.out
        rw [e2] at e
        have : bb = q := by simpa [Value.ownBlock] using e
        have := hb.size
        omega
      refine (Client_c _ _ _ _ _ tx t1 kc p i1 i2 RP (by have := HPL.out; omega) (by have := HJ1.out; omega) (by have := HJ2.out; omega) (by have := HU0.out; omega) (by have := HU1.out; omega) (by have h1 := HRP.out; have h2 := HLR.out; omega) wd (HR.out.fresh HBd.out) (HT.out.fresh HBd.out) HAd.out.s HRd.out).mono ?_
      rintro e we ⟨hbe, zk, zh, rfl, hzk, hzh⟩
      have HRC : Hid (∀ (wx : World), SideS wx (.slice a0 lc c0) (.slice a1 l1 c1) (.slice a4 l4 c4) (.slice a5 l5 c5) kc p i1 i2 → BSl wx (.slice ar lr cr) RP → (∀ q, (Value.slice ar lr cr).ownBlock = some q → q < wx.heap.size) → Calls Tryz.prog 15 #[.agg #[.slice a0 lc c0, .slice a1 l1 c1, .string tx, .string t1, .slice a4 l4 c4, .slice a5 l5 c5], .slice ar lr cr] wx (RCliPost wx (cliO kc p tx t1 i1 i2 RP))) := fun wx hs hv hvb => rClient_c _ _ _ _ _ tx t1 kc p i1 i2 RP (by have := HPL.out; omega) (by have := HJ1.out; omega) (by have := HJ2.out; omega) (by have := HU0.out; omega) (by have := HU1.out; omega) (by have h1 := HRP.out; have h2 := HLR.out; omega) wx hs hv hvb
      generalize cliO kc p tx t1 i1 i2 RP = O at hzk hzh HRC ⊢
      obtain ⟨oe, oK, oH⟩ := O
      simp only at hzk hzh ⊢
      have HZK := hidden hzk
      have HZH := hidden hzh
      obtain ⟨ek2, fk2, rfl⟩ := hzk.len
      obtain ⟨eh2, fh2, rfl⟩ := hzh.len
      clear hzk hzh
      generalize oK.length = loK at HZK ⊢
      generalize oH.length = loH at HZH ⊢
      have hbf : Below we.heap.size we (we.alloc (.cells #[.slice ek2 loK fk2, .slice eh2 loH fh2] 35)) := (Below.refl _ we).alloc (Nat.le_refl _) _
      have hbdf := hbe.trans (hbf.mono hbe.size)
      have HAf := hidden (HAd.out.next hbdf)
      have HRf := hidden (HRd.out.fresh hbdf)
      have HBf := hidden (HBd.out.trans (hbdf.mono HBd.out.size))
      have HZKf := hidden (HZK.out.fresh hbf)
      have HZHf := hidden (HZH.out.fresh hbf)
      have HVBf := hidden (fun wy (hb : Below (we.alloc (.cells #[.slice ek2 loK fk2, .slice eh2 loH fh2] 35)).heap.size (we.alloc (.cells #[.slice ek2 loK fk2, .slice eh2 loH fh2] 35)) wy) => HVBd.out wy (hbdf.trans (hb.mono hbdf.size)))
      have HXf : Hid ((we.alloc (.cells #[.slice ek2 loK fk2, .slice eh2 loH fh2] 35)).heap[we.heap.size]? = some (.cells #[.slice ek2 loK fk2, .slice eh2 loH fh2] 35 (0, 0))) := heap_alloc_new we _
      obtain ⟨z0, z1, z2, z3, z4, z5⟩ := side_cells HAf.out.row
      clear hbe hbf hbdf HAd HRd HBd HZK HZH HVBd
      go_wp2_with fail
      generalize we.alloc (.cells #[.slice ek2 loK fk2, .slice eh2 loH fh2] 35) = wf at HAf HRf HBf HZKf HZHf HVBf HXf z0 z1 z2 z3 z4 z5 ⊢
      generalize we.heap.size = BZ at HXf ⊢
      refine (in_c _ _ _ _ _ _ _ _ _ _ _ _ _ _ wf).mono ?_
      rintro e wg ⟨rfl, hbg⟩
      have HVBg := hidden (HVBf.out wg hbg)
      have HAg := hidden (HAf.out.next hbg)
      have HRg := hidden (HRf.out.fresh hbg)
      have HBg := hidden (HBf.out.trans (hbg.mono HBf.out.size))
      have HZKg := hidden (HZKf.out.fresh hbg)
      have HZHg := hidden (HZHf.out.fresh hbg)
      have HXg : Hid (wg.heap[BZ]? = some (.cells #[.slice ek2 loK fk2, .slice eh2 loH fh2] 35 (0, 0))) := (hbg.block BZ (lt_of_block HXf.out)).trans HXf.out
      clear hbg HAf HRf HBf HZKf HZHf HVBf HXf z0 z1 z2 z3 z4 z5
      go_wp2_with fail
      refine (HRC.out wg HAg.out.s HRg.out HVBg.out).mono ?_
      rintro e wh ⟨hbh, uk, uh, rfl, huk, huh⟩
      simp only at huk huh ⊢
      have HUK := hidden huk
      have HUH := hidden huh
      obtain ⟨gk, jk, rfl⟩ := huk.len
      obtain ⟨gh, jh, rfl⟩ := huh.len
      clear huk huh
      generalize oK.length = loK2 at HUK ⊢
      generalize oH.length = loH2 at HUH ⊢
      have hbi : Below wh.heap.size wh (wh.alloc (.cells #[.slice gk loK2 jk, .slice gh loH2 jh] 38)) := (Below.refl _ wh).alloc (Nat.le_refl _) _
      have hbgi := hbh.trans (hbi.mono hbh.size)
      have HBi := hidden (HBg.out.trans (hbgi.mono HBg.out.size))
      have HZKi := hidden (HZKg.out.fresh hbgi)
      have HZHi := hidden (HZHg.out.fresh hbgi)
      have HUKi := hidden (HUK.out.fresh hbi)
      have HUHi := hidden (HUH.out.fresh hbi)
      obtain ⟨x0, x1⟩ := cells2 ((hbgi.block BZ (lt_of_block HXg.out)).trans HXg.out)
      clear hbh hbi hbgi HAg HRg HBg HZKg HZHg HUK HUH HXg HVBg
      go_wp2_with fail
      refine (lsame_c _ _ _ _ oK oH _ HZKi.out HZHi.out HUKi.out HUHi.out).mono ?_
      rintro e wj ⟨rfl, hbj⟩
      have HBj := hidden (HBi.out.trans (hbj.mono HBi.out.size))
      clear hbj x0 x1 HZKi HZHi HUKi HUHi HBi
      go_wp2_with fail
      refine (HKn.out _ HBj.out).mono ?_
      rintro e wl ⟨rfl, hbl⟩
      have HBl := hidden (HBj.out.trans (hbl.mono HBj.out.size))
      clear hbl
      go_wp2_with fail
      go_ret
      exact ⟨rfl, HBl.out⟩
    · have hzz := HZ1.out
      go_wp2_with fail
      obtain ⟨tx, htx⟩ : ∃ tx : ByteArray, tx = t1 ++ ⟨#[120]⟩ := ⟨_, rfl⟩
      rw [← htx]
      have HTX : Hid (tx.size ≤ 60) := by show _ ≤ _; rw [htx, ByteArray.size_append]; have h1 := HZ1.out; have h2 : (⟨#[120]⟩ : ByteArray).size = 1 := rfl; omega
      have HAd := hidden (HAb.out.set3 tx)
      have HRd := hidden (HAb.out.keepS 3 (.string tx) _ _ HRb.out)
      have HBd : Hid (Below w.heap.size w (wc.setCell ⟨B1, 3, none⟩ (.string tx))) := HBb.out.setCell HLO.out _
      have HJ1 := hidden HI1.out
      have HJ2 := hidden HI2.out
      have HU0 : Hid ((t0 : ByteArray).size ≤ 60) := by show _ ≤ _; have h1 := HTX.out; have h2 := HZ0.out; have h3 := HZ1.out; omega
      have HU1 : Hid ((tx : ByteArray).size ≤ 60) := by show _ ≤ _; have h1 := HTX.out; have h2 := HZ0.out; have h3 := HZ1.out; omega
      clear htx hzz z0 z1 z2 z3 z4 z5 f2 f3 f4 f5 HAb HRb HBb
      generalize wc.setCell ⟨B1, 3, none⟩ (.string tx) = wd at HAd HRd HBd ⊢
      have HVBd : Hid (∀ wy, Below wd.heap.size wd wy → ∀ q, (Value.slice ar lr cr).ownBlock = some q → q < wy.heap.size) := fun wy hb q e => by
        obtain ⟨bb, oo, cc, e2, hl⟩ := HRd.out.nonnil HRN.out
        rw [e2] at e
        have : bb = q := by simpa [Value.ownBlock] using e
        have := hb.size
        omega
      refine (Client_c _ _ _ _ _ t0 tx kc p i1 i2 RP (by have := HPL.out; omega) (by have := HJ1.out; omega) (by have := HJ2.out; omega) (by have := HU0.out; omega) (by have := HU1.out; omega) (by have h1 := HRP.out; have h2 := HLR.out; omega) wd (HR.out.fresh HBd.out) (HT.out.fresh HBd.out) HAd.out.s HRd.out).mono ?_
      rintro e we ⟨hbe, zk, zh, rfl, hzk, hzh⟩
      have HRC : Hid (∀ (wx : World), SideS wx (.slice a0 lc c0) (.slice a1 l1 c1) (.slice a4 l4 c4) (.slice a5 l5 c5) kc p i1 i2 → BSl wx (.slice ar lr cr) RP → (∀ q, (Value.slice ar lr cr).ownBlock = some q → q < wx.heap.size) → Calls Tryz.prog 15 #[.agg #[.slice a0 lc c0, .slice a1 l1 c1, .string t0, .string tx, .slice a4 l4 c4, .slice a5 l5 c5], .slice ar lr cr] wx (RCliPost wx (cliO kc p t0 tx i1 i2 RP))) := fun wx hs hv hvb => rClient_c _ _ _ _ _ t0 tx kc p i1 i2 RP (by have := HPL.out; omega) (by have := HJ1.out; omega) (by have := HJ2.out; omega) (by have := HU0.out; omega) (by have := HU1.out; omega) (by have h1 := HRP.out; have h2 := HLR.out; omega) wx hs hv hvb
      generalize cliO kc p t0 tx i1 i2 RP = O at hzk hzh HRC ⊢
      obtain ⟨oe, oK, oH⟩ := O
      simp only at hzk hzh ⊢
      have HZK := hidden hzk
      have HZH := hidden hzh
      obtain ⟨ek2, fk2, rfl⟩ := hzk.len
      obtain ⟨eh2, fh2, rfl⟩ := hzh.len
      clear hzk hzh
      generalize oK.length = loK at HZK ⊢
      generalize oH.length = loH at HZH ⊢
      have hbf : Below we.heap.size we (we.alloc (.cells #[.slice ek2 loK fk2, .slice eh2 loH fh2] 35)) := (Below.refl _ we).alloc (Nat.le_refl _) _
      have hbdf := hbe.trans (hbf.mono hbe.size)
      have HAf := hidden (HAd.out.next hbdf)
      have HRf := hidden (HRd.out.fresh hbdf)
      have HBf := hidden (HBd.out.trans (hbdf.mono HBd.out.size))
      have HZKf := hidden (HZK.out.fresh hbf)
      have HZHf := hidden (HZH.out.fresh hbf)
      have HVBf := hidden (fun wy (hb : Below (we.alloc (.cells #[.slice ek2 loK fk2, .slice eh2 loH fh2] 35)).heap.size (we.alloc (.cells #[.slice ek2 loK fk2, .slice eh2 loH fh2] 35)) wy) => HVBd.out wy (hbdf.trans (hb.mono hbdf.size)))
      have HXf : Hid ((we.alloc (.cells #[.slice ek2 loK fk2, .slice eh2 loH fh2] 35)).heap[we.heap.size]? = some (.cells #[.slice ek2 loK fk2, .slice eh2 loH fh2] 35 (0, 0))) := heap_alloc_new we _
      obtain ⟨z0, z1, z2, z3, z4, z5⟩ := side_cells HAf.out.row
      clear hbe hbf hbdf HAd HRd HBd HZK HZH HVBd
      go_wp2_with fail
      generalize we.alloc (.cells #[.slice ek2 loK fk2, .slice eh2 loH fh2] 35) = wf at HAf HRf HBf HZKf HZHf HVBf HXf z0 z1 z2 z3 z4 z5 ⊢
      generalize we.heap.size = BZ at HXf ⊢
      refine (in_c _ _ _ _ _ _ _ _ _ _ _ _ _ _ wf).mono ?_
      rintro e wg ⟨rfl, hbg⟩
      have HVBg := hidden (HVBf.out wg hbg)
      have HAg := hidden (HAf.out.next hbg)
      have HRg := hidden (HRf.out.fresh hbg)
      have HBg := hidden (HBf.out.trans (hbg.mono HBf.out.size))
      have HZKg := hidden (HZKf.out.fresh hbg)
      have HZHg := hidden (HZHf.out.fresh hbg)
      have HXg : Hid (wg.heap[BZ]? = some (.cells #[.slice ek2 loK fk2, .slice eh2 loH fh2] 35 (0, 0))) := (hbg.block BZ (lt_of_block HXf.out)).trans HXf.out
      clear hbg HAf HRf HBf HZKf HZHf HVBf HXf z0 z1 z2 z3 z4 z5
      go_wp2_with fail
      refine (HRC.out wg HAg.out.s HRg.out HVBg.out).mono ?_
      rintro e wh ⟨hbh, uk, uh, rfl, huk, huh⟩
      simp only at huk huh ⊢
      have HUK := hidden huk
      have HUH := hidden huh
      obtain ⟨gk, jk, rfl⟩ := huk.len
      obtain ⟨gh, jh, rfl⟩ := huh.len
      clear huk huh
      generalize oK.length = loK2 at HUK ⊢
      generalize oH.length = loH2 at HUH ⊢
      have hbi : Below wh.heap.size wh (wh.alloc (.cells #[.slice gk loK2 jk, .slice gh loH2 jh] 38)) := (Below.refl _ wh).alloc (Nat.le_refl _) _
      have hbgi := hbh.trans (hbi.mono hbh.size)
      have HBi := hidden (HBg.out.trans (hbgi.mono HBg.out.size))
      have HZKi := hidden (HZKg.out.fresh hbgi)
      have HZHi := hidden (HZHg.out.fresh hbgi)
      have HUKi := hidden (HUK.out.fresh hbi)
      have HUHi := hidden (HUH.out.fresh hbi)
      obtain ⟨x0, x1⟩ := cells2 ((hbgi.block BZ (lt_of_block HXg.out)).trans HXg.out)
      clear hbh hbi hbgi HAg HRg HBg HZKg HZHg HUK HUH HXg HVBg
      go_wp2_with fail
      refine (lsame_c _ _ _ _ oK oH _ HZKi.out HZHi.out HUKi.out HUHi.out).mono ?_
      rintro e wj ⟨rfl, hbj⟩
      have HBj := hidden (HBi.out.trans (hbj.mono HBi.out.size))
      clear hbj x0 x1 HZKi HZHi HUKi HUHi HBi
      go_wp2_with fail
      refine (HKn.out _ HBj.out).mono ?_
      rintro e wl ⟨rfl, hbl⟩
      have HBl := hidden (HBj.out.trans (hbl.mono HBj.out.size))
      clear hbl
      go_wp2_with fail
      go_ret
      exact ⟨rfl, HBl.out⟩
    · have zz := cell_kept z4 (own_none wc).b
      go_wp2_with (at_builtin; (refine wpList_own _ rfl (.tmp 161) (.tmp 163) 22 rfl wc _ [] rfl (own_none wc) _ i1 rfl (HAb.out.s.ic.fresh (own_none wc).b).src (by have := HI1.out; simp; omega) ?_))
      intro v1' w1' o1' _ _
      obtain ⟨ao, co, rfl⟩ := o1'.shape
      have HOw := hidden (o1'.alloc (.cells #[.int .u8 1] 5))
      have HSr : Hid (Src Tryz.prog 1 22 (.slice (some ⟨w1'.heap.size, 0, none⟩) 1 1) 1 (bcells [1]) (w1'.alloc (.cells #[.int .u8 1] 5))) := src_lit [1]
      clear o1'
      generalize hxl : i1.length = lx at HOw ⊢
      have HXL := hidden hxl
      clear hxl
      go_wp2_with (at_builtin; (refine wpList_own _ rfl (.tmp 164) (.tmp 165) 22 rfl wc _ i1 rfl HOw.out _ [1] rfl HSr.out (by have := HI1.out; simp; omega) ?_))
      intro v2' w2' o2' _ _
      have HJx : Hid ((i1 ++ [1]).length ≤ 200) := by show _ ≤ _; rw [List.length_append]; have := HI1.out; simp; omega
      have HOv := hidden o2'.bsl
      obtain ⟨ap, cp, rfl⟩ := o2'.shape
      have HAe := hidden (HAb.out.next o2'.b)
      have HRe := hidden (HRb.out.fresh o2'.b)
      have HBe := hidden (HBb.out.trans (o2'.b.mono HBb.out.size))
      clear o2' HOw HSr HXL zz z0 z1 z2 z3 z4 z5 f2 f3 f4 f5 HAb HRb HBb
      generalize i1 ++ [1] = ix at HOv HJx ⊢
      generalize hlx : ix.length = lix at HOv HJx ⊢
      have HLX := hidden hlx
      clear hlx
      obtain ⟨z0, z1, z2, z3, z4, z5⟩ := side_cells HAe.out.row
      have f4 := frozen_row HAe.out.row 4
      go_wp2_with fail
      have HAd := hidden (HAe.out.set4 HOv.out)
      have HRd := hidden (HAe.out.keepS 4 (.slice ap lix cp) _ _ HRe.out)
      have HBd : Hid (Below w.heap.size w (w2'.setCell ⟨B1, 4, none⟩ (.slice ap lix cp))) := HBe.out.setCell HLO.out _
      have HJ1 : Hid ((ix : List UInt8).length ≤ 200) := by show _ ≤ _; have h1 := HJx.out; have h2 := HI1.out; have h3 := HLX.out; omega
      have HJ2 : Hid ((i2 : List UInt8).length ≤ 200) := by show _ ≤ _; have h1 := HJx.out; have h2 := HI2.out; have h3 := HLX.out; omega
      have HU0 := hidden HZ0.out
      have HU1 := hidden HZ1.out
      clear z0 z1 z2 z3 z4 z5 f4 HAe HRe HBe HOv
      generalize w2'.setCell ⟨B1, 4, none⟩ (.slice ap lix cp) = wd at HAd HRd HBd ⊢
      have HVBd : Hid (∀ wy, Below wd.heap.size wd wy → ∀ q, (Value.slice ar lr cr).ownBlock = some q → q < wy.heap.size) := fun wy hb q e => by
        obtain ⟨bb, oo, cc, e2, hl⟩ := HRd.out.nonnil HRN.out
        rw [e2] at e
        have : bb = q := by simpa [Value.ownBlock] using e
        have := hb.size
        omega
      refine (Client_c _ _ _ _ _ t0 t1 kc p ix i2 RP (by have := HPL.out; omega) (by have := HJ1.out; omega) (by have := HJ2.out; omega) (by have := HU0.out; omega) (by have := HU1.out; omega) (by have h1 := HRP.out; have h2 := HLR.out; omega) wd (HR.out.fresh HBd.out) (HT.out.fresh HBd.out) HAd.out.s HRd.out).mono ?_
      rintro e we ⟨hbe, zk, zh, rfl, hzk, hzh⟩
      have HRC : Hid (∀ (wx : World), SideS wx (.slice a0 lc c0) (.slice a1 l1 c1) (.slice ap lix cp) (.slice a5 l5 c5) kc p ix i2 → BSl wx (.slice ar lr cr) RP → (∀ q, (Value.slice ar lr cr).ownBlock = some q → q < wx.heap.size) → Calls Tryz.prog 15 #[.agg #[.slice a0 lc c0, .slice a1 l1 c1, .string t0, .string t1, .slice ap lix cp, .slice a5 l5 c5], .slice ar lr cr] wx (RCliPost wx (cliO kc p t0 t1 ix i2 RP))) := fun wx hs hv hvb => rClient_c _ _ _ _ _ t0 t1 kc p ix i2 RP (by have := HPL.out; omega) (by have := HJ1.out; omega) (by have := HJ2.out; omega) (by have := HU0.out; omega) (by have := HU1.out; omega) (by have h1 := HRP.out; have h2 := HLR.out; omega) wx hs hv hvb
      generalize cliO kc p t0 t1 ix i2 RP = O at hzk hzh HRC ⊢
      obtain ⟨oe, oK, oH⟩ := O
      simp only at hzk hzh ⊢
      have HZK := hidden hzk
      have HZH := hidden hzh
      obtain ⟨ek2, fk2, rfl⟩ := hzk.len
      obtain ⟨eh2, fh2, rfl⟩ := hzh.len
      clear hzk hzh
      generalize oK.length = loK at HZK ⊢
      generalize oH.length = loH at HZH ⊢
      have hbf : Below we.heap.size we (we.alloc (.cells #[.slice ek2 loK fk2, .slice eh2 loH fh2] 35)) := (Below.refl _ we).alloc (Nat.le_refl _) _
      have hbdf := hbe.trans (hbf.mono hbe.size)
      have HAf := hidden (HAd.out.next hbdf)
      have HRf := hidden (HRd.out.fresh hbdf)
      have HBf := hidden (HBd.out.trans (hbdf.mono HBd.out.size))
      have HZKf := hidden (HZK.out.fresh hbf)
      have HZHf := hidden (HZH.out.fresh hbf)
      have HVBf := hidden (fun wy (hb : Below (we.alloc (.cells #[.slice ek2 loK fk2, .slice eh2 loH fh2] 35)).heap.size (we.alloc (.cells #[.slice ek2 loK fk2, .slice eh2 loH fh2] 35)) wy) => HVBd.out wy (hbdf.trans (hb.mono hbdf.size)))
      have HXf : Hid ((we.alloc (.cells #[.slice ek2 loK fk2, .slice eh2 loH fh2] 35)).heap[we.heap.size]? = some (.cells #[.slice ek2 loK fk2, .slice eh2 loH fh2] 35 (0, 0))) := heap_alloc_new we _
      obtain ⟨z0, z1, z2, z3, z4, z5⟩ := side_cells HAf.out.row
      clear hbe hbf hbdf HAd HRd HBd HZK HZH HVBd
      go_wp2_with fail
      generalize we.alloc (.cells #[.slice ek2 loK fk2, .slice eh2 loH fh2] 35) = wf at HAf HRf HBf HZKf HZHf HVBf HXf z0 z1 z2 z3 z4 z5 ⊢
      generalize we.heap.size = BZ at HXf ⊢
      refine (in_c _ _ _ _ _ _ _ _ _ _ _ _ _ _ wf).mono ?_
      rintro e wg ⟨rfl, hbg⟩
      have HVBg := hidden (HVBf.out wg hbg)
      have HAg := hidden (HAf.out.next hbg)
      have HRg := hidden (HRf.out.fresh hbg)
      have HBg := hidden (HBf.out.trans (hbg.mono HBf.out.size))
      have HZKg := hidden (HZKf.out.fresh hbg)
      have HZHg := hidden (HZHf.out.fresh hbg)
      have HXg : Hid (wg.heap[BZ]? = some (.cells #[.slice ek2 loK fk2, .slice eh2 loH fh2] 35 (0, 0))) := (hbg.block BZ (lt_of_block HXf.out)).trans HXf.out
      clear hbg HAf HRf HBf HZKf HZHf HVBf HXf z0 z1 z2 z3 z4 z5
      go_wp2_with fail
      refine (HRC.out wg HAg.out.s HRg.out HVBg.out).mono ?_
      rintro e wh ⟨hbh, uk, uh, rfl, huk, huh⟩
      simp only at huk huh ⊢
      have HUK := hidden huk
      have HUH := hidden huh
      obtain ⟨gk, jk, rfl⟩ := huk.len
      obtain ⟨gh, jh, rfl⟩ := huh.len
      clear huk huh
      generalize oK.length = loK2 at HUK ⊢
      generalize oH.length = loH2 at HUH ⊢
      have hbi : Below wh.heap.size wh (wh.alloc (.cells #[.slice gk loK2 jk, .slice gh loH2 jh] 38)) := (Below.refl _ wh).alloc (Nat.le_refl _) _
      have hbgi := hbh.trans (hbi.mono hbh.size)
      have HBi := hidden (HBg.out.trans (hbgi.mono HBg.out.size))
      have HZKi := hidden (HZKg.out.fresh hbgi)
      have HZHi := hidden (HZHg.out.fresh hbgi)
      have HUKi := hidden (HUK.out.fresh hbi)
      have HUHi := hidden (HUH.out.fresh hbi)
      obtain ⟨x0, x1⟩ := cells2 ((hbgi.block BZ (lt_of_block HXg.out)).trans HXg.out)
      clear hbh hbi hbgi HAg HRg HBg HZKg HZHg HUK HUH HXg HVBg
      go_wp2_with fail
      refine (lsame_c _ _ _ _ oK oH _ HZKi.out HZHi.out HUKi.out HUHi.out).mono ?_
      rintro e wj ⟨rfl, hbj⟩
      have HBj := hidden (HBi.out.trans (hbj.mono HBi.out.size))
      clear hbj x0 x1 HZKi HZHi HUKi HUHi HBi
      go_wp2_with fail
      refine (HKn.out _ HBj.out).mono ?_
      rintro e wl ⟨rfl, hbl⟩
      have HBl := hidden (HBj.out.trans (hbl.mono HBj.out.size))
      clear hbl
      go_wp2_with fail
      go_ret
      exact ⟨rfl, HBl.out⟩
    · have zz := cell_kept z5 (own_none wc).b
      go_wp2_with (at_builtin; (refine wpList_own _ rfl (.tmp 170) (.tmp 172) 22 rfl wc _ [] rfl (own_none wc) _ i2 rfl (HAb.out.s.is.fresh (own_none wc).b).src (by have := HI2.out; simp; omega) ?_))
      intro v1' w1' o1' _ _
      obtain ⟨ao, co, rfl⟩ := o1'.shape
      have HOw := hidden (o1'.alloc (.cells #[.int .u8 1] 5))
      have HSr : Hid (Src Tryz.prog 1 22 (.slice (some ⟨w1'.heap.size, 0, none⟩) 1 1) 1 (bcells [1]) (w1'.alloc (.cells #[.int .u8 1] 5))) := src_lit [1]
      clear o1'
      generalize hxl : i2.length = lx at HOw ⊢
      have HXL := hidden hxl
      clear hxl
      go_wp2_with (at_builtin; (refine wpList_own _ rfl (.tmp 173) (.tmp 174) 22 rfl wc _ i2 rfl HOw.out _ [1] rfl HSr.out (by have := HI2.out; simp; omega) ?_))
      intro v2' w2' o2' _ _
      have HJx : Hid ((i2 ++ [1]).length ≤ 200) := by show _ ≤ _; rw [List.length_append]; have := HI2.out; simp; omega
      have HOv := hidden o2'.bsl
      obtain ⟨ap, cp, rfl⟩ := o2'.shape
      have HAe := hidden (HAb.out.next o2'.b)
      have HRe := hidden (HRb.out.fresh o2'.b)
      have HBe := hidden (HBb.out.trans (o2'.b.mono HBb.out.size))
      clear o2' HOw HSr HXL zz z0 z1 z2 z3 z4 z5 f2 f3 f4 f5 HAb HRb HBb
      generalize i2 ++ [1] = ix at HOv HJx ⊢
      generalize hlx : ix.length = lix at HOv HJx ⊢
      have HLX := hidden hlx
      clear hlx
      obtain ⟨z0, z1, z2, z3, z4, z5⟩ := side_cells HAe.out.row
      have f5 := frozen_row HAe.out.row 5
      go_wp2_with fail
      have HAd := hidden (HAe.out.set5 HOv.out)
      have HRd := hidden (HAe.out.keepS 5 (.slice ap lix cp) _ _ HRe.out)
      have HBd : Hid (Below w.heap.size w (w2'.setCell ⟨B1, 5, none⟩ (.slice ap lix cp))) := HBe.out.setCell HLO.out _
      have HJ1 : Hid ((i1 : List UInt8).length ≤ 200) := by show _ ≤ _; have h1 := HJx.out; have h2 := HI1.out; have h3 := HLX.out; omega
      have HJ2 : Hid ((ix : List UInt8).length ≤ 200) := by show _ ≤ _; have h1 := HJx.out; have h2 := HI2.out; have h3 := HLX.out; omega
      have HU0 := hidden HZ0.out
      have HU1 := hidden HZ1.out
      clear z0 z1 z2 z3 z4 z5 f5 HAe HRe HBe HOv
      generalize w2'.setCell ⟨B1, 5, none⟩ (.slice ap lix cp) = wd at HAd HRd HBd ⊢
      have HVBd : Hid (∀ wy, Below wd.heap.size wd wy → ∀ q, (Value.slice ar lr cr).ownBlock = some q → q < wy.heap.size) := fun wy hb q e => by
        obtain ⟨bb, oo, cc, e2, hl⟩ := HRd.out.nonnil HRN.out
        rw [e2] at e
        have : bb = q := by simpa [Value.ownBlock] using e
        have := hb.size
        omega
      refine (Client_c _ _ _ _ _ t0 t1 kc p i1 ix RP (by have := HPL.out; omega) (by have := HJ1.out; omega) (by have := HJ2.out; omega) (by have := HU0.out; omega) (by have := HU1.out; omega) (by have h1 := HRP.out; have h2 := HLR.out; omega) wd (HR.out.fresh HBd.out) (HT.out.fresh HBd.out) HAd.out.s HRd.out).mono ?_
      rintro e we ⟨hbe, zk, zh, rfl, hzk, hzh⟩
      have HRC : Hid (∀ (wx : World), SideS wx (.slice a0 lc c0) (.slice a1 l1 c1) (.slice a4 l4 c4) (.slice ap lix cp) kc p i1 ix → BSl wx (.slice ar lr cr) RP → (∀ q, (Value.slice ar lr cr).ownBlock = some q → q < wx.heap.size) → Calls Tryz.prog 15 #[.agg #[.slice a0 lc c0, .slice a1 l1 c1, .string t0, .string t1, .slice a4 l4 c4, .slice ap lix cp], .slice ar lr cr] wx (RCliPost wx (cliO kc p t0 t1 i1 ix RP))) := fun wx hs hv hvb => rClient_c _ _ _ _ _ t0 t1 kc p i1 ix RP (by have := HPL.out; omega) (by have := HJ1.out; omega) (by have := HJ2.out; omega) (by have := HU0.out; omega) (by have := HU1.out; omega) (by have h1 := HRP.out; have h2 := HLR.out; omega) wx hs hv hvb
      generalize cliO kc p t0 t1 i1 ix RP = O at hzk hzh HRC ⊢
      obtain ⟨oe, oK, oH⟩ := O
      simp only at hzk hzh ⊢
      have HZK := hidden hzk
      have HZH := hidden hzh
      obtain ⟨ek2, fk2, rfl⟩ := hzk.len
      obtain ⟨eh2, fh2, rfl⟩ := hzh.len
      clear hzk hzh
      generalize oK.length = loK at HZK ⊢
      generalize oH.length = loH at HZH ⊢
      have hbf : Below we.heap.size we (we.alloc (.cells #[.slice ek2 loK fk2, .slice eh2 loH fh2] 35)) := (Below.refl _ we).alloc (Nat.le_refl _) _
      have hbdf := hbe.trans (hbf.mono hbe.size)
      have HAf := hidden (HAd.out.next hbdf)
      have HRf := hidden (HRd.out.fresh hbdf)
      have HBf := hidden (HBd.out.trans (hbdf.mono HBd.out.size))
      have HZKf := hidden (HZK.out.fresh hbf)
      have HZHf := hidden (HZH.out.fresh hbf)
      have HVBf := hidden (fun wy (hb : Below (we.alloc (.cells #[.slice ek2 loK fk2, .slice eh2 loH fh2] 35)).heap.size (we.alloc (.cells #[.slice ek2 loK fk2, .slice eh2 loH fh2] 35)) wy) => HVBd.out wy (hbdf.trans (hb.mono hbdf.size)))
      have HXf : Hid ((we.alloc (.cells #[.slice ek2 loK fk2, .slice eh2 loH fh2] 35)).heap[we.heap.size]? = some (.cells #[.slice ek2 loK fk2, .slice eh2 loH fh2] 35 (0, 0))) := heap_alloc_new we _
      obtain ⟨z0, z1, z2, z3, z4, z5⟩ := side_cells HAf.out.row
      clear hbe hbf hbdf HAd HRd HBd HZK HZH HVBd
      go_wp2_with fail
      generalize we.alloc (.cells #[.slice ek2 loK fk2, .slice eh2 loH fh2] 35) = wf at HAf HRf HBf HZKf HZHf HVBf HXf z0 z1 z2 z3 z4 z5 ⊢
      generalize we.heap.size = BZ at HXf ⊢
      refine (in_c _ _ _ _ _ _ _ _ _ _ _ _ _ _ wf).mono ?_
      rintro e wg ⟨rfl, hbg⟩
      have HVBg := hidden (HVBf.out wg hbg)
      have HAg := hidden (HAf.out.next hbg)
      have HRg := hidden (HRf.out.fresh hbg)
      have HBg := hidden (HBf.out.trans (hbg.mono HBf.out.size))
      have HZKg := hidden (HZKf.out.fresh hbg)
      have HZHg := hidden (HZHf.out.fresh hbg)
      have HXg : Hid (wg.heap[BZ]? = some (.cells #[.slice ek2 loK fk2, .slice eh2 loH fh2] 35 (0, 0))) := (hbg.block BZ (lt_of_block HXf.out)).trans HXf.out
      clear hbg HAf HRf HBf HZKf HZHf HVBf HXf z0 z1 z2 z3 z4 z5
      go_wp2_with fail
      refine (HRC.out wg HAg.out.s HRg.out HVBg.out).mono ?_
      rintro e wh ⟨hbh, uk, uh, rfl, huk, huh⟩
      simp only at huk huh ⊢
      have HUK := hidden huk
      have HUH := hidden huh
      obtain ⟨gk, jk, rfl⟩ := huk.len
      obtain ⟨gh, jh, rfl⟩ := huh.len
      clear huk huh
      generalize oK.length = loK2 at HUK ⊢
      generalize oH.length = loH2 at HUH ⊢
      have hbi : Below wh.heap.size wh (wh.alloc (.cells #[.slice gk loK2 jk, .slice gh loH2 jh] 38)) := (Below.refl _ wh).alloc (Nat.le_refl _) _
      have hbgi := hbh.trans (hbi.mono hbh.size)
      have HBi := hidden (HBg.out.trans (hbgi.mono HBg.out.size))
      have HZKi := hidden (HZKg.out.fresh hbgi)
      have HZHi := hidden (HZHg.out.fresh hbgi)
      have HUKi := hidden (HUK.out.fresh hbi)
      have HUHi := hidden (HUH.out.fresh hbi)
      obtain ⟨x0, x1⟩ := cells2 ((hbgi.block BZ (lt_of_block HXg.out)).trans HXg.out)
      clear hbh hbi hbgi HAg HRg HBg HZKg HZHg HUK HUH HXg HVBg
      go_wp2_with fail
      refine (lsame_c _ _ _ _ oK oH _ HZKi.out HZHi.out HUKi.out HUHi.out).mono ?_
      rintro e wj ⟨rfl, hbj⟩
      have HBj := hidden (HBi.out.trans (hbj.mono HBi.out.size))
      clear hbj x0 x1 HZKi HZHi HUKi HUHi HBi
      go_wp2_with fail
      refine (HKn.out _ HBj.out).mono ?_
      rintro e wl ⟨rfl, hbl⟩
      have HBl := hidden (HBj.out.trans (hbl.mono HBj.out.size))
      clear hbl
      go_wp2_with fail
      go_ret
      exact ⟨rfl, HBl.out⟩
    · go_wp2_with fail
      refine (HKn.out _ HBb.out).mono ?_
      rintro e wd ⟨rfl, hbd⟩
      have HBd := hidden (HBb.out.trans (hbd.mono HBb.out.size))
      clear hbd
      go_wp2_with fail
      go_ret
      exact ⟨rfl, HBd.out⟩
end Go.Proofs.YtookapglookphaaGreatDoor
