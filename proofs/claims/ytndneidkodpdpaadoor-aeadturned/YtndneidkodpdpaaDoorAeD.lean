/- The walk of the law AeadTurned. -/
import Derived.Test.YtndneidkodpdpaaDoorAeL
namespace Go.Proofs.YtndneidkodpdpaaDoor
open Go Go.RowKit

theorem turned_seal {S X tag : List UInt8} {n k : Nat} {t : UInt8} (hS : S = X ++ tag) (hX : X.length = n) (hk : k < tag.length) (ht : t ≠ 0) :
    (S.set (n + k) (S.getD (n + k) 0 ^^^ t)).take n = X ∧ (S.set (n + k) (S.getD (n + k) 0 ^^^ t)).drop n ≠ tag := by
  subst hS
  have hg : (X ++ tag).getD (n + k) 0 = tag.getD k 0 := by
    simp only [List.getD_eq_getElem?_getD]
    rw [List.getElem?_append_right (by omega), hX, Nat.add_sub_cancel_left]
  rw [hg, List.set_append_right _ _ (by omega), hX, Nat.add_sub_cancel_left, List.take_left' hX, List.drop_left' hX]
  refine ⟨rfl, fun h => ht ?_⟩
  have h1 : (tag.set k (tag.getD k 0 ^^^ t)).getD k 0 = tag.getD k 0 := by rw [h]
  rw [show (tag.set k (tag.getD k 0 ^^^ t)).getD k 0 = tag.getD k 0 ^^^ t by simp [List.getD_eq_getElem?_getD, hk]] at h1
  have h2 : tag.getD k 0 ^^^ (tag.getD k 0 ^^^ t) = tag.getD k 0 ^^^ tag.getD k 0 := by rw [h1]
  rw [← UInt8.xor_assoc, UInt8.xor_self, UInt8.zero_xor] at h2
  exact h2

set_option maxHeartbeats 3200000 in
set_option maxRecDepth 100000 in
theorem aeadTurned_c (v0 v1 v2 v3 : Value) (z0 z1 z2 z3 : List UInt8) (at_ : Int) (turn : UInt8) (w : World) (hcl : Cl w) (h0 : BSl w v0 z0) (h1 : BSl w v1 z1) (h2 : BSl w v2 z2) (h3 : BSl w v3 z3) :
    Calls Tryd.prog 8 #[v0, v1, v2, v3, .int .i64 at_, .int .u8 turn.toNat] w fun e w' => e = .returned (.bool true) ∧ Below w.heap.size w w' := by
  have HCL := hidden hcl
  have HS0 := hidden (sized_b 32 (by omega) v0 z0 w h0)
  have H1 := hidden h1
  have H2 := hidden h2
  have H3 := hidden h3
  obtain ⟨a0, n0, rfl⟩ := h0.len
  obtain ⟨a1, n1, rfl⟩ := h1.len
  obtain ⟨a2, n2, rfl⟩ := h2.len
  obtain ⟨a3, n3, rfl⟩ := h3.len
  clear h0 h1 h2 h3 hcl
  by_cases ht0 : turn = 0
  · subst ht0
    clear H1 H2 H3 HS0
    go_enter Tryd.func8, Tryd.ntmps8
    go_wp2_with fail
    refine (aknown_c w HCL.out).mono ?_
    rintro e w1 ⟨rfl, hb1⟩
    have HB1 := hidden hb1
    clear hb1
    go_wp2
    go_ret
    exact ⟨rfl, HB1.out⟩
  have HT0 := hidden ht0
  have ht1 : ((turn.toNat : Int) == 0) = false := by
    simp
    intro h
    exact ht0 (UInt8.toNat_inj.1 (by simpa using h))
  clear ht0
  obtain ⟨tn, htn⟩ : ∃ tn, tn = turn.toNat := ⟨_, rfl⟩
  have HTN := hidden htn
  rw [← htn] at ht1 ⊢
  clear htn
  go_enter Tryd.func8, Tryd.ntmps8
  go_wp2_with fail
  refine HS0.out.mono ?_
  rintro e w1 ⟨rfl, hk, hb1⟩
  have hkl := sizedL_length z0 32
  generalize sizedL z0 32 = key at hk hkl
  have HK1 := hidden hk
  have HB1 := hidden hb1
  clear hk hb1 HS0
  go_wp2_with fail
  refine (sized_b 12 (by omega) _ z1 w1 (H1.out.fresh HB1.out)).mono ?_
  rintro e w2 ⟨rfl, hn, hb2⟩
  have hnl := sizedL_length z1 12
  generalize sizedL z1 12 = nonce at hn hnl
  have HOK := hidden (ok_of hkl hnl)
  have HN2 := hidden hn
  have HK2 := hidden (HK1.out.fresh hb2)
  have HB2 := hidden (HB1.out.trans (hb2.mono HB1.out.size))
  clear hn hb2 H1 HK1 HB1 hkl hnl
  go_wp2_with fail
  refine (cut_c 100 (by omega) _ z2 w2 (H2.out.fresh HB2.out)).mono ?_
  rintro e w2' ⟨va, rfl, ha, _, rfl⟩
  have hal : (z2.take 100).length ≤ 100 := by simp; omega
  generalize z2.take 100 = beside at ha hal
  obtain ⟨aa, ac, rfl⟩ := ha.len
  have HA2 := hidden ha
  clear ha H2
  go_wp2_with fail
  refine (cut_c 300 (by omega) _ z3 w2' (H3.out.fresh HB2.out)).mono ?_
  rintro e w2 ⟨vb, rfl, hx, _, rfl⟩
  have hbl : (z3.take 300).length ≤ 300 := by simp; omega
  generalize z3.take 300 = b at hx hbl
  obtain ⟨ba, bc, rfl⟩ := hx.len
  obtain ⟨n, hn⟩ : ∃ n, n = b.length := ⟨_, rfl⟩
  have HNB := hidden hn
  rw [← hn] at hx hbl ⊢
  have HX2 := hidden hx
  have HCL2 := hidden (HCL.out.fresh HB2.out)
  obtain ⟨gk, hgk⟩ : ∃ gk, gk = w.heap.size := ⟨_, rfl⟩
  obtain ⟨gn, hgn⟩ : ∃ gn, gn = w1.heap.size := ⟨_, rfl⟩
  rw [← hgk] at HK2 ⊢
  rw [← hgn] at HN2 ⊢
  clear hx H3 hn hgk hgn HCL
  go_wp2_with fail
  refine (Seal_c _ _ _ _ key nonce beside b w2 HCL2.out (by omega) (by have := HNB.out; omega) HK2.out HN2.out HA2.out HX2.out).mono ?_
  rintro e w3 hT
  have hsl := sealT_length beside b HOK.out
  obtain ⟨hb3, gs, cs, rfl, hs3⟩ := hT.row (by intro e; rw [e] at hsl; simp at hsl)
  rw [sealE_ok HOK.out]
  have hcs : n + 16 ≤ cs := by have := hs3.2.1; have := HNB.out; omega
  rw [hsl, ← HNB.out]
  have HS3 := hidden hs3
  have HSL : Hid ((sealT key nonce beside b).length = n + 16) := by show _ = _; rw [hsl, ← HNB.out]
  have HB3 := hidden (HB2.out.trans (hb3.mono HB2.out.size))
  have HCL3 := hidden (HCL2.out.fresh hb3)
  have HK3 := hidden (HK2.out.fresh hb3)
  have HN3 := hidden (HN2.out.fresh hb3)
  have HA3 := hidden (HA2.out.fresh hb3)
  have HX3 := hidden (HX2.out.fresh hb3)
  have HB23 := hidden hb3
  clear hT hb3 hs3 hsl
  obtain ⟨m, hm⟩ : ∃ m, m = n + 16 := ⟨_, rfl⟩
  have hmi : (n : Int) + 16 = (m : Int) := by omega
  have hmb : m ≤ 316 := by omega
  have hmw : IntKind.i64.wrap (m : Int) = (m : Int) := by rw [IntKind.wrap_i64]; omega
  rw [← hm] at HSL hcs ⊢
  have HM := hidden hm
  clear hm
  go_wp2_with fail
  refine (within_c at_ 15 (by omega) w3).mono ?_
  rintro e w3' ⟨k, rfl, hk, rfl⟩
  obtain ⟨S, hS⟩ : ∃ S, S = sealT key nonce beside b := ⟨_, rfl⟩
  have hSe : S = xorL key 1 nonce b ++ tagL key nonce beside (xorL key 1 nonce b) := by rw [hS, sealT, if_pos HOK.out]
  rw [← hS] at HS3 HSL
  have HTS := hidden (turned_seal (n := n) (k := k) hSe (by rw [xorL_length, HNB.out]) (by rw [tagL_length]; omega) HT0.out)
  clear hS hSe
  obtain ⟨K, hK⟩ : ∃ K, K = n + k := ⟨_, rfl⟩
  rw [← hK] at HTS
  have hKi : (n : Int) + (k : Int) = (K : Int) := by omega
  have hKw : IntKind.i64.wrap (K : Int) = (K : Int) := by rw [IntKind.wrap_i64]; omega
  have hKm : (K : Int) < (m : Int) := by omega
  have hc3 := HS3.out.cell K (by rw [HSL.out]; omega)
  have hf3 := HS3.out.frozen K
  have hxb := xbyte (S.getD K 0) turn
  rw [← HTN.out] at hxb
  have HS4 := hidden (HS3.out.set K (S.getD K 0 ^^^ turn))
  have HSL4 : Hid ((S.set K (S.getD K 0 ^^^ turn)).length = m) := by show _ = _; rw [List.length_set]; exact HSL.out
  generalize (S.getD K 0).toNat = y0 at hc3 hxb
  generalize S.set K (S.getD K 0 ^^^ turn) = S4 at HS4 HTS HSL4
  generalize (S.getD K 0 ^^^ turn).toNat = y1 at hxb HS4
  have hgs : w2.heap.size ≤ gs := HS3.out.1
  clear hK hk
  have HB24 := hidden (Below.setCell (p := ⟨gs, K, none⟩) HB23.out hgs (.int .u8 (y1 : Int)))
  clear HB23 HCL3 HK3 HN3 HA3 HX3 HB3 HS3
  go_upto_region 12 with fail
  generalize w3'.setCell ⟨gs, K, none⟩ (.int .u8 (y1 : Int)) = w4 at HS4 HB24 ⊢
  have HS4b : Hid (BSl w4 (.slice (some ⟨gs, 0, none⟩) m cs) S4) := by
    have := HS4.out.bsl
    rwa [HSL4.out] at this
  have hE4 := open_turned beside b S4 HOK.out (by rw [HSL4.out, HM.out, HNB.out]) (by rw [← HNB.out]; exact HTS.out.1) (by rw [← HNB.out]; exact HTS.out.2)
  have hT4 := openT_not (key := key) (nonce := nonce) (beside := beside) (s := S4) (by rw [hE4]; omega)
  have HE4 := hidden hE4
  have HT4 := hidden hT4
  clear hE4 hT4 hc3 hf3 hxb HTS
  go_wp2_with fail
  refine (Open_c _ _ _ _ key nonce beside S4 w4 (HCL2.out.fresh HB24.out) (by omega) (by have := HSL4.out; omega) (HK2.out.fresh HB24.out) (HN2.out.fresh HB24.out) (HA2.out.fresh HB24.out) HS4b.out).mono ?_
  rintro e w5 hT
  rw [HE4.out, HT4.out] at hT
  obtain ⟨hb5, xa, xc, rfl, _⟩ := hT.sl
  have HB25 := hidden (HB24.out.trans (hb5.mono HB24.out.size))
  have HS5 := hidden (HS4b.out.fresh hb5)
  clear hT hb5 HB24 HS4b HS4 HE4 HT4
  have HS5c : Hid (BSl w5 (.slice (some ⟨gs, 0, none⟩) 15 cs) (S4.take 15)) := by
    have := HS5.out.part (i := 0) (j := 15) (by have := HM.out; omega)
    show BSl _ _ _
    simpa using this
  have hL5 : (S4.take 15).length = 15 := by rw [List.length_take, HSL4.out]; have := HM.out; omega
  have hE5 := open_short beside (S4.take 15) HOK.out (by omega)
  have hT5 := openT_not (key := key) (nonce := nonce) (beside := beside) (s := S4.take 15) (by rw [hE5]; omega)
  generalize S4.take 15 = S5 at HS5c hL5 hE5 hT5
  have HE5 := hidden hE5
  have HT5 := hidden hT5
  have HL5 := hidden hL5
  have hcs15 : (15 : Int) ≤ (cs : Int) := by have := HM.out; omega
  have hm15 : (15 : Int) ≤ (m : Int) := by have := HM.out; omega
  clear hE5 hT5 hL5
  go_wp2_with fail
  refine (Open_c _ _ _ _ key nonce beside S5 w5 (HCL2.out.fresh HB25.out) (by omega) (by have := HL5.out; omega) (HK2.out.fresh HB25.out) (HN2.out.fresh HB25.out) (HA2.out.fresh HB25.out) HS5c.out).mono ?_
  rintro e w6 hT
  rw [HE5.out, HT5.out] at hT
  obtain ⟨hb6, ya, yc, rfl, _⟩ := hT.sl
  have HB26 := hidden (HB25.out.trans (hb6.mono HB25.out.size))
  clear hT hb6 HB25 HS5 HS5c HE5 HT5
  go_wp2_with fail
  refine (aknown_c w6 (HCL2.out.fresh HB26.out)).mono ?_
  rintro e w7 ⟨rfl, hb7⟩
  have HB27 := hidden (HB26.out.trans (hb7.mono HB26.out.size))
  clear hb7
  go_wp2
  go_ret
  exact ⟨rfl, HB2.out.trans (HB27.out.mono HB2.out.size)⟩
end Go.Proofs.YtndneidkodpdpaaDoor
