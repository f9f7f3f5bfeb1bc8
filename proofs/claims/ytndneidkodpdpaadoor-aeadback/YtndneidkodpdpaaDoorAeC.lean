/- The walk of the law AeadBack. -/
import Derived.Test.YtndneidkodpdpaaDoorAeL
import Derived.Deep.RegionHeld3
namespace Go.Proofs.YtndneidkodpdpaaDoor
open Go Go.RowKit

set_option maxHeartbeats 3200000 in
set_option maxRecDepth 100000 in
theorem aeadBack_c (v0 v1 v2 v3 : Value) (z0 z1 z2 z3 : List UInt8) (w : World) (hcl : Cl w) (h0 : BSl w v0 z0) (h1 : BSl w v1 z1) (h2 : BSl w v2 z2) (h3 : BSl w v3 z3) :
    Calls Tryd.prog 7 #[v0, v1, v2, v3] w fun e w' => e = .returned (.bool true) ∧ Below w.heap.size w w' := by
  have HCL := hidden hcl
  have HS0 := hidden (sized_b 32 (by omega) v0 z0 w h0)
  have H1 := hidden h1
  have H2 := hidden h2
  have H3 := hidden h3
  obtain ⟨a0, n0, rfl⟩ := h0.len
  obtain ⟨a1, n1, rfl⟩ := h1.len
  obtain ⟨a2, n2, rfl⟩ := h2.len
  obtain ⟨a3, n3, rfl⟩ := h3.len
  clear h0 h1 h2 h3 hcl
  go_enter Tryd.func7, Tryd.ntmps7
  go_wp2_with fail
  refine HS0.out.mono ?_
  rintro e w1 ⟨rfl, hk, hb1⟩
  have hkl := sizedL_length z0 32
  generalize sizedL z0 32 = key at hk hkl
  have HK1 := hidden hk
  have HB1 := hidden hb1
  clear hk hb1 HS0
  go_wp2_with fail
  refine (sized_b 12 (by omega) _ z1 w1 (H1.out.fresh HB1.out)).mono ?_
  rintro e w2 ⟨rfl, hn, hb2⟩
  have hnl := sizedL_length z1 12
  generalize sizedL z1 12 = nonce at hn hnl
  have HOK := hidden (ok_of hkl hnl)
  have HN2 := hidden hn
  have HK2 := hidden (HK1.out.fresh hb2)
  have HB2 := hidden (HB1.out.trans (hb2.mono HB1.out.size))
  clear hn hb2 H1 HK1 HB1 hkl hnl
  go_wp2_with fail
  refine (cut_c 100 (by omega) _ z2 w2 (H2.out.fresh HB2.out)).mono ?_
  rintro e w2' ⟨va, rfl, ha, _, rfl⟩
  have hal : (z2.take 100).length ≤ 100 := by simp; omega
  generalize z2.take 100 = beside at ha hal
  obtain ⟨aa, ac, rfl⟩ := ha.len
  have HA2 := hidden ha
  clear ha H2
  go_wp2_with fail
  refine (cut_c 300 (by omega) _ z3 w2' (H3.out.fresh HB2.out)).mono ?_
  rintro e w2 ⟨vb, rfl, hx, _, rfl⟩
  have hbl : (z3.take 300).length ≤ 300 := by simp; omega
  generalize z3.take 300 = b at hx hbl
  obtain ⟨ba, bc, rfl⟩ := hx.len
  obtain ⟨n, hn⟩ : ∃ n, n = b.length := ⟨_, rfl⟩
  have HNB := hidden hn
  rw [← hn] at hx hbl ⊢
  have HX2 := hidden hx
  have HCL2 := hidden (HCL.out.fresh HB2.out)
  obtain ⟨gk, hgk⟩ : ∃ gk, gk = w.heap.size := ⟨_, rfl⟩
  obtain ⟨gn, hgn⟩ : ∃ gn, gn = w1.heap.size := ⟨_, rfl⟩
  rw [← hgk] at HK2 ⊢
  rw [← hgn] at HN2 ⊢
  clear hx H3 hn hgk hgn HCL
  go_wp2_with fail
  refine (Seal_c _ _ _ _ key nonce beside b w2 HCL2.out (by omega) (by have := HNB.out; omega) HK2.out HN2.out HA2.out HX2.out).mono ?_
  rintro e w3 hT
  have hsl := sealT_length beside b HOK.out
  obtain ⟨hb3, gs, cs, rfl, hs3⟩ := hT.row (by intro e; rw [e] at hsl; simp at hsl)
  rw [sealE_ok HOK.out]
  have hcs : n + 16 ≤ cs := by have := hs3.2.1; have := HNB.out; omega
  rw [hsl, ← HNB.out]
  have HS3 := hidden hs3
  have HSL : Hid ((sealT key nonce beside b).length = n + 16) := by show _ = _; rw [hsl, ← HNB.out]
  have HB3 := hidden (HB2.out.trans (hb3.mono HB2.out.size))
  have HCL3 := hidden (HCL2.out.fresh hb3)
  have HK3 := hidden (HK2.out.fresh hb3)
  have HN3 := hidden (HN2.out.fresh hb3)
  have HA3 := hidden (HA2.out.fresh hb3)
  have HX3 := hidden (HX2.out.fresh hb3)
  clear hT hb3 hs3 hsl HB2 HCL2 HK2 HN2 HA2 HX2
  obtain ⟨m, hm⟩ : ∃ m, m = n + 16 := ⟨_, rfl⟩
  have hmi : (n : Int) + 16 = (m : Int) := by omega
  have hmb : m ≤ 316 := by omega
  have hmw : IntKind.i64.wrap (m : Int) = (m : Int) := by rw [IntKind.wrap_i64]; omega
  rw [← hm] at HSL hcs ⊢
  have HM := hidden hm
  clear hm
  have HS3b : Hid (BSl w3 (.slice (some ⟨gs, 0, none⟩) m cs) (sealT key nonce beside b)) := by
    have := HS3.out.bsl
    rwa [HSL.out] at this
  go_wp2_with fail
  refine (Open_c _ _ _ _ key nonce beside (sealT key nonce beside b) w3 HCL3.out (by omega) (by have := HSL.out; omega) HK3.out HN3.out HA3.out HS3b.out).mono ?_
  rintro e w4 hT
  rw [open_seal beside b HOK.out, open_text beside b HOK.out] at hT
  obtain ⟨hb4, xa, xc, rfl, hx4⟩ := hT.sl
  rw [← HNB.out] at hx4 ⊢
  have HT4 := hidden hx4
  have HB4 := hidden (HB3.out.trans (hb4.mono HB3.out.size))
  have HCL4 := hidden (HCL3.out.fresh hb4)
  have HK4 := hidden (HK3.out.fresh hb4)
  have HN4 := hidden (HN3.out.fresh hb4)
  have HX4 := hidden (HX3.out.fresh hb4)
  have HS4 := hidden (HS3b.out.fresh hb4)
  clear hT hb4 hx4 HB3 HCL3 HK3 HN3 HA3 HX3 HS3 HS3b
  go_wp2_with fail
  refine (Xor_c _ _ _ key nonce b 1 (by omega) (by omega) (by have := HNB.out; omega) w4 HK4.out HN4.out HX4.out).mono ?_
  rintro e w5 hT
  obtain ⟨hb5, vh, rfl, hh5, _⟩ := hT.okS HOK.out
  obtain ⟨ha, hc, rfl⟩ := hh5.len
  rw [xorL_length, ← HNB.out] at hh5 ⊢
  have HB5 := hidden (HB4.out.trans (hb5.mono HB4.out.size))
  have HKN : Hid (∀ w', Below w5.heap.size w5 w' → Calls Tryd.prog 20 #[] w' fun e w'' => e = .returned (.bool true) ∧ Below w5.heap.size w5 w'') := by
    intro w' hb
    exact (aknown_c w' ((HCL4.out.fresh hb5).fresh hb)).mono fun e w'' ⟨h3, h4⟩ => ⟨h3, hb.trans (h4.mono hb.size)⟩
  obtain ⟨Sb, hSb⟩ : ∃ S : ByteArray, S = ⟨b.toArray⟩ := ⟨_, rfl⟩
  obtain ⟨Sh, hSh⟩ : ∃ S : ByteArray, S = ⟨(xorL key 1 nonce b).toArray⟩ := ⟨_, rfl⟩
  have HH : Hid (∀ w', Below w5.heap.size w5 w' → ((convert 22 9 (Value.slice xa n xc)).run Tryd.prog w' = .ok (.string Sb) w' ∧ (convert 22 9 (Value.slice ba n bc)).run Tryd.prog w' = .ok (.string Sb) w' ∧ (convert 22 9 (Value.slice (some ⟨gs, 0, none⟩) n cs)).run Tryd.prog w' = .ok (.string Sh) w' ∧ (convert 22 9 (Value.slice ha n hc)).run Tryd.prog w' = .ok (.string Sh) w' ∧ Below w5.heap.size w5 w')) := by
    intro w' hb
    have hst : BSl w5 (.slice (some ⟨gs, 0, none⟩) n cs) (xorL key 1 nonce b) := by
      have h1 := (HS4.out.fresh hb5).part (i := 0) (j := n) (by omega)
      rw [List.drop_zero, Nat.sub_zero, HNB.out, seal_take beside b HOK.out, ← HNB.out] at h1
      exact h1
    rw [hSb, hSh]
    exact ⟨run_string ((HT4.out.fresh hb5).fresh hb), run_string ((HX4.out.fresh hb5).fresh hb), run_string (hst.fresh hb), run_string (hh5.fresh hb), hb⟩
  have hcs2 : (n : Int) ≤ (cs : Int) := by omega
  clear hT hb5 hh5 hSb hSh HCL4 HK4 HN4 HX4 HS4 HT4 HB4
  go_wp2_with fail
  go_region_held3 (fun w' => (convert 22 9 (Value.slice xa n xc)).run Tryd.prog w' = .ok (.string Sb) w' ∧ (convert 22 9 (Value.slice ba n bc)).run Tryd.prog w' = .ok (.string Sb) w' ∧ (convert 22 9 (Value.slice (some ⟨gs, 0, none⟩) n cs)).run Tryd.prog w' = .ok (.string Sh) w' ∧ (convert 22 9 (Value.slice ha n hc)).run Tryd.prog w' = .ok (.string Sh) w' ∧ Below w5.heap.size w5 w')
    (first | exact HH.out _ (Below.refl _ _).drew | exact HH.out _ (below_drewN (Below.refl _ _) _) | exact HH.out _ hb12)
    (first | (go_at_call 20; refine (HKN.out _ (aheld_b (by assumption))).mono ?_; rintro e w12 ⟨rfl, hb12⟩))
  all_goals go_wp2
  all_goals go_ret
  all_goals exact ⟨rfl, HB5.out.trans (hb12.mono HB5.out.size)⟩
end Go.Proofs.YtndneidkodpdpaaDoor
