/- The walk of the law AeadTells. -/
import Derived.Test.YtndneidkodpdpaaDoorAeL
import Derived.Test.YtndneidkodpdpaaDoorAeS
namespace Go.Proofs.YtndneidkodpdpaaDoor
open Go Go.RowKit

set_option maxHeartbeats 6400000 in
set_option maxRecDepth 100000 in
theorem aeadTells_c (v0 v1 v2 v3 : Value) (z0 z1 z2 z3 : List UInt8) (whole : Bool) (at_ : Int) (turn : UInt8) (w : World) (hcl : Cl w) (h0 : BSl w v0 z0) (h1 : BSl w v1 z1) (h2 : BSl w v2 z2) (h3 : BSl w v3 z3) :
    Calls Tryd.prog 6 #[v0, v1, v2, v3, .bool whole, .int .i64 at_, .int .u8 turn.toNat] w fun e w' => e = .returned (.bool true) ∧ Below w.heap.size w w' := by
  have HCL := hidden hcl
  have HS0 := hidden (cut_c 40 (by omega) v0 z0 w h0)
  have HS1 := hidden (cut_c 20 (by omega) v1 z1 w h1)
  have HS2 := hidden (cut_c 100 (by omega) v2 z2 w h2)
  have HS3 := hidden (cut_c 300 (by omega) v3 z3 w h3)
  obtain ⟨a0, n0, rfl⟩ := h0.len
  obtain ⟨a1, n1, rfl⟩ := h1.len
  obtain ⟨a2, n2, rfl⟩ := h2.len
  obtain ⟨a3, n3, rfl⟩ := h3.len
  obtain ⟨tn, htn⟩ : ∃ tn, tn = turn.toNat := ⟨_, rfl⟩
  have HTN := hidden htn
  rw [← htn]
  clear h0 h1 h2 h3 hcl htn
  go_enter Tryd.func6, Tryd.ntmps6
  go_wp2_with fail
  refine HS0.out.mono ?_
  rintro e w' ⟨vk, rfl, hk, _, rfl⟩
  generalize z0.take 40 = key at hk
  obtain ⟨ka, kc, rfl⟩ := hk.len
  have HK := hidden hk
  clear hk HS0
  go_wp2_with fail
  refine HS1.out.mono ?_
  rintro e w' ⟨vn, rfl, hn, _, rfl⟩
  generalize z1.take 20 = nonce at hn
  obtain ⟨na, nc, rfl⟩ := hn.len
  have HN := hidden hn
  clear hn HS1
  go_wp2_with fail
  refine HS2.out.mono ?_
  rintro e w' ⟨va, rfl, ha, _, rfl⟩
  have hal : (z2.take 100).length ≤ 100 := by simp; omega
  generalize z2.take 100 = beside at ha hal
  obtain ⟨aa, ac, rfl⟩ := ha.len
  have HA := hidden ha
  clear ha HS2
  go_wp2_with fail
  refine HS3.out.mono ?_
  rintro e w' ⟨vb, rfl, hx, _, rfl⟩
  have hbl : (z3.take 300).length ≤ 300 := by simp; omega
  generalize z3.take 300 = b at hx hbl
  obtain ⟨ba, bc, rfl⟩ := hx.len
  have HX := hidden hx
  clear hx HS3
  cases whole
  · have HC0 := hidden HCL.out
    generalize hkl : key.length = kl at HK ⊢
    generalize hnl : nonce.length = nl at HN ⊢
    clear hkl hnl
    go_wp2_with fail
    refine (roomy_c _ b w' HX.out (by omega)).mono ?_
    rintro e w3 ⟨g, rfl, hgl, hg3, hb3⟩
    have HG3 := hidden hg3
    have HF3 := hidden (BSl.roomy hg3 (by omega))
    have HB3 := hidden hb3
    clear hg3 hb3 hgl
    obtain ⟨n, hn⟩ : ∃ n, n = b.length := ⟨_, rfl⟩
    have HNB := hidden hn
    rw [← hn] at HX HF3 hbl ⊢
    clear hn
    have hn80 : (n : Int) ≤ (n : Int) + 80 := by omega
    go_wp2_with fail
    refine (Seal_c _ _ _ _ key nonce beside b w3 (HC0.out.fresh HB3.out) (by omega) (by have := HNB.out; omega) (HK.out.fresh HB3.out) (HN.out.fresh HB3.out) (HA.out.fresh HB3.out) HF3.out).mono ?_
    rintro e w4 hT
    obtain ⟨hb4, xa, xc, rfl, hx4⟩ := hT.told.sl
    have HB4 := hidden (HB3.out.trans (hb4.mono HB3.out.size))
    have HX4 := hidden hx4
    have HG4 := hidden ((Keeps.ofFresh (S := fun _ => False) hb4).block g (lt_of_block HG3.out) (fun h => h) |>.trans HG3.out)
    clear hT hb4 hx4 HG3 HB3 HF3 hn80
    go_wp2_with fail
    refine (rSeal_c _ _ _ _ key nonce beside b w4 (by omega) (by have := HNB.out; omega) (HK.out.fresh HB4.out) (HN.out.fresh HB4.out) (HA.out.fresh HB4.out) (HX.out.fresh HB4.out)).mono ?_
    rintro e w5 ⟨hb5, vy, rfl, ho5⟩
    obtain ⟨ya, yc, rfl⟩ := ownsRow_shape ho5
    have HB5 := hidden (HB4.out.trans (hb5.mono HB4.out.size))
    have HX5 := hidden (HX4.out.fresh hb5)
    have HG5 := hidden ((Keeps.ofFresh (S := fun _ => False) hb5).block g (lt_of_block HG4.out) (fun h => h) |>.trans HG4.out)
    have HO5 := hidden (own_mono ho5 HB4.out.size)
    clear hb5 ho5 HX4 HG4 HB4
    go_wp2_with fail
    refine (Open_c _ _ _ _ key nonce beside b w5 (HC0.out.fresh HB5.out) (by omega) (by have := HNB.out; omega) (HK.out.fresh HB5.out) (HN.out.fresh HB5.out) (HA.out.fresh HB5.out) (HX.out.fresh HB5.out)).mono ?_
    rintro e w6 hT
    obtain ⟨hb6, pa, pc, rfl, hp6⟩ := hT.sl
    have HB6 := hidden (HB5.out.trans (hb6.mono HB5.out.size))
    have HX6 := hidden (HX5.out.fresh hb6)
    have HP6 := hidden hp6
    have HG6 := hidden ((Keeps.ofFresh (S := fun _ => False) hb6).block g (lt_of_block HG5.out) (fun h => h) |>.trans HG5.out)
    have HO6 := hidden ((Keeps.ofFresh (S := fun _ => False) hb6).row HO5.out (fun _ _ h => h))
    clear hT hb6 hp6 HX5 HG5 HB5 HO5
    go_wp2_with fail
    refine (rOpen_c _ _ _ _ key nonce beside b w6 (by omega) (by have := HNB.out; omega) (HK.out.fresh HB6.out) (HN.out.fresh HB6.out) (HA.out.fresh HB6.out) (HX.out.fresh HB6.out)).mono ?_
    rintro e w7 hT
    obtain ⟨hb7, qa, qc, rfl, hq7⟩ := hT.sl
    have HB7 := hidden (HB6.out.trans (hb7.mono HB6.out.size))
    have HG7 := hidden ((Keeps.ofFresh (S := fun _ => False) hb7).block g (lt_of_block HG6.out) (fun h => h) |>.trans HG6.out)
    have HO7 := hidden ((Keeps.ofFresh (S := fun _ => False) hb7).row HO6.out (fun _ _ h => h))
    have hs1 := run_string (HX6.out.fresh hb7)
    have hs2 := run_string (BSl.ofRow HO7.out)
    have hs3 := run_string (HP6.out.fresh hb7)
    have hs4 := run_string hq7
    generalize (⟨(sealT key nonce beside b).toArray⟩ : ByteArray) = T1 at hs1 hs2
    generalize (⟨(openT key nonce beside b).toArray⟩ : ByteArray) = T2 at hs3 hs4
    generalize openE key nonce beside b = E2
    generalize hlo : (openT key nonce beside b).length = lo at hs3 hs4 ⊢
    have HIC : Hid (Calls Tryd.prog 16 #[.slice (some ⟨g, 0, none⟩) (n + 80) (n + 80), .slice ba n bc, .int .u8 165] w7 fun e w'' => e = .returned (.bool true) ∧ Keeps (fun _ => False) w7 w'') := by
      have h2 := intact_c g (.slice ba n bc) b w7 (by have := HNB.out; omega) HG7.out (HX.out.fresh HB7.out)
      rw [← HNB.out] at h2
      exact h2
    clear hT hb7 hq7 HX6 HP6 HG6 HG7 HO6 HB6 hlo
    by_cases hok : okSizes key nonce = true
    · have hsl := sealT_length beside b hok
      have hse := sealE_ok hok
      obtain ⟨S, hS⟩ : ∃ S, S = sealT key nonce beside b := ⟨_, rfl⟩
      rw [hse]
      rw [← hS] at HO7 hsl hs1 hs2 ⊢
      obtain ⟨gy, cy, ey, hor⟩ := ORow.ofOwns HO7.out (by intro e; rw [e] at hsl; simp at hsl)
      injection ey with ey1 ey2 ey3
      subst ey1 ey3
      obtain ⟨L, hL⟩ : ∃ L, L = S.length := ⟨_, rfl⟩
      have HL := hidden hL
      rw [← hL] at hs1 hs2 hsl ⊢
      have hL0 : ((L : Int) == 0) = false := by simp; omega
      have hLb : L ≤ 400 := by have := HNB.out; omega
      have hL1 : 1 ≤ L := by omega
      have HR7 := hidden hor
      clear hS hse hsl hL hor HO7 ey2
      go_wp2_with fail
      refine HIC.out.mono ?_
      rintro e w8 ⟨rfl, hk8⟩
      have hb8 : Below w7.heap.size w7 w8 := hk8.below (Nat.le_refl _) (fun _ h => h.elim)
      have HB8 := hidden (HB7.out.trans (hb8.mono HB7.out.size))
      have HR8 := hidden (HR7.out.keep hk8 (fun h => h))
      clear hk8 hb8 HR7 HIC hs1 hs2 hs3 hs4 HB7
      obtain ⟨L1, hL1e⟩ : ∃ L1, L1 = L - 1 := ⟨_, rfl⟩
      have hL1i : (L : Int) - 1 = (L1 : Int) := by omega
      have hL1w : IntKind.i64.wrap (L1 : Int) = (L1 : Int) := by rw [IntKind.wrap_i64]; omega
      have hL1b : L1 ≤ 400 := by omega
      have HLL : Hid (L1 < L) := by show _ < _; omega
      clear hL1e hL1
      go_wp2_with fail
      refine (within_c at_ L1 (by omega) w8).mono ?_
      rintro e w8' ⟨k, rfl, hk, rfl⟩
      have hkL : (k : Int) < (L : Int) := by have := HLL.out; omega
      have hc8 := HR8.out.cell k (by rw [← HL.out]; omega)
      have hf8 := HR8.out.frozen k
      have hxb := xbyte (S.getD k 0) turn
      rw [← HTN.out] at hxb
      have HR9 := hidden (HR8.out.set k (S.getD k 0 ^^^ turn))
      have HL9 : Hid ((S.set k (S.getD k 0 ^^^ turn)).length = L) := by show _ = _; rw [List.length_set]; exact HL.out.symm
      generalize (S.getD k 0).toNat = y0 at hc8 hxb
      generalize S.set k (S.getD k 0 ^^^ turn) = S9 at HR9 HL9
      generalize (S.getD k 0 ^^^ turn).toNat = y1 at hxb HR9
      have hgy : w'.heap.size ≤ gy := HR8.out.1
      have HB9 := hidden (Below.setCell (p := ⟨gy, k, none⟩) HB8.out hgy (.int .u8 (y1 : Int)))
      clear HB8 HR8 hk
      go_upto_region 18 with fail
      generalize w8'.setCell ⟨gy, k, none⟩ (.int .u8 (y1 : Int)) = w9 at HR9 HB9 ⊢
      have HY9 : Hid (BSl w9 (.slice (some ⟨gy, 0, none⟩) L yc) S9) := by
        have := HR9.out.bsl
        rwa [HL9.out] at this
      clear hc8 hf8 hxb HR9
      go_wp2_with fail
      refine (Open_c _ _ _ _ key nonce beside S9 w9 (HC0.out.fresh HB9.out) (by omega) (by have := HL9.out; omega) (HK.out.fresh HB9.out) (HN.out.fresh HB9.out) (HA.out.fresh HB9.out) HY9.out).mono ?_
      rintro e w10 hT
      obtain ⟨hb10, ua, uc, rfl, hu10⟩ := hT.sl
      have HB10 := hidden (HB9.out.trans (hb10.mono HB9.out.size))
      have HU10 := hidden hu10
      have HY10 := hidden (HY9.out.fresh hb10)
      clear hT hb10 hu10 HB9 HY9
      go_wp2_with fail
      refine (rOpen_c _ _ _ _ key nonce beside S9 w10 (by omega) (by have := HL9.out; omega) (HK.out.fresh HB10.out) (HN.out.fresh HB10.out) (HA.out.fresh HB10.out) HY10.out).mono ?_
      rintro e w11 hT
      obtain ⟨hb11, va, vc, rfl, hv11⟩ := hT.sl
      have HB11 := hidden (HB10.out.trans (hb11.mono HB10.out.size))
      have hs5 := run_string (HU10.out.fresh hb11)
      have hs6 := run_string hv11
      generalize (⟨(openT key nonce beside S9).toArray⟩ : ByteArray) = T3 at hs5 hs6
      generalize openE key nonce beside S9 = E3
      generalize hlo : (openT key nonce beside S9).length = lo9 at hs5 hs6 ⊢
      clear hT hb11 hv11 HU10 HY10 HB10 hlo
      go_wp2_with fail
      refine (aknown_c w11 (HC0.out.fresh HB11.out)).mono ?_
      rintro e w12 ⟨rfl, hb12⟩
      have HB12 := hidden (HB11.out.trans (hb12.mono HB11.out.size))
      clear hb12 hs5 hs6
      go_wp2
      go_ret
      exact ⟨rfl, HB12.out⟩
    · have hok' : okSizes key nonce = false := by simpa using hok
      have hst : sealT key nonce beside b = [] := by rw [sealT, hok']; rfl
      rw [hst] at HO7 hs1 hs2 ⊢
      rw [List.length_nil] at hs1 hs2 ⊢
      generalize sealE key nonce = E1
      clear hok hok' hst HO7
      go_wp2_with fail
      refine HIC.out.mono ?_
      rintro e w8 ⟨rfl, hk8⟩
      have hb8 : Below w7.heap.size w7 w8 := hk8.below (Nat.le_refl _) (fun _ h => h.elim)
      have HB8 := hidden (HB7.out.trans (hb8.mono HB7.out.size))
      clear hk8 hb8 HIC hs1 hs2 hs3 hs4 HB7
      go_wp2_with fail
      refine (aknown_c w8 (HC0.out.fresh HB8.out)).mono ?_
      rintro e w12 ⟨rfl, hb12⟩
      have HB12 := hidden (HB8.out.trans (hb12.mono HB8.out.size))
      clear hb12
      go_wp2
      go_ret
      exact ⟨rfl, HB12.out⟩
  · go_wp2_with fail
    refine (sized_b 32 (by omega) _ key w' HK.out).mono ?_
    rintro e w1 ⟨rfl, hk1, hb1⟩
    generalize sizedL key 32 = key at hk1
    have HKs := hidden hk1
    have HB1 := hidden hb1
    clear hb1 hk1 HK
    go_wp2_with fail
    refine (sized_b 12 (by omega) _ nonce w1 (HN.out.fresh HB1.out)).mono ?_
    rintro e w2 ⟨rfl, hn2, hb2⟩
    generalize sizedL nonce 12 = nonce at hn2
    have HBW := hidden (HB1.out.trans (hb2.mono HB1.out.size))
    have HK := hidden (HKs.out.fresh hb2)
    have HA := hidden (HA.out.fresh HBW.out)
    have HX := hidden (HX.out.fresh HBW.out)
    have HC0 := hidden (HCL.out.fresh HBW.out)
    obtain ⟨gk, hgk⟩ : ∃ gk, gk = w'.heap.size := ⟨_, rfl⟩
    obtain ⟨gn, hgn⟩ : ∃ gn, gn = w1.heap.size := ⟨_, rfl⟩
    rw [← hgk] at HK ⊢
    rw [← hgn] at hn2 ⊢
    have HN := hidden hn2
    clear hb2 hn2 hgk hgn HKs HB1
    go_wp2_with fail
    refine (roomy_c _ b w2 HX.out (by omega)).mono ?_
    rintro e w3 ⟨g, rfl, hgl, hg3, hb3⟩
    have HG3 := hidden hg3
    have HF3 := hidden (BSl.roomy hg3 (by omega))
    have HB3 := hidden hb3
    clear hg3 hb3 hgl
    obtain ⟨n, hn⟩ : ∃ n, n = b.length := ⟨_, rfl⟩
    have HNB := hidden hn
    rw [← hn] at HX HF3 hbl ⊢
    clear hn
    have hn80 : (n : Int) ≤ (n : Int) + 80 := by omega
    go_wp2_with fail
    refine (Seal_c _ _ _ _ key nonce beside b w3 (HC0.out.fresh HB3.out) (by omega) (by have := HNB.out; omega) (HK.out.fresh HB3.out) (HN.out.fresh HB3.out) (HA.out.fresh HB3.out) HF3.out).mono ?_
    rintro e w4 hT
    obtain ⟨hb4, xa, xc, rfl, hx4⟩ := hT.told.sl
    have HB4 := hidden (HB3.out.trans (hb4.mono HB3.out.size))
    have HX4 := hidden hx4
    have HG4 := hidden ((Keeps.ofFresh (S := fun _ => False) hb4).block g (lt_of_block HG3.out) (fun h => h) |>.trans HG3.out)
    clear hT hb4 hx4 HG3 HB3 HF3 hn80
    go_wp2_with fail
    refine (rSeal_c _ _ _ _ key nonce beside b w4 (by omega) (by have := HNB.out; omega) (HK.out.fresh HB4.out) (HN.out.fresh HB4.out) (HA.out.fresh HB4.out) (HX.out.fresh HB4.out)).mono ?_
    rintro e w5 ⟨hb5, vy, rfl, ho5⟩
    obtain ⟨ya, yc, rfl⟩ := ownsRow_shape ho5
    have HB5 := hidden (HB4.out.trans (hb5.mono HB4.out.size))
    have HX5 := hidden (HX4.out.fresh hb5)
    have HG5 := hidden ((Keeps.ofFresh (S := fun _ => False) hb5).block g (lt_of_block HG4.out) (fun h => h) |>.trans HG4.out)
    have HO5 := hidden (own_mono ho5 HB4.out.size)
    clear hb5 ho5 HX4 HG4 HB4
    go_wp2_with fail
    refine (Open_c _ _ _ _ key nonce beside b w5 (HC0.out.fresh HB5.out) (by omega) (by have := HNB.out; omega) (HK.out.fresh HB5.out) (HN.out.fresh HB5.out) (HA.out.fresh HB5.out) (HX.out.fresh HB5.out)).mono ?_
    rintro e w6 hT
    obtain ⟨hb6, pa, pc, rfl, hp6⟩ := hT.sl
    have HB6 := hidden (HB5.out.trans (hb6.mono HB5.out.size))
    have HX6 := hidden (HX5.out.fresh hb6)
    have HP6 := hidden hp6
    have HG6 := hidden ((Keeps.ofFresh (S := fun _ => False) hb6).block g (lt_of_block HG5.out) (fun h => h) |>.trans HG5.out)
    have HO6 := hidden ((Keeps.ofFresh (S := fun _ => False) hb6).row HO5.out (fun _ _ h => h))
    clear hT hb6 hp6 HX5 HG5 HB5 HO5
    go_wp2_with fail
    refine (rOpen_c _ _ _ _ key nonce beside b w6 (by omega) (by have := HNB.out; omega) (HK.out.fresh HB6.out) (HN.out.fresh HB6.out) (HA.out.fresh HB6.out) (HX.out.fresh HB6.out)).mono ?_
    rintro e w7 hT
    obtain ⟨hb7, qa, qc, rfl, hq7⟩ := hT.sl
    have HB7 := hidden (HB6.out.trans (hb7.mono HB6.out.size))
    have HG7 := hidden ((Keeps.ofFresh (S := fun _ => False) hb7).block g (lt_of_block HG6.out) (fun h => h) |>.trans HG6.out)
    have HO7 := hidden ((Keeps.ofFresh (S := fun _ => False) hb7).row HO6.out (fun _ _ h => h))
    have hs1 := run_string (HX6.out.fresh hb7)
    have hs2 := run_string (BSl.ofRow HO7.out)
    have hs3 := run_string (HP6.out.fresh hb7)
    have hs4 := run_string hq7
    generalize (⟨(sealT key nonce beside b).toArray⟩ : ByteArray) = T1 at hs1 hs2
    generalize (⟨(openT key nonce beside b).toArray⟩ : ByteArray) = T2 at hs3 hs4
    generalize openE key nonce beside b = E2
    generalize hlo : (openT key nonce beside b).length = lo at hs3 hs4 ⊢
    have HIC : Hid (Calls Tryd.prog 16 #[.slice (some ⟨g, 0, none⟩) (n + 80) (n + 80), .slice ba n bc, .int .u8 165] w7 fun e w'' => e = .returned (.bool true) ∧ Keeps (fun _ => False) w7 w'') := by
      have h2 := intact_c g (.slice ba n bc) b w7 (by have := HNB.out; omega) HG7.out (HX.out.fresh HB7.out)
      rw [← HNB.out] at h2
      exact h2
    clear hT hb7 hq7 HX6 HP6 HG6 HG7 HO6 HB6 hlo
    by_cases hok : okSizes key nonce = true
    · have hsl := sealT_length beside b hok
      have hse := sealE_ok hok
      obtain ⟨S, hS⟩ : ∃ S, S = sealT key nonce beside b := ⟨_, rfl⟩
      rw [hse]
      rw [← hS] at HO7 hsl hs1 hs2 ⊢
      obtain ⟨gy, cy, ey, hor⟩ := ORow.ofOwns HO7.out (by intro e; rw [e] at hsl; simp at hsl)
      injection ey with ey1 ey2 ey3
      subst ey1 ey3
      obtain ⟨L, hL⟩ : ∃ L, L = S.length := ⟨_, rfl⟩
      have HL := hidden hL
      rw [← hL] at hs1 hs2 hsl ⊢
      have hL0 : ((L : Int) == 0) = false := by simp; omega
      have hLb : L ≤ 400 := by have := HNB.out; omega
      have hL1 : 1 ≤ L := by omega
      have HR7 := hidden hor
      clear hS hse hsl hL hor HO7 ey2
      go_wp2_with fail
      refine HIC.out.mono ?_
      rintro e w8 ⟨rfl, hk8⟩
      have hb8 : Below w7.heap.size w7 w8 := hk8.below (Nat.le_refl _) (fun _ h => h.elim)
      have HB8 := hidden (HB7.out.trans (hb8.mono HB7.out.size))
      have HR8 := hidden (HR7.out.keep hk8 (fun h => h))
      clear hk8 hb8 HR7 HIC hs1 hs2 hs3 hs4 HB7
      obtain ⟨L1, hL1e⟩ : ∃ L1, L1 = L - 1 := ⟨_, rfl⟩
      have hL1i : (L : Int) - 1 = (L1 : Int) := by omega
      have hL1w : IntKind.i64.wrap (L1 : Int) = (L1 : Int) := by rw [IntKind.wrap_i64]; omega
      have hL1b : L1 ≤ 400 := by omega
      have HLL : Hid (L1 < L) := by show _ < _; omega
      clear hL1e hL1
      go_wp2_with fail
      refine (within_c at_ L1 (by omega) w8).mono ?_
      rintro e w8' ⟨k, rfl, hk, rfl⟩
      have hkL : (k : Int) < (L : Int) := by have := HLL.out; omega
      have hc8 := HR8.out.cell k (by rw [← HL.out]; omega)
      have hf8 := HR8.out.frozen k
      have hxb := xbyte (S.getD k 0) turn
      rw [← HTN.out] at hxb
      have HR9 := hidden (HR8.out.set k (S.getD k 0 ^^^ turn))
      have HL9 : Hid ((S.set k (S.getD k 0 ^^^ turn)).length = L) := by show _ = _; rw [List.length_set]; exact HL.out.symm
      generalize (S.getD k 0).toNat = y0 at hc8 hxb
      generalize S.set k (S.getD k 0 ^^^ turn) = S9 at HR9 HL9
      generalize (S.getD k 0 ^^^ turn).toNat = y1 at hxb HR9
      have hgy : w2.heap.size ≤ gy := HR8.out.1
      have HB9 := hidden (Below.setCell (p := ⟨gy, k, none⟩) HB8.out hgy (.int .u8 (y1 : Int)))
      clear HB8 HR8 hk
      go_upto_region 18 with fail
      generalize w8'.setCell ⟨gy, k, none⟩ (.int .u8 (y1 : Int)) = w9 at HR9 HB9 ⊢
      have HY9 : Hid (BSl w9 (.slice (some ⟨gy, 0, none⟩) L yc) S9) := by
        have := HR9.out.bsl
        rwa [HL9.out] at this
      clear hc8 hf8 hxb HR9
      go_wp2_with fail
      refine (Open_c _ _ _ _ key nonce beside S9 w9 (HC0.out.fresh HB9.out) (by omega) (by have := HL9.out; omega) (HK.out.fresh HB9.out) (HN.out.fresh HB9.out) (HA.out.fresh HB9.out) HY9.out).mono ?_
      rintro e w10 hT
      obtain ⟨hb10, ua, uc, rfl, hu10⟩ := hT.sl
      have HB10 := hidden (HB9.out.trans (hb10.mono HB9.out.size))
      have HU10 := hidden hu10
      have HY10 := hidden (HY9.out.fresh hb10)
      clear hT hb10 hu10 HB9 HY9
      go_wp2_with fail
      refine (rOpen_c _ _ _ _ key nonce beside S9 w10 (by omega) (by have := HL9.out; omega) (HK.out.fresh HB10.out) (HN.out.fresh HB10.out) (HA.out.fresh HB10.out) HY10.out).mono ?_
      rintro e w11 hT
      obtain ⟨hb11, va, vc, rfl, hv11⟩ := hT.sl
      have HB11 := hidden (HB10.out.trans (hb11.mono HB10.out.size))
      have hs5 := run_string (HU10.out.fresh hb11)
      have hs6 := run_string hv11
      generalize (⟨(openT key nonce beside S9).toArray⟩ : ByteArray) = T3 at hs5 hs6
      generalize openE key nonce beside S9 = E3
      generalize hlo : (openT key nonce beside S9).length = lo9 at hs5 hs6 ⊢
      clear hT hb11 hv11 HU10 HY10 HB10 hlo
      go_wp2_with fail
      refine (aknown_c w11 (HC0.out.fresh HB11.out)).mono ?_
      rintro e w12 ⟨rfl, hb12⟩
      have HB12 := hidden (HB11.out.trans (hb12.mono HB11.out.size))
      clear hb12 hs5 hs6
      go_wp2
      go_ret
      exact ⟨rfl, HBW.out.trans (HB12.out.mono HBW.out.size)⟩
    · have hok' : okSizes key nonce = false := by simpa using hok
      have hst : sealT key nonce beside b = [] := by rw [sealT, hok']; rfl
      rw [hst] at HO7 hs1 hs2 ⊢
      rw [List.length_nil] at hs1 hs2 ⊢
      generalize sealE key nonce = E1
      clear hok hok' hst HO7
      go_wp2_with fail
      refine HIC.out.mono ?_
      rintro e w8 ⟨rfl, hk8⟩
      have hb8 : Below w7.heap.size w7 w8 := hk8.below (Nat.le_refl _) (fun _ h => h.elim)
      have HB8 := hidden (HB7.out.trans (hb8.mono HB7.out.size))
      clear hk8 hb8 HIC hs1 hs2 hs3 hs4 HB7
      go_wp2_with fail
      refine (aknown_c w8 (HC0.out.fresh HB8.out)).mono ?_
      rintro e w12 ⟨rfl, hb12⟩
      have HB12 := hidden (HB8.out.trans (hb12.mono HB8.out.size))
      clear hb12
      go_wp2
      go_ret
      exact ⟨rfl, HBW.out.trans (HB12.out.mono HBW.out.size)⟩
end Go.Proofs.YtndneidkodpdpaaDoor
