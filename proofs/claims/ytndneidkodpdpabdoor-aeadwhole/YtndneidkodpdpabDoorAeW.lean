/- The walk of the law AeadWhole. -/
import Derived.Test.YtndneidkodpdpabDoorAeL
import Derived.Test.YtndneidkodpdpabDoorZer
import Derived.Lib.AppendZeros
import Derived.Deep.RegionHeld3
namespace Go.Proofs.YtndneidkodpdpabDoor
open Go Go.RowKit

theorem wpList_cloneS (w : World) {ops : Array Oper} {rest : List Oper} {o : Oper} {a : Act} {Q : Exit → Act → World → Prop} (hgd : o.guard = none) (s xo : Operand)
    (ho : o.op = .call { callee := .builtin .append, args := #[s, xo], argTypes := #[22, 22] }) (hsv : a.eval s = .slice (some ⟨w.heap.size, 0, none⟩) 0 0)
    (x : Value) (xs : List UInt8) (hx : a.eval xo = x) (hb : BSl w x xs) (hl : xs.length ≤ 1000000)
    (h : ∀ g cap w', w'.ownsRow w.heap.size 5 1 (.slice (some ⟨g, 0, none⟩) xs.length cap) xs.length (bcells xs) → Below w.heap.size w w' → wpList Tryd.prog ops Q rest (a.put o.dst (.slice (some ⟨g, 0, none⟩) xs.length cap)) w') :
    wpList Tryd.prog ops Q (o :: rest) a (w.alloc (.cells #[] 5)) := by
  obtain ⟨i0, hi, hz0, hz1, hz2⟩ := info_parts Tryd.infoU8
  refine wpList_append_src (w.alloc (.cells #[] 5)) hgd s xo 22 22 ho w.heap.size 5 i0 _ 1 Tryd.underlying22 hi hz0 hz1 hz2 rfl (.slice (some ⟨w.heap.size, 0, none⟩) 0 0) 0 _ hsv (own_empty w) x xs.length _ hx ((hb.alloc _).src) (by unfold maxLen; omega) (by omega) (by simp) (w.heap.size + 1) (by simp) ?_
  intro v' w' hown hgrow hnil _
  rw [Nat.zero_add, List.nil_append] at hown
  have hbel := ((Below.refl _ w).alloc (Nat.le_refl _) (.cells #[] 5)).grown hgrow (by simp) (fun k hk => by simp [Value.ownBlock] at hk; omega)
  rcases hown.2 with ⟨h1, _⟩ | ⟨g, cap, cur, rfl, _⟩
  · exact absurd (hnil.1 h1).1 (by simp)
  · exact h g cap w' hown hbel

set_option maxHeartbeats 3200000 in
set_option maxRecDepth 100000 in
theorem aeadWhole_c (v0 v1 v2 v3 : Value) (z0 z1 z2 z3 : List UInt8) (nought : Int) (w : World) (hcl : Cl w) (h0 : BSl w v0 z0) (h1 : BSl w v1 z1) (h2 : BSl w v2 z2) (h3 : BSl w v3 z3) :
    Calls Tryd.prog 3 #[v0, v1, v2, v3, .int .i64 nought] w fun e w' => e = .returned (.bool true) ∧ Below w.heap.size w w' := by
  have HCL := hidden hcl
  have HS0 := hidden (sized_b 32 (by omega) v0 z0 w h0)
  have H1 := hidden h1
  have H2 := hidden h2
  have H3 := hidden h3
  obtain ⟨a0, n0, rfl⟩ := h0.len
  obtain ⟨a1, n1, rfl⟩ := h1.len
  obtain ⟨a2, n2, rfl⟩ := h2.len
  obtain ⟨a3, n3, rfl⟩ := h3.len
  clear h0 h1 h2 h3 hcl
  go_enter Tryd.func3, Tryd.ntmps3
  go_wp2_with fail
  refine HS0.out.mono ?_
  rintro e w1 ⟨rfl, hk, hb1⟩
  have hkl := sizedL_length z0 32
  generalize sizedL z0 32 = key at hk hkl
  have HK1 := hidden hk
  have HB1 := hidden hb1
  clear hk hb1 HS0
  go_wp2_with fail
  refine (sized_b 12 (by omega) _ z1 w1 (H1.out.fresh HB1.out)).mono ?_
  rintro e w2 ⟨rfl, hn, hb2⟩
  have hnl := sizedL_length z1 12
  generalize sizedL z1 12 = nonce at hn hnl
  have HOK := hidden (ok_of hkl hnl)
  have HN2 := hidden hn
  have HK2 := hidden (HK1.out.fresh hb2)
  have HB2 := hidden (HB1.out.trans (hb2.mono HB1.out.size))
  clear hn hb2 H1 HK1 HB1 hkl hnl
  go_wp2_with fail
  refine (cut_c 100 (by omega) _ z2 w2 (H2.out.fresh HB2.out)).mono ?_
  rintro e w2' ⟨va, rfl, ha, _, rfl⟩
  have hal : (z2.take 100).length ≤ 100 := by simp; omega
  generalize z2.take 100 = beside at ha hal
  obtain ⟨aa, ac, rfl⟩ := ha.len
  have HA2 := hidden ha
  clear ha H2
  go_wp2_with fail
  refine (cut_c 300 (by omega) _ z3 w2' (H3.out.fresh HB2.out)).mono ?_
  rintro e w2 ⟨vb, rfl, hx, _, rfl⟩
  have hbl : (z3.take 300).length ≤ 300 := by simp; omega
  generalize z3.take 300 = b at hx hbl
  obtain ⟨ba, bc, rfl⟩ := hx.len
  obtain ⟨n, hn⟩ : ∃ n, n = b.length := ⟨_, rfl⟩
  have HNB := hidden hn
  rw [← hn] at hx hbl ⊢
  have HX2 := hidden hx
  have HCL2 := hidden (HCL.out.fresh HB2.out)
  obtain ⟨gk, hgk⟩ : ∃ gk, gk = w.heap.size := ⟨_, rfl⟩
  obtain ⟨gn, hgn⟩ : ∃ gn, gn = w1.heap.size := ⟨_, rfl⟩
  rw [← hgk] at HK2 ⊢
  rw [← hgn] at HN2 ⊢
  clear hx H3 hn hgk hgn HCL
  go_wp2_with (refine wpList_cloneS _ rfl (.tmp 28) (.tmp 29) rfl rfl _ beside rfl HA2.out (by omega) ?_)
  intro g3 c3 w3 ho3 hb3
  have HO3 := hidden ho3
  have HB23 := hidden hb3
  clear ho3 hb3
  obtain ⟨a, hae⟩ : ∃ a, a = beside.length := ⟨_, rfl⟩
  have HAE := hidden hae
  rw [← hae] at HO3 hal HA2 ⊢
  clear hae
  go_wp2_with fail
  refine (within_c nought 20 (by omega) w3).mono ?_
  rintro e w3' ⟨k, rfl, hk, rfl⟩
  obtain ⟨M, hM⟩ : ∃ M, M = 1 + k := ⟨_, rfl⟩
  have hMi : (1 : Int) + (k : Int) = (M : Int) := by omega
  have hMw : IntKind.i64.wrap (M : Int) = (M : Int) := by rw [IntKind.wrap_i64]; omega
  have hM1 : 1 ≤ M ∧ M ≤ 21 := by omega
  clear hM hk
  obtain ⟨v4, w4, hr4, ho4, hgr4⟩ := run_append_zeros w3' w2.heap.size g3 a c3 M beside 22 HO3.out (by omega) (by omega) HB23.out.size
  have hb4 : Below w2.heap.size w2 w4 := HB23.out.grown hgr4 HB23.out.size (by intro q hq; cases hq; exact (HO3.out.lt g3 (by simp [Value.ownBlock])).1)
  obtain ⟨more, hmo⟩ : ∃ more, more = beside ++ List.replicate M 0 := ⟨_, rfl⟩
  have hml : more.length = a + M := by rw [hmo, List.length_append, List.length_replicate, HAE.out]
  rw [← hmo] at ho4
  have HM4 := hidden (BSl.ofRow ho4)
  obtain ⟨ma, mc, rfl⟩ := ownsRow_shape ho4
  have HB24 := hidden hb4
  have HML := hidden hml
  clear ho4 hgr4 hb4 hmo hml HO3 HB23
  go_wp2_with (refine Lib.wpList_append_run _ rfl (.tmp 30) (.tmp 33) 22 3 rfl _ _ rfl rfl _ _ hr4 ?_)
  clear hr4
  have hMm : a + M ≤ 121 := by omega
  go_wp2_with fail
  refine (Seal_c _ _ _ _ key nonce beside b w4 (HCL2.out.fresh HB24.out) (by have := HAE.out; omega) (by have := HNB.out; omega) (HK2.out.fresh HB24.out) (HN2.out.fresh HB24.out) (HA2.out.fresh HB24.out) (HX2.out.fresh HB24.out)).mono ?_
  rintro e w5 hT
  have hsl := sealT_length beside b HOK.out
  obtain ⟨hb5, gs, cs, rfl, hs5⟩ := hT.row (by intro e; rw [e] at hsl; simp at hsl)
  rw [sealE_ok HOK.out]
  have hcs : n + 16 ≤ cs := by have := hs5.2.1; have := HNB.out; omega
  rw [hsl, ← HNB.out]
  have HS5 : Hid (BSl w5 (.slice (some ⟨gs, 0, none⟩) (n + 16) cs) (sealT key nonce beside b)) := by
    have := hs5.bsl
    rwa [hsl, ← HNB.out] at this
  have HB25 := hidden (HB24.out.trans (hb5.mono HB24.out.size))
  have HM5 := hidden (HM4.out.fresh hb5)
  clear hT hb5 hs5 hsl HB24 HM4
  obtain ⟨m, hm⟩ : ∃ m, m = n + 16 := ⟨_, rfl⟩
  have hmn : decide ((m : Int) < (n : Int)) = false := by simp; omega
  have hmn2 : decide (m < n) = false := by simp; omega
  have hmb : m ≤ 316 := by omega
  rw [← hm] at hcs HS5 ⊢
  have HM := hidden hm
  clear hm
  go_wp2_with fail
  refine (Seal_c _ _ _ _ key nonce more b w5 (HCL2.out.fresh HB25.out) (by have := HML.out; omega) (by have := HNB.out; omega) (HK2.out.fresh HB25.out) (HN2.out.fresh HB25.out) HM5.out (HX2.out.fresh HB25.out)).mono ?_
  rintro e w6 hT
  have hsl := sealT_length more b HOK.out
  obtain ⟨hb6, gt, ct, rfl, hs6⟩ := hT.row (by intro e; rw [e] at hsl; simp at hsl)
  rw [sealE_ok HOK.out]
  have hct : m ≤ ct := by have := hs6.2.1; have := HNB.out; have := HM.out; omega
  rw [hsl, ← HNB.out, ← HM.out]
  have HS6 := hidden (HS5.out.fresh hb6)
  have HY6 : Hid (BSl w6 (.slice (some ⟨gt, 0, none⟩) m ct) (sealT key nonce more b)) := by
    have := hs6.bsl
    rwa [hsl, ← HNB.out, ← HM.out] at this
  have HB26 := hidden (HB25.out.trans (hb6.mono HB25.out.size))
  have HM6 := hidden (HM5.out.fresh hb6)
  clear hT hb6 hs6 hsl HB25 HM5 HS5
  obtain ⟨Sh, hSh⟩ : ∃ S : ByteArray, S = ⟨(xorL key 1 nonce b).toArray⟩ := ⟨_, rfl⟩
  have HH : Hid (∀ w', Below w6.heap.size w6 w' → ((convert 22 9 (Value.slice (some ⟨gs, 0, none⟩) n cs)).run Tryd.prog w' = .ok (.string Sh) w' ∧ (convert 22 9 (Value.slice (some ⟨gt, 0, none⟩) n ct)).run Tryd.prog w' = .ok (.string Sh) w')) := by
    intro w' hb
    have h1 := HS6.out.part (i := 0) (j := n) (by have := HM.out; omega)
    rw [List.drop_zero, Nat.sub_zero, HNB.out, seal_take beside b HOK.out, ← HNB.out] at h1
    have h2 := HY6.out.part (i := 0) (j := n) (by have := HM.out; omega)
    rw [List.drop_zero, Nat.sub_zero, HNB.out, seal_take more b HOK.out, ← HNB.out] at h2
    rw [hSh]
    exact ⟨run_string (h1.fresh hb), run_string (h2.fresh hb)⟩
  have hcs2 : (n : Int) ≤ (cs : Int) := by have := HM.out; omega
  have hct2 : (n : Int) ≤ (ct : Int) := by have := HM.out; omega
  clear hSh
  go_wp2_with fail
  go_region_held3 (fun w' => (convert 22 9 (Value.slice (some ⟨gs, 0, none⟩) n cs)).run Tryd.prog w' = .ok (.string Sh) w' ∧ (convert 22 9 (Value.slice (some ⟨gt, 0, none⟩) n ct)).run Tryd.prog w' = .ok (.string Sh) w')
    (first | exact HH.out _ (Below.refl _ _).drew | exact HH.out _ (below_drewN (Below.refl _ _) _))
    (fail)
  have HB27 := hidden HB26.out.drew
  have HS7 := hidden (HS6.out.fresh (Below.refl _ w6).drew)
  have HY7 := hidden (HY6.out.fresh (Below.refl _ w6).drew)
  have HM7 := hidden (HM6.out.fresh (Below.refl _ w6).drew)
  generalize w6.drew = w7 at HB27 HS7 HY7 HM7 ⊢
  have hl1 := sealT_length beside b HOK.out
  have hl2 := sealT_length more b HOK.out
  have ht1 := seal_take beside b HOK.out
  have hd1 := seal_drop beside b HOK.out
  have HOE := hidden (open_seal more b HOK.out)
  have HOT := hidden (open_text more b HOK.out)
  have h12 : sealT key nonce beside b ≠ sealT key nonce more b → (sealT key nonce beside b).drop b.length ≠ tagL key nonce more (xorL key 1 nonce b) := by
    intro hne h
    apply hne
    rw [hd1] at h
    rw [sealT, sealT, if_pos HOK.out, h, if_pos HOK.out]
  generalize sealT key nonce beside b = S1 at HS7 hl1 ht1 h12
  generalize sealT key nonce more b = S2 at HY7 hl2 HOE HOT h12
  have HL1 := hidden hl1
  have HL2 := hidden hl2
  clear HH HS6 HY6 HM6 HB26 hl2 hd1
  by_cases hS : S1 = S2
  · subst hS
    clear ht1 h12 hl1
    go_wp2_with fail
    refine (Open_c _ _ _ _ key nonce more S1 w7 (HCL2.out.fresh HB27.out) (by have := HML.out; omega) (by have := HL1.out; have := HNB.out; omega) (HK2.out.fresh HB27.out) (HN2.out.fresh HB27.out) HM7.out HS7.out).mono ?_
    rintro e w8 hT
    rw [HOE.out, HOT.out] at hT
    obtain ⟨hb8, xa, xc, rfl, hx8⟩ := hT.sl
    rw [← HNB.out] at hx8 ⊢
    have hs1 := run_string (HS7.out.fresh hb8)
    have hs2 := run_string (HY7.out.fresh hb8)
    have HB28 := hidden (HB27.out.trans (hb8.mono HB27.out.size))
    have hs3 := run_string hx8
    have hs4 := run_string (HX2.out.fresh HB28.out)
    generalize (⟨S1.toArray⟩ : ByteArray) = T1 at hs1 hs2
    generalize (⟨b.toArray⟩ : ByteArray) = T2 at hs3 hs4
    clear hT hb8 hx8 HS7 HY7 HM7 HB27
    go_wp2_with fail
    refine (aknown_c w8 (HCL2.out.fresh HB28.out)).mono ?_
    rintro e w9 ⟨rfl, hb9⟩
    have HB29 := hidden (HB28.out.trans (hb9.mono HB28.out.size))
    clear hb9 hs1 hs2 hs3 hs4
    go_wp2
    go_ret
    exact ⟨rfl, HB2.out.trans (HB29.out.mono HB2.out.size)⟩
  · have hE := open_turned more b S1 HOK.out hl1 ht1 (h12 hS)
    have hT0 := openT_not (key := key) (nonce := nonce) (beside := more) (s := S1) (by rw [hE]; omega)
    have HE := hidden hE
    have HT0 := hidden hT0
    have hne : ((⟨S1.toArray⟩ : ByteArray).toList == (⟨S2.toArray⟩ : ByteArray).toList) = false := by rw [str_same]; exact decide_eq_false hS
    clear hE hT0 ht1 h12 hl1 hS
    go_wp2_with fail
    refine (Open_c _ _ _ _ key nonce more S1 w7 (HCL2.out.fresh HB27.out) (by have := HML.out; omega) (by have := HL1.out; have := HNB.out; omega) (HK2.out.fresh HB27.out) (HN2.out.fresh HB27.out) HM7.out HS7.out).mono ?_
    rintro e w8 hT
    rw [HE.out, HT0.out] at hT
    obtain ⟨hb8, xa, xc, rfl, hx8⟩ := hT.sl
    have hs1 := run_string (HS7.out.fresh hb8)
    have hs2 := run_string (HY7.out.fresh hb8)
    have HB28 := hidden (HB27.out.trans (hb8.mono HB27.out.size))
    have HY8 := hidden (HY7.out.fresh hb8)
    have HM8 := hidden (HM7.out.fresh hb8)
    generalize (⟨S1.toArray⟩ : ByteArray) = T1 at hs1 hne
    generalize (⟨S2.toArray⟩ : ByteArray) = T2 at hs2 hne
    clear hT hb8 hx8 HS7 HY7 HM7 HB27
    go_wp2_with fail
    refine (Open_c _ _ _ _ key nonce more S2 w8 (HCL2.out.fresh HB28.out) (by have := HML.out; omega) (by have := HL2.out; have := HNB.out; omega) (HK2.out.fresh HB28.out) (HN2.out.fresh HB28.out) HM8.out HY8.out).mono ?_
    rintro e w9 hT
    rw [HOE.out, HOT.out] at hT
    obtain ⟨hb9, ya, yc, rfl, hy9⟩ := hT.sl
    rw [← HNB.out] at hy9 ⊢
    have HB29 := hidden (HB28.out.trans (hb9.mono HB28.out.size))
    have hs3 := run_string hy9
    have hs4 := run_string (HX2.out.fresh HB29.out)
    generalize (⟨b.toArray⟩ : ByteArray) = T3 at hs3 hs4
    clear hT hb9 hy9 HY8 HM8 HB28 hs1 hs2 hne
    go_wp2_with fail
    refine (aknown_c w9 (HCL2.out.fresh HB29.out)).mono ?_
    rintro e w10 ⟨rfl, hb10⟩
    have HB30 := hidden (HB29.out.trans (hb10.mono HB29.out.size))
    clear hb10 hs3 hs4
    go_wp2
    go_ret
    exact ⟨rfl, HB2.out.trans (HB30.out.mono HB2.out.size)⟩
end Go.Proofs.YtndneidkodpdpabDoor
