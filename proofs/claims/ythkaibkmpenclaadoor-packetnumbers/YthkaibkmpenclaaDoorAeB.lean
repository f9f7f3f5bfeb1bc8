/- Seal and Open. -/
import Derived.Test.YthkaibkmpenclaaDoorAeA
namespace Go.Proofs.YthkaibkmpenclaaDoor
open Go Go.RowKit

set_option maxHeartbeats 400000 in
set_option maxRecDepth 100000 in
theorem sumKeyOf_c (v1 v2 : Value) (key nonce : List UInt8) (w : World) (h1 : BSl w v1 key) (h2 : BSl w v2 nonce) :
    Calls Tryd.prog 59 #[v1, v2] w fun e w' => Told w key nonce (skL key nonce) e w' := by
  have HBk := hidden (Block_c v1 v2 key nonce 0 w h1 h2)
  clear h1 h2
  by_cases hk : okSizes key nonce = true
  · go_enter Tryd.func59, Tryd.ntmps59
    go_wp2_with fail
    refine HBk.out.mono ?_
    rintro e w1 hT
    obtain ⟨hb, v, rfl, hbs, hown⟩ := hT.okS hk
    have hbl := bk_length key 0 nonce
    obtain ⟨ao, cp, e, hcp, _⟩ := id hbs
    have hh : BSl w1 (.slice ao 32 cp) (skL key nonce) := by
      rw [e] at hbs
      exact hbs.head' (by omega)
    rw [hbl] at e hcp
    subst e
    have hcp' : (32 : Int) ≤ (cp : Int) := by omega
    have HF : Hid (Told w key nonce (skL key nonce) (.returned (.tuple #[.slice ao 32 cp, .int .i64 0])) w1) :=
      ⟨hb, .inl ⟨hk, _, rfl, hh, fun g e => hown g (by rw [← e]; exact ownBlock_any _ _ _ _ _)⟩⟩
    clear hbs hT hown hh hb hk HBk
    go_wp2
    go_ret2
    exact HF.out
  · have hk' : okSizes key nonce = false := by simpa using hk
    go_enter Tryd.func59, Tryd.ntmps59
    go_wp2_with fail
    refine HBk.out.mono ?_
    rintro e w1 hT
    obtain ⟨hb, rfl⟩ := hT.noS hk'
    have HF : Hid (Told w key nonce (skL key nonce) (.returned (.tuple #[.slice none 0 0, .int .i64 1])) w1) := ⟨hb, .inr ⟨hk', rfl⟩⟩
    clear hT hb hk hk' HBk
    go_wp2
    go_ret2
    exact HF.out

set_option maxHeartbeats 800000 in
set_option maxRecDepth 100000 in
theorem Seal_c (v1 v2 v3 v4 : Value) (key nonce beside b : List UInt8) (w : World) (hcl : Cl w) (hsl : beside.length ≤ 10000) (hbl : b.length ≤ 10000) (h1 : BSl w v1 key) (h2 : BSl w v2 nonce) (h3 : BSl w v3 beside) (h4 : BSl w v4 b) :
    Calls Tryd.prog 48 #[v1, v2, v3, v4] w fun e w' => OTold w (sealE key nonce) (sealT key nonce beside b) e w' := by
  have HCL := hidden hcl
  have H1 := hidden h1
  have H2 := hidden h2
  have H3 := hidden h3
  have H4 := hidden h4
  have HSK := hidden (sumKeyOf_c v1 v2 key nonce w h1 h2)
  clear h1 h2 h3 h4 hcl
  by_cases hk : okSizes key nonce = true
  · have HK := hidden hk
    clear hk
    go_enter Tryd.func48, Tryd.ntmps48
    go_wp2_with fail
    refine HSK.out.mono ?_
    rintro e w1 hT
    obtain ⟨hb1, vk, rfl, hsk, _⟩ := hT.okS HK.out
    have HS1 := hidden hsk
    have HB1 := hidden hb1
    clear hT hb1 hsk HSK
    go_wp2_with fail
    refine (Xor_o v1 v2 v4 key nonce b 1 (by omega) (by omega) (by omega) w1 (H1.out.fresh HB1.out) (H2.out.fresh HB1.out) (H4.out.fresh HB1.out)).mono ?_
    rintro e w2 hT
    obtain ⟨hb2, g, rfl, hg, hblk⟩ := hT.ok HK.out
    have HXE : Hid (sealT key nonce beside b = xorL key 1 nonce b ++ tagL key nonce beside (xorL key 1 nonce b)) := by show _ = _; rw [sealT, if_pos HK.out]
    have HSE : Hid (sealE key nonce = 0) := by show _ = _; rw [sealE, if_pos HK.out]
    have hxl := xorL_length key 1 nonce b
    generalize xorL key 1 nonce b = X at hblk hxl HXE ⊢
    have HX2 := hidden hblk
    have HG := hidden hg
    have HB2 := hidden (HB1.out.trans (hb2.mono HB1.out.size))
    have HS2 := hidden (HS1.out.fresh hb2)
    obtain ⟨n, hn⟩ : ∃ n, n = X.length := ⟨_, rfl⟩
    have HX2b : Hid (BSl w2 (.slice (some ⟨g, 0, none⟩) n n) X) := by
      rw [hn]
      exact BSl.ofBlock hblk (by omega)
    have HN := hidden hn
    have hnb : n ≤ 10000 := by omega
    rw [← hn]
    clear hT hb2 hg hblk HS1 hn hxl
    go_wp2_with fail
    refine (summed_c _ _ beside X w2 (by omega) (by have := HN.out; omega) (H3.out.fresh HB2.out) HX2b.out).mono ?_
    rintro e w3 ⟨vm, rfl, ho3, hb3⟩
    have HM3 := hidden (BSl.ofRow ho3)
    have HB3 := hidden (HB2.out.trans (hb3.mono HB2.out.size))
    have HS3 := hidden (HS2.out.fresh hb3)
    have HX3 := hidden ((Keeps.ofFresh (S := fun _ => False) hb3).block g (lt_of_block HX2.out) (fun h => h) |>.trans HX2.out)
    clear ho3 hb3 HS2 HX2 HX2b
    have HML := hidden (macL_length beside X)
    go_wp2_with fail
    refine (Sum_c _ _ (skL key nonce) (macL beside X) (by have := HML.out; have := HN.out; omega) w3 (HCL.out.fresh HB3.out) HS3.out HM3.out).mono ?_
    rintro e w4 hT
    obtain ⟨hb4, gs, rfl, hgs, hs⟩ := hT.ok (skL_length _ _)
    have hs2 := bsl16 hs (polyL_length _ _)
    rw [show polyL (skL key nonce) (macL beside X) = tagL key nonce beside X from rfl] at hs2
    have HX4 := hidden ((Keeps.ofFresh (S := fun _ => False) hb4).block g (lt_of_block HX3.out) (fun h => h) |>.trans HX3.out)
    have HB4 := hidden (HB3.out.trans (hb4.mono HB3.out.size))
    have hso := hs2.src
    rw [tagL_length] at hso
    have HSO := hidden hso
    have hwg : w.heap.size ≤ g := Nat.le_trans HB1.out.size HG.out
    have HOW : Hid (w4.ownsRow w.heap.size 5 1 (.slice (some ⟨g, 0, none⟩) n n) n (bcells X)) := by
      rw [HN.out]
      exact own_block HX4.out hwg (by have := HN.out; omega)
    obtain ⟨i0, hi, hz0, hz1, hz2⟩ := info_parts Tryd.infoU8
    have hsz4 : w.heap.size ≤ w4.heap.size := HB4.out.size
    clear hT hb4 hgs hs hs2 hso HX3 HX4 HM3 HS3 HB1 HB2 HB3
    go_wp2_with (refine wpList_append_src _ rfl (.tmp 44) (.tmp 45) 22 22 rfl w.heap.size 5 i0 _ 1 Tryd.underlying22 hi hz0 hz1 hz2 rfl (.slice (some ⟨g, 0, none⟩) n n) n _ rfl HOW.out _ 16 _ rfl HSO.out (by unfold maxLen; omega) (by omega) hsz4 w4.heap.size (by simp) ?_)
    intro v' w9 hown hgrow hnil hat
    have hb9 : Below w.heap.size w w9 := HB4.out.grown hgrow hsz4 (fun k hk => (HOW.out.lt k hk).1)
    have HF : Hid (OTold w (sealE key nonce) (sealT key nonce beside b) (.returned (.tuple #[v', .int .i64 0])) w9) := by
      rw [HXE.out, HSE.out]
      refine ⟨hb9, v', rfl, ?_⟩
      rw [List.length_append, tagL_length, bcells_append, ← HN.out]
      exact hown
    clear hown hgrow hnil hat hb9
    go_wp2
    go_ret2
    exact HF.out
  · have hk' : okSizes key nonce = false := by simpa using hk
    go_enter Tryd.func48, Tryd.ntmps48
    go_wp2_with fail
    refine HSK.out.mono ?_
    rintro e w1 hT
    obtain ⟨hb, rfl⟩ := hT.noS hk'
    have HF : Hid (OTold w (sealE key nonce) (sealT key nonce beside b) (.returned (.tuple #[.slice none 0 0, .int .i64 1])) w1) := by
      rw [sealE, sealT, hk']
      exact OTold.nil hb
    clear hT hb hk hk' HSK
    go_wp2
    go_ret2
    exact HF.out

set_option maxHeartbeats 1600000 in
set_option maxRecDepth 100000 in
theorem Open_c (v1 v2 v3 v4 : Value) (key nonce beside b : List UInt8) (w : World) (hcl : Cl w) (hsl : beside.length ≤ 10000) (hbl : b.length ≤ 10000) (h1 : BSl w v1 key) (h2 : BSl w v2 nonce) (h3 : BSl w v3 beside) (h4 : BSl w v4 b) :
    Calls Tryd.prog 58 #[v1, v2, v3, v4] w fun e w' => ETold w (openE key nonce beside b) (openT key nonce beside b) e w' := by
  have HCL := hidden hcl
  have H1 := hidden h1
  have H2 := hidden h2
  have H3 := hidden h3
  have H4 := hidden h4
  have HSK := hidden (sumKeyOf_c v1 v2 key nonce w h1 h2)
  obtain ⟨a4, c4, rfl, hc4, hm4, _⟩ := h4
  unfold maxLen at hm4
  clear h1 h2 h3 hcl
  by_cases hk : okSizes key nonce = true
  · have HK := hidden hk
    by_cases hsh : b.length < 16
    · have hsh' : (b.length : Int) < 16 := by omega
      have HE := hidden (open_short beside b hk hsh)
      clear hk
      go_enter Tryd.func58, Tryd.ntmps58
      go_wp2_with fail
      refine HSK.out.mono ?_
      rintro e w1 hT
      obtain ⟨hb1, vk, rfl, hsk, _⟩ := hT.okS HK.out
      have HF : Hid (ETold w (openE key nonce beside b) (openT key nonce beside b) (.returned (.tuple #[.slice none 0 0, .int .i64 10])) w1) := by
        rw [openT_not (by rw [HE.out]; omega), HE.out]
        exact ETold.nil hb1
      clear hT hb1 hsk HSK HE
      go_wp2
      go_ret2
      exact HF.out
    · have hsh' : ¬ (b.length : Int) < 16 := by omega
      have hOE : openE key nonce beside b = if tagL key nonce beside (b.take (b.length - 16)) = b.drop (b.length - 16) then 0 else 14 := by rw [openE, if_pos hk, if_neg hsh]
      have hne : b ≠ [] := by intro e; rw [e] at hsh; simp at hsh
      obtain ⟨b4, o4, rfl⟩ := H4.out.addr hne
      obtain ⟨n, hn⟩ : ∃ n, n = b.length - 16 := ⟨_, rfl⟩
      have hnb : b.length = n + 16 := by omega
      have HC := hidden (H4.out.head' (n := n) (by omega))
      have HD : Hid (BSl w (.slice (some ⟨b4, o4 + n, none⟩) 16 (c4 - n)) (b.drop n)) := by
        have := H4.out.dropS (k := n) (by omega)
        rw [hnb, Nat.add_sub_cancel_left] at this
        exact this
      have hDl : (b.drop n).length = 16 := by rw [List.length_drop]; omega
      have hCl : (b.take n).length = n := by rw [List.length_take]; omega
      have hOT : openT key nonce beside b = if openE key nonce beside b = 0 then xorL key 1 nonce (b.take n) else [] := by rw [openT, hn]
      rw [← hn] at hOE
      rw [hnb] at hc4 hbl hsh' ⊢
      have HOE := hidden hOE
      have HOT := hidden hOT
      generalize b.take n = C at HC HOE HOT hCl
      generalize b.drop n = D at HD HOE hDl
      have hs1 : (n : Int) + 16 - 16 = (n : Int) := by omega
      have hs2 : ((n + 16 : Nat) : Int) - 16 = (n : Int) := by omega
      have hs3 : (n : Int) ≤ (c4 : Int) := by omega
      have hs4 : (n : Int) ≤ (n : Int) + 16 := by omega
      have hs5 : n + 16 - n = 16 := by omega
      clear hk hne hsh H4 hOE hOT hn hnb
      go_enter Tryd.func58, Tryd.ntmps58
      go_wp2_with fail
      refine HSK.out.mono ?_
      rintro e w1 hT
      obtain ⟨hb1, vk, rfl, hsk, _⟩ := hT.okS HK.out
      have HS1 := hidden hsk
      have HB1 := hidden hb1
      have HC1 := hidden (HC.out.fresh hb1)
      have HD1 := hidden (HD.out.fresh hb1)
      clear hT hb1 hsk HSK HC HD
      go_wp2_with fail
      go_quiet (fail)
      have HB2 := hidden (below_drewN HB1.out nq)
      have HS2 := hidden (HS1.out.keep (S := fun _ => False) ((Keeps.refl _ _).drewN nq) (fun _ _ h => h))
      have HC2 := hidden (HC1.out.keep (S := fun _ => False) ((Keeps.refl _ _).drewN nq) (fun _ _ h => h))
      have HD2 := hidden (HD1.out.keep (S := fun _ => False) ((Keeps.refl _ _).drewN nq) (fun _ _ h => h))
      generalize w1.drewN nq = w2 at HB2 HS2 HC2 HD2 ⊢
      have HCL' := hidden hCl
      have HDL' := hidden hDl
      clear HB1 HS1 HC1 HD1 hCl hDl
      go_wp2_with fail
      refine (summed_c _ _ beside C w2 (by omega) (by have := HCL'.out; omega) (H3.out.fresh HB2.out) HC2.out).mono ?_
      rintro e w3 ⟨vm, rfl, ho3, hb3⟩
      have HM3 := hidden (BSl.ofRow ho3)
      have HB3 := hidden (HB2.out.trans (hb3.mono HB2.out.size))
      have HS3 := hidden (HS2.out.fresh hb3)
      have HC3 := hidden (HC2.out.fresh hb3)
      have HD3 := hidden (HD2.out.fresh hb3)
      have HML := hidden (macL_length beside C)
      clear ho3 hb3 HS2 HC2 HD2 HB2
      go_wp2_with fail
      refine (Sum_c _ _ (skL key nonce) (macL beside C) (by have := HML.out; have := HCL'.out; omega) w3 (HCL.out.fresh HB3.out) HS3.out HM3.out).mono ?_
      rintro e w4 hT
      obtain ⟨hb4, gs, rfl, hgs, hs⟩ := hT.ok (skL_length _ _)
      have hs2 := bsl16 hs (polyL_length _ _)
      rw [show polyL (skL key nonce) (macL beside C) = tagL key nonce beside C from rfl] at hs2
      have HT4 := hidden hs2
      have HB4 := hidden (HB3.out.trans (hb4.mono HB3.out.size))
      have HC4 := hidden (HC3.out.fresh hb4)
      have HD4 := hidden (HD3.out.fresh hb4)
      clear hT hb4 hgs hs hs2 HS3 HC3 HD3 HB3 HM3
      go_wp2_with fail
      refine (Same_c _ _ (tagL key nonce beside C) D w4 HT4.out HD4.out).mono ?_
      rintro e w5' ⟨rfl, q, rfl⟩
      have HB5 := hidden (below_drewN HB4.out q)
      have HC5 := hidden (HC4.out.keep (S := fun _ => False) ((Keeps.refl _ _).drewN q) (fun _ _ h => h))
      generalize w4.drewN q = w5 at HB5 HC5 ⊢
      clear HC4 HD4 HT4 HB4
      by_cases hs : tagL key nonce beside C = D
      · rw [decide_eq_true hs]
        have HE : Hid (openE key nonce beside b = 0) := by show _ = _; rw [HOE.out, if_pos hs]
        have HT : Hid (openT key nonce beside b = xorL key 1 nonce C) := by show _ = _; rw [HOT.out, if_pos HE.out]
        clear hs HOE HOT
        go_wp2_with fail
        refine (Xor_c v1 v2 _ key nonce C 1 (by omega) (by omega) (by have := HCL'.out; omega) w5 (H1.out.fresh HB5.out) (H2.out.fresh HB5.out) HC5.out).mono ?_
        rintro e w6 hT
        obtain ⟨hb6, vx, rfl, hx, hxo⟩ := hT.okS HK.out
        have HF : Hid (ETold w (openE key nonce beside b) (openT key nonce beside b) (.returned (.tuple #[vx, .int .i64 0])) w6) := by
          rw [HE.out, HT.out]
          exact ⟨HB5.out.trans (hb6.mono HB5.out.size), vx, rfl, hx, fun g e => ⟨Nat.le_trans HB5.out.size (hxo g e).1, (hxo g e).2⟩⟩
        clear hT hb6 hx hxo
        go_wp2
        go_ret2
        exact HF.out
      · rw [decide_eq_false hs]
        have HF : Hid (ETold w (openE key nonce beside b) (openT key nonce beside b) (.returned (.tuple #[.slice none 0 0, .int .i64 14])) w5) := by
          have hE : openE key nonce beside b = 14 := by rw [HOE.out, if_neg hs]
          rw [openT_not (by rw [hE]; omega), hE]
          exact ETold.nil HB5.out
        clear hs HOE HOT
        go_wp2
        go_ret2
        exact HF.out
  · have hk' : okSizes key nonce = false := by simpa using hk
    go_enter Tryd.func58, Tryd.ntmps58
    go_wp2_with fail
    refine HSK.out.mono ?_
    rintro e w1 hT
    obtain ⟨hb, rfl⟩ := hT.noS hk'
    have HF : Hid (ETold w (openE key nonce beside b) (openT key nonce beside b) (.returned (.tuple #[.slice none 0 0, .int .i64 1])) w1) := by
      have hE : openE key nonce beside b = 1 := by rw [openE, hk']; rfl
      rw [openT_not (by rw [hE]; omega), hE]
      exact ETold.nil hb
    clear hT hb hk hk' HSK
    go_wp2
    go_ret2
    exact HF.out
end Go.Proofs.YthkaibkmpenclaaDoor
