/- The walk of the law AeadNumbers. -/
import Derived.Test.YtndneidkodpdpaaDoorAeL
import Derived.Deep.RegionHeld3
namespace Go.Proofs.YtndneidkodpdpaaDoor
open Go Go.RowKit

theorem open_bad {key nonce beside s : List UInt8} (h : okSizes key nonce = false) : openE key nonce beside s = 1 ∧ openT key nonce beside s = [] := by
  have hE : openE key nonce beside s = 1 := by rw [openE, h]; rfl
  exact ⟨hE, openT_not (by rw [hE]; omega)⟩
theorem seal_bad {key nonce beside s : List UInt8} (h : okSizes key nonce = false) : sealE key nonce = 1 ∧ sealT key nonce beside s = [] := by
  rw [sealE, sealT, h]
  exact ⟨rfl, rfl⟩
theorem below_da (w : World) (o : Obj) : Below w.heap.size w (w.drew.alloc o) := ((Below.refl _ w).drew).alloc (Nat.le_refl _) o
theorem below_na (w : World) (o : Obj) : Below w.heap.size w (w.alloc o) := (Below.refl _ w).alloc (Nat.le_refl _) o

set_option maxHeartbeats 3200000 in
set_option maxRecDepth 100000 in
theorem aeadNumbers_c (w : World) (hcl : Cl w) :
    Calls Tryd.prog 5 #[] w fun e w' => e = .returned (.bool true) ∧ Below w.heap.size w w' := by
  have HCL := hidden hcl
  have HBT := hidden b_tag
  clear hcl
  obtain ⟨Z1, hZ1, hm1⟩ : ∃ Z, (∀ w : World, BSl (w.alloc (.cells Z 5)) (.slice (some ⟨w.heap.size, 0, none⟩) 20 20) (List.replicate 20 0)) ∧ ∀ w : World, (Instr.makeSlice 22 (.int .i64 20) (.int .i64 20)).run Tryd.prog w = .ok (.slice (some ⟨w.heap.size, 0, none⟩) 20 20) (w.alloc (.cells Z 5)) := ⟨_, fun w => BSl.zeros w 20 (by omega), fun w => made_run 20 (by omega) w⟩
  have HZ1 := hidden hZ1
  clear hZ1
  obtain ⟨Z2, hZ2, hm2⟩ : ∃ Z, (∀ w : World, BSl (w.alloc (.cells Z 5)) (.slice (some ⟨w.heap.size, 0, none⟩) 15 15) (List.replicate 15 0)) ∧ ∀ w : World, (Instr.makeSlice 22 (.int .i64 15) (.int .i64 15)).run Tryd.prog w = .ok (.slice (some ⟨w.heap.size, 0, none⟩) 15 15) (w.alloc (.cells Z 5)) := ⟨_, fun w => BSl.zeros w 15 (by omega), fun w => made_run 15 (by omega) w⟩
  have HZ2 := hidden hZ2
  clear hZ2
  obtain ⟨Z3, hZ3, hm3⟩ : ∃ Z, (∀ w : World, BSl (w.alloc (.cells Z 5)) (.slice (some ⟨w.heap.size, 0, none⟩) 16 16) (List.replicate 16 0)) ∧ ∀ w : World, (Instr.makeSlice 22 (.int .i64 16) (.int .i64 16)).run Tryd.prog w = .ok (.slice (some ⟨w.heap.size, 0, none⟩) 16 16) (w.alloc (.cells Z 5)) := ⟨_, fun w => BSl.zeros w 16 (by omega), fun w => made_run 16 (by omega) w⟩
  have HZ3 := hidden hZ3
  clear hZ3
  go_enter Tryd.func5, Tryd.ntmps5
  go_wp2_with fail
  refine (riseF_c 0 32 (by omega) (by omega) _).mono ?_
  rintro e w1 ⟨v1, rfl, ho1, hb1⟩
  have hkl := riseF_length 0 32
  generalize riseF 0 32 = key at ho1 hkl HBT
  have h1 := BSl.ofRow ho1
  obtain ⟨ka, kc, e1, hkc, _⟩ := id h1
  subst e1
  rw [hkl] at h1 hkc ⊢
  have HK1 := hidden h1
  have HB1 := hidden hb1
  clear ho1 h1 hb1
  go_wp2_with fail
  refine (riseF_c 0 12 (by omega) (by omega) _).mono ?_
  rintro e w2 ⟨v2, rfl, ho2, hb2⟩
  have hnl := riseF_length 0 12
  generalize riseF 0 12 = nonce at ho2 hnl HBT
  have h2 := BSl.ofRow ho2
  obtain ⟨na, nc, e2, hnc, _⟩ := id h2
  subst e2
  rw [hnl] at h2 hnc ⊢
  have HN2 := hidden h2
  have HK2 := hidden (HK1.out.fresh hb2)
  have HBW := hidden (HB1.out.trans (hb2.mono HB1.out.size))
  have HCL2 := hidden (HCL.out.fresh HBW.out)
  clear ho2 h2 hb2 HK1 HB1 HCL
  have HKs : Hid (BSl w2 (.slice ka 31 kc) (key.take 31)) := by
    have := HK2.out
    rw [← hkl] at this
    exact this.head' (by omega)
  have HNs : Hid (BSl w2 (.slice na 11 nc) (nonce.take 11)) := by
    have := HN2.out
    rw [← hnl] at this
    exact this.head' (by omega)
  have HOK := hidden (ok_of hkl hnl)
  have hbk : okSizes (key.take 31) nonce = false := by simp [okSizes, hkl]
  have hbn : okSizes key (nonce.take 11) = false := by simp [okSizes, hnl]
  have HSk := hidden (seal_bad (beside := []) (s := []) hbk)
  have HSn := hidden (seal_bad (beside := []) (s := []) hbn)
  have HOk := hidden (open_bad (beside := []) (s := List.replicate 20 0) hbk)
  have HOn := hidden (open_bad (beside := []) (s := []) hbn)
  have HO15 : Hid (openE key nonce [] (List.replicate 15 0) = 10 ∧ openT key nonce [] (List.replicate 15 0) = []) := by
    have hE := open_short [] (List.replicate 15 0) HOK.out (by simp)
    exact ⟨hE, openT_not (by rw [hE]; omega)⟩
  have HO16 : Hid (openE key nonce [] (List.replicate 16 0) = 14 ∧ openT key nonce [] (List.replicate 16 0) = []) := by
    have hE : openE key nonce [] (List.replicate 16 0) = 14 := by
      rw [openE, if_pos HOK.out, if_neg (by simp), List.length_replicate, show 16 - 16 = 0 from rfl, List.take_zero, List.drop_zero, if_neg HBT.out]
    exact ⟨hE, openT_not (by rw [hE]; omega)⟩
  have hk31 : (31 : Int) ≤ (kc : Int) := by omega
  have hn11 : (11 : Int) ≤ (nc : Int) := by omega
  clear hbk hbn hkl hnl HBT hkc hnc
  go_wp2_with fail
  refine (Seal_c _ _ _ _ (key.take 31) nonce [] [] w2 HCL2.out (by simp) (by simp) HKs.out HN2.out (bsl_none _) (bsl_none _)).mono ?_
  rintro e w3 hT
  rw [HSk.out.1, HSk.out.2] at hT
  obtain ⟨hb3, p3a, p3c, rfl, _⟩ := hT.told.sl
  have HB3 := hidden hb3
  clear hT hb3
  go_wp2_with fail
  refine (Seal_c _ _ _ _ key (nonce.take 11) [] [] w3 (HCL2.out.fresh HB3.out) (by simp) (by simp) (HK2.out.fresh HB3.out) (HNs.out.fresh HB3.out) (bsl_none _) (bsl_none _)).mono ?_
  rintro e w4 hT
  rw [HSn.out.1, HSn.out.2] at hT
  obtain ⟨hb4, p4a, p4c, rfl, _⟩ := hT.told.sl
  have HB4 := hidden (HB3.out.trans (hb4.mono HB3.out.size))
  clear hT hb4 HB3
  go_wp2_with fail
  go_region_held3 (fun _ => True) (trivial) (first | (go_at_call 19; refine (Open_c _ _ _ _ (key.take 31) nonce [] (List.replicate 20 0) _ (HCL2.out.fresh (HB4.out.trans ((below_da w4 (.cells Z1 5)).mono HB4.out.size))) (by simp) (by simp) (HKs.out.fresh (HB4.out.trans ((below_da w4 (.cells Z1 5)).mono HB4.out.size))) (HN2.out.fresh (HB4.out.trans ((below_da w4 (.cells Z1 5)).mono HB4.out.size))) (bsl_none _) (HZ1.out w4.drew)).mono ?_; rintro e w5 hT; rw [HOk.out.1, HOk.out.2] at hT; obtain ⟨hb5, p5a, p5c, rfl, _⟩ := hT.sl))
  have HB5 := hidden (HB4.out.trans (((below_da w4 (.cells Z1 5)).trans (hb5.mono (below_da w4 (.cells Z1 5)).size)).mono HB4.out.size))
  clear hT hb5 HB4 hm1 HZ1
  go_wp2_with fail
  refine (Open_c _ _ _ _ key (nonce.take 11) [] [] w5 (HCL2.out.fresh HB5.out) (by simp) (by simp) (HK2.out.fresh HB5.out) (HNs.out.fresh HB5.out) (bsl_none _) (bsl_none _)).mono ?_
  rintro e w6 hT
  rw [HOn.out.1, HOn.out.2] at hT
  obtain ⟨hb6, p6a, p6c, rfl, _⟩ := hT.sl
  have HB6 := hidden (HB5.out.trans (hb6.mono HB5.out.size))
  clear hT hb6 HB5
  have HB6z := hidden (HB6.out.trans ((below_na w6 (.cells Z2 5)).mono HB6.out.size))
  go_wp2_with fail
  refine (Open_c _ _ _ _ key nonce [] (List.replicate 15 0) _ (HCL2.out.fresh HB6z.out) (by simp) (by simp) (HK2.out.fresh HB6z.out) (HN2.out.fresh HB6z.out) (bsl_none _) (HZ2.out w6)).mono ?_
  rintro e w7 hT
  rw [HO15.out.1, HO15.out.2] at hT
  obtain ⟨hb7, p7a, p7c, rfl, _⟩ := hT.sl
  have HB7 := hidden (HB6z.out.trans (hb7.mono HB6z.out.size))
  clear hT hb7 HB6 HB6z hm2 HZ2
  have HB7z := hidden (HB7.out.trans ((below_na w7 (.cells Z3 5)).mono HB7.out.size))
  go_wp2_with fail
  refine (Open_c _ _ _ _ key nonce [] (List.replicate 16 0) _ (HCL2.out.fresh HB7z.out) (by simp) (by simp) (HK2.out.fresh HB7z.out) (HN2.out.fresh HB7z.out) (bsl_none _) (HZ3.out w7)).mono ?_
  rintro e w8 hT
  rw [HO16.out.1, HO16.out.2] at hT
  obtain ⟨hb8, p8a, p8c, rfl, _⟩ := hT.sl
  have HB8 := hidden (HB7z.out.trans (hb8.mono HB7z.out.size))
  clear hT hb8 HB7 HB7z hm3 HZ3
  go_wp2_with fail
  refine (Seal_c _ _ _ _ key nonce [] [] w8 (HCL2.out.fresh HB8.out) (by simp) (by simp) (HK2.out.fresh HB8.out) (HN2.out.fresh HB8.out) (bsl_none _) (bsl_none _)).mono ?_
  rintro e w9 hT
  rw [sealE_ok HOK.out] at hT
  have hsl : (sealT key nonce [] []).length = 16 := sealT_length [] [] HOK.out
  have HOE := hidden (open_seal [] [] HOK.out)
  have HOT := hidden (open_text [] [] HOK.out)
  generalize sealT key nonce [] [] = S at hT hsl HOE HOT
  obtain ⟨hb9, p9a, p9c, rfl, hs9⟩ := hT.told.sl
  rw [hsl] at hs9 ⊢
  have HS9 := hidden hs9
  have HSL := hidden hsl
  have HB9 := hidden (HB8.out.trans (hb9.mono HB8.out.size))
  clear hT hb9 HB8 hs9 hsl
  go_wp2_with fail
  refine (Open_c _ _ _ _ key nonce [] S w9 (HCL2.out.fresh HB9.out) (by simp) (by have := HSL.out; omega) (HK2.out.fresh HB9.out) (HN2.out.fresh HB9.out) (bsl_none _) HS9.out).mono ?_
  rintro e w10 hT
  rw [HOE.out, HOT.out] at hT
  obtain ⟨hb10, p10a, p10c, rfl, _⟩ := hT.sl
  have HB10 := hidden (HB9.out.trans (hb10.mono HB9.out.size))
  clear hT hb10 HB9 HS9
  go_wp2_with fail
  refine (aknown_c w10 (HCL2.out.fresh HB10.out)).mono ?_
  rintro e w11 ⟨rfl, hb11⟩
  have HB11 := hidden (HB10.out.trans (hb11.mono HB10.out.size))
  clear hb11
  go_wp2
  go_ret
  exact ⟨rfl, HBW.out.trans (HB11.out.mono HBW.out.size)⟩
end Go.Proofs.YtndneidkodpdpaaDoor
