/- The walk of the law PolyNumbers. -/
import Derived.Test.YtndneidkodpdpaaDoorPoW
namespace Go.Proofs.YtndneidkodpdpaaDoor
open Go Go.RowKit

def tabL : List UInt8 := [0, 1, 2, 4, 5, 255]
theorem bsl_lit (w : World) (xs : List UInt8) (hl : xs.length ≤ 1000) : BSl (w.alloc (.cells (bcells xs).toArray 5)) (.slice (some ⟨w.heap.size, 0, none⟩) xs.length xs.length) xs :=
  BSl.ofBlock (heap_alloc_new w _) (by omega)
theorem below_new (w : World) (o : Obj) : Below w.heap.size w (w.alloc o) := (Below.refl _ w).alloc (Nat.le_refl _) o
theorem PTold.ok {w w' : World} {key b : List UInt8} {e : Ending} (h : PTold w key b e w') (hk : key.length = 32) : Below w.heap.size w w' ∧ ∃ ao n cap, e = .returned (.tuple #[.slice ao n cap, .int .i64 0]) ∧ BSl w' (.slice ao n cap) (polyL key b) := by
  obtain ⟨h1, ao, n, cap, h2, h3⟩ := h
  rw [sumE, if_pos hk] at h2
  rw [sumT, if_pos hk] at h3
  exact ⟨h1, ao, n, cap, h2, h3⟩
theorem PTold.no {w w' : World} {key b : List UInt8} {e : Ending} (h : PTold w key b e w') (hk : key.length ≠ 32) : Below w.heap.size w w' ∧ ∃ ao n cap, e = .returned (.tuple #[.slice ao n cap, .int .i64 1]) := by
  obtain ⟨h1, ao, n, cap, h2, h3⟩ := h
  rw [sumE, if_neg hk] at h2
  exact ⟨h1, ao, n, cap, h2⟩
theorem one_one (w : World) (x y : UInt8) : BSl ((w.alloc (.cells #[.int .u8 (x.toNat : Int)] 5)).alloc (.cells #[.int .u8 (y.toNat : Int)] 5)) (.slice (some ⟨w.heap.size, 0, none⟩) 1 1) [x] ∧
    BSl ((w.alloc (.cells #[.int .u8 (x.toNat : Int)] 5)).alloc (.cells #[.int .u8 (y.toNat : Int)] 5)) (.slice (some ⟨w.heap.size + 1, 0, none⟩) 1 1) [y] ∧
    Below w.heap.size w ((w.alloc (.cells #[.int .u8 (x.toNat : Int)] 5)).alloc (.cells #[.int .u8 (y.toNat : Int)] 5)) := by
  refine ⟨(bsl_lit w [x] (by simp)).alloc _, ?_, (below_new w _).alloc (by simp) _⟩
  have := bsl_lit (w.alloc (.cells #[.int .u8 (x.toNat : Int)] 5)) [y] (by simp)
  rw [show (w.alloc (.cells #[.int .u8 (x.toNat : Int)] 5)).heap.size = w.heap.size + 1 by simp] at this
  exact this

set_option maxHeartbeats 3200000 in
set_option maxRecDepth 100000 in
theorem polyNumbers_c (w : World) (hcl : Cl w) :
    Calls Tryd.prog 3 #[] w fun e w' => e = .returned (.bool true) ∧ Below w.heap.size w w' := by
  have HCL := hidden hcl
  obtain ⟨Z1, hZ1, hm1⟩ : ∃ Z, (∀ w : World, BSl (w.alloc (.cells Z 5)) (.slice (some ⟨w.heap.size, 0, none⟩) 31 31) (List.replicate 31 0)) ∧ ∀ w : World, (Instr.makeSlice 22 (.int .i64 31) (.int .i64 31)).run Tryd.prog w = .ok (.slice (some ⟨w.heap.size, 0, none⟩) 31 31) (w.alloc (.cells Z 5)) := ⟨_, fun w => BSl.zeros w 31 (by omega), fun w => made_run 31 (by omega) w⟩
  obtain ⟨Z2, hZ2, hm2⟩ : ∃ Z, (∀ w : World, BSl (w.alloc (.cells Z 5)) (.slice (some ⟨w.heap.size, 0, none⟩) 33 33) (List.replicate 33 0)) ∧ ∀ w : World, (Instr.makeSlice 22 (.int .i64 33) (.int .i64 33)).run Tryd.prog w = .ok (.slice (some ⟨w.heap.size, 0, none⟩) 33 33) (w.alloc (.cells Z 5)) := ⟨_, fun w => BSl.zeros w 33 (by omega), fun w => made_run 33 (by omega) w⟩
  obtain ⟨Z3, hZ3, hm3⟩ : ∃ Z, (∀ w : World, ORow (w.alloc (.cells Z 5)) w.heap.size w.heap.size 32 (List.replicate 32 0)) ∧ ∀ w : World, (Instr.makeSlice 22 (.int .i64 32) (.int .i64 32)).run Tryd.prog w = .ok (.slice (some ⟨w.heap.size, 0, none⟩) 32 32) (w.alloc (.cells Z 5)) := by
    refine ⟨(bcells (List.replicate 32 0)).toArray, fun w => ⟨Nat.le_refl _, by simp, by simp [maxLen], _, heap_alloc_new w _, rfl, rfl⟩, fun w => made_run 32 (by omega) w⟩
  have HZ1 := hidden hZ1
  have HZ2 := hidden hZ2
  have HZ3 := hidden hZ3
  clear hcl hZ1 hZ2 hZ3
  go_enter Tryd.func3, Tryd.ntmps3
  go_wp2_with fail
  refine (Sum_c _ _ (List.replicate 31 0) [] (by simp) _ (HCL.out.fresh (below_new w _)) (HZ1.out w) (bsl_none0 _)).mono ?_
  rintro e w1 hT
  obtain ⟨hb1, xa, xn, xc, rfl⟩ := hT.p.no (by simp)
  have HB1 := hidden ((below_new w _).trans (hb1.mono (below_new w (.cells Z1 5)).size))
  clear hT hb1 HZ1 hm1
  go_wp2_with fail
  refine (Sum_c _ _ (List.replicate 33 0) [] (by simp) _ ((HCL.out.fresh HB1.out).fresh (below_new w1 _)) (HZ2.out w1) (bsl_none0 _)).mono ?_
  rintro e w2 hT
  obtain ⟨hb2, ya, yn, yc, rfl⟩ := hT.p.no (by simp)
  have HB2 := hidden (HB1.out.trans (((below_new w1 _).trans (hb2.mono (below_new w1 (.cells Z2 5)).size)).mono HB1.out.size))
  clear hT hb2 HZ2 hm2 HB1
  go_wp2_with fail
  refine (sized_b 64 (by omega) _ [255] _ (bsl_lit w2 [255] (by decide))).mono ?_
  rintro e w3 ⟨rfl, ha3, hb3⟩
  have hal := sizedL_length [255] 64
  generalize sizedL [255] 64 = A at ha3 hal
  have HB3 := hidden (HB2.out.trans (((below_new w2 _).trans (hb3.mono (below_new w2 _).size)).mono HB2.out.size))
  obtain ⟨ga, hga⟩ : ∃ ga, ga = (w2.alloc (.cells (bcells [255]).toArray 5)).heap.size := ⟨_, rfl⟩
  rw [← hga] at ha3 ⊢
  have HA3 := hidden ha3
  have HAL := hidden hal
  clear hga hal ha3 hb3 HB2
  go_wp2_with fail
  change Code.wp _ _ _ _ (w3.alloc (.cells (bcells tabL).toArray 5))
  have ht4 : BSl (w3.alloc (.cells (bcells tabL).toArray 5)) (.slice (some ⟨w3.heap.size, 0, none⟩) 6 6) tabL := bsl_lit w3 tabL (by decide)
  have hb4 := below_new w3 (.cells (bcells tabL).toArray 5)
  have ha4 := HA3.out.fresh hb4
  have HB4 := hidden (HB3.out.trans (hb4.mono HB3.out.size))
  generalize w3.alloc (.cells (bcells tabL).toArray 5) = w4 at ht4 hb4 ha4 HB4 ⊢
  generalize w3.heap.size = gt at ht4 ⊢
  have HT4 := hidden ht4
  have HA4 := hidden ha4
  have HCL4 := hidden (HCL.out.fresh HB4.out)
  clear ht4 hb4 ha4 HA3 HB3
  go_loopw [28] (fun i wr => ∃ k : Nat, k ≤ 6 ∧ i = .int .i64 (k : Int) ∧ Below w4.heap.size w4 wr) (fun i _ => 6 - (intOf i).toNat)
  case atStart => exact ⟨0, by omega, rfl, Below.refl _ _⟩
  case round =>
    obtain ⟨k, hk, rfl, hb⟩ := hrel
    by_cases hlt : k < 6
    · have hlt' : (k : Int) < 6 := by omega
      have hcell := (HT4.out.fresh hb).cellD k (by show k < 6; omega)
      rw [Nat.zero_add] at hcell
      generalize tabL.getD k 0 = r at hcell
      have HB5 := hidden hb
      clear hb
      go_wp2_with fail
      go_loopw [8] (fun c wr => ∃ n : Nat, n ≤ 65 ∧ c = .int .i64 (n : Int) ∧ Below w4.heap.size w4 wr) (fun c _ => 65 - (intOf c).toNat)
      case atStart => exact ⟨0, by omega, rfl, HB5.out⟩
      case round =>
        clear HB5 hcell
        obtain ⟨n, hn, rfl, hb⟩ := hrel
        by_cases hltn : n < 65
        · have hltn' : (n : Int) ≤ 64 := by omega
          have HO := hidden (HZ3.out wr)
          have HB6 := hidden (hb.alloc hb.size (.cells Z3 5))
          go_upto_region 11 with fail
          generalize wr.alloc (.cells Z3 5) = wa at HO HB6 ⊢
          have hc0 := HO.out.cell 0 (by simp)
          have hf0 := HO.out.frozen 0
          have ho2 : ORow (wa.setCell ⟨wr.heap.size, 0, none⟩ (.int .u8 r.toNat)) wr.heap.size wr.heap.size 32 ((List.replicate 32 0).set 0 r) := HO.out.set 0 r
          have hb7 : Below w4.heap.size w4 (wa.setCell ⟨wr.heap.size, 0, none⟩ (.int .u8 r.toNat)) := HB6.out.setCell hb.size _
          have hkl : ((List.replicate 32 (0 : UInt8)).set 0 r).length = 32 := by simp
          generalize ((List.replicate 32 (0 : UInt8)).getD 0 0).toNat = q0 at hc0
          have HO2 := hidden ho2
          have HB7 := hidden hb7
          generalize (List.replicate 32 (0 : UInt8)).set 0 r = K at HO2 hkl
          have HKL := hidden hkl
          clear ho2 hb7 HO HB6 hkl hb
          go_upto_region 12 with fail
          generalize wa.setCell ⟨wr.heap.size, 0, none⟩ (.int .u8 r.toNat) = w7 at HO2 HB7 ⊢
          have hk7 : BSl w7 (.slice (some ⟨wr.heap.size, 0, none⟩) 32 32) K := by
            have := HO2.out.bsl
            rwa [HKL.out] at this
          generalize wr.heap.size = gk at hk7 ⊢
          have HK7 := hidden hk7
          clear hc0 hf0 hk7 HO2
          by_cases h3 : n % 3 = 0
          · have h3a : ((n : Int) % 3 == 0) = true := by simp; omega
            clear HK7 HKL K
            go_wp2_with fail
            have hb2 : BSl (w7.alloc (.cells #[.int .u8 (r.toNat : Int), .int .u8 255] 5)) (.slice (some ⟨w7.heap.size, 0, none⟩) 2 2) [r, 255] := bsl_lit w7 [r, 255] (by simp)
            refine (sized_b 32 (by omega) _ [r, 255] _ hb2).mono ?_
            clear hb2
            rintro e w8 ⟨rfl, hk8, hb8⟩
            have hkl := sizedL_length [r, 255] 32
            generalize sizedL [r, 255] 32 = K at hk8 hkl
            have HB8 := hidden (HB7.out.trans (((below_new w7 _).trans (hb8.mono (below_new w7 _).size)).mono HB7.out.size))
            obtain ⟨gk2, hgk2⟩ : ∃ g, g = (w7.alloc (.cells #[.int .u8 (r.toNat : Int), .int .u8 255] 5)).heap.size := ⟨_, rfl⟩
            rw [← hgk2] at hk8 ⊢
            have HK8 := hidden hk8
            have HKL := hidden hkl
            clear hkl hk8 hb8 hgk2 HB7
            have HAn : Hid (BSl w8 (.slice (some ⟨ga, 0, none⟩) n 64) (A.take n)) := by
              have := (HA4.out.fresh HB8.out).part (i := 0) (j := n) (by omega)
              show BSl _ _ _
              simpa using this
            have HAnl : Hid ((A.take n).length ≤ 64) := by show _ ≤ _; rw [List.length_take]; omega
            go_wp2_with fail
            refine (Sum_c _ _ K (A.take n) (by have := HAnl.out; omega) w8 (HCL4.out.fresh HB8.out) HK8.out HAn.out).mono ?_
            rintro e w9 hT
            obtain ⟨hb9, pa, pn, pc, rfl, hp9⟩ := hT.p.ok HKL.out
            have HP9 := hidden hp9
            have HB9 := hidden (HB8.out.trans (hb9.mono HB8.out.size))
            have HK9 := hidden (HK8.out.fresh hb9)
            have HAn9 := hidden (HAn.out.fresh hb9)
            clear hT hb9 hp9 HB8 HK8 HAn
            go_wp2_with fail
            refine (rSum_c _ _ K (A.take n) (by have := HAnl.out; omega) w9 HK9.out HAn9.out).mono ?_
            rintro e w10 hT
            obtain ⟨hb10, qa, qn, qc, rfl, hp10⟩ := hT.p.ok HKL.out
            have hs1 := run_string (HP9.out.fresh hb10)
            have hs2 := run_string hp10
            have HB10 := hidden (HB9.out.trans (hb10.mono HB9.out.size))
            generalize (⟨(polyL K (A.take n)).toArray⟩ : ByteArray) = S at hs1 hs2
            clear hT hb10 hp10 HB9 HK9 HAn9 HP9
            go_wp2
            go_roundw
            case rel => exact ⟨n + 1, by omega, by go_num, HB10.out⟩
            case measure => simp [intOf]; omega
          · have h3a : ((n : Int) % 3 == 0) = false := by simp; omega
            have HAn : Hid (BSl w7 (.slice (some ⟨ga, 0, none⟩) n 64) (A.take n)) := by
              have := (HA4.out.fresh HB7.out).part (i := 0) (j := n) (by omega)
              show BSl _ _ _
              simpa using this
            have HAnl : Hid ((A.take n).length ≤ 64) := by show _ ≤ _; rw [List.length_take]; omega
            go_wp2_with fail
            refine (Sum_c _ _ K (A.take n) (by have := HAnl.out; omega) w7 (HCL4.out.fresh HB7.out) HK7.out HAn.out).mono ?_
            rintro e w9 hT
            obtain ⟨hb9, pa, pn, pc, rfl, hp9⟩ := hT.p.ok HKL.out
            have HP9 := hidden hp9
            have HB9 := hidden (HB7.out.trans (hb9.mono HB7.out.size))
            have HK9 := hidden (HK7.out.fresh hb9)
            have HAn9 := hidden (HAn.out.fresh hb9)
            clear hT hb9 hp9 HB7 HK7 HAn
            go_wp2_with fail
            refine (rSum_c _ _ K (A.take n) (by have := HAnl.out; omega) w9 HK9.out HAn9.out).mono ?_
            rintro e w10 hT
            obtain ⟨hb10, qa, qn, qc, rfl, hp10⟩ := hT.p.ok HKL.out
            have hs1 := run_string (HP9.out.fresh hb10)
            have hs2 := run_string hp10
            have HB10 := hidden (HB9.out.trans (hb10.mono HB9.out.size))
            generalize (⟨(polyL K (A.take n)).toArray⟩ : ByteArray) = S at hs1 hs2
            clear hT hb10 hp10 HB9 HK9 HAn9 HP9
            go_wp2
            go_roundw
            case rel => exact ⟨n + 1, by omega, by go_num, HB10.out⟩
            case measure => simp [intOf]; omega
        · have hltn' : ¬ (n : Int) ≤ 64 := by omega
          have HB6 := hidden hb
          clear hb
          go_wp2
          go_roundw
          case rel => exact ⟨k + 1, by omega, by go_num, HB6.out⟩
          case measure => simp [intOf]; omega
    · have hlt' : ¬ (k : Int) < 6 := by omega
      have HB5 := hidden (HB4.out.trans (hb.mono HB4.out.size))
      have HCL5 := hidden (HCL4.out.fresh hb)
      clear hb
      go_wp2_with fail
      refine (Same_c _ _ [] [] wr (bsl_none0 _) (bsl_none0 _)).mono ?_
      rintro e w6 ⟨rfl, q6, rfl⟩
      rw [show decide (([] : List UInt8) = []) = true from rfl]
      have HB6 := hidden (below_drewN HB5.out q6)
      have HCL6 := hidden (HCL5.out.fresh (below_drewN (Below.refl _ _) q6))
      generalize wr.drewN q6 = w6 at HB6 HCL6 ⊢
      clear HB5 HCL5 HT4 HA4 HCL4 HB4
      have hA : BSl ((w6.alloc (.cells #[.int .u8 1] 5)).alloc (.cells #[.int .u8 1] 5)) (.slice (some ⟨w6.heap.size, 0, none⟩) 1 1) [1] ∧ BSl ((w6.alloc (.cells #[.int .u8 1] 5)).alloc (.cells #[.int .u8 1] 5)) (.slice (some ⟨w6.heap.size + 1, 0, none⟩) 1 1) [1] ∧ Below w6.heap.size w6 ((w6.alloc (.cells #[.int .u8 1] 5)).alloc (.cells #[.int .u8 1] 5)) := one_one w6 1 1
      go_wp2_with fail
      refine (Same_c _ _ [1] [1] _ hA.1 hA.2.1).mono ?_
      rintro e w7' ⟨rfl, q7, rfl⟩
      rw [show decide (([1] : List UInt8) = [1]) = true from rfl]
      have HB7 := hidden (below_drewN (HB6.out.trans (hA.2.2.mono HB6.out.size)) q7)
      have HCL7 := hidden (HCL6.out.fresh (below_drewN hA.2.2 q7))
      generalize (((w6.alloc (.cells #[.int .u8 1] 5)).alloc (.cells #[.int .u8 1] 5)).drewN q7) = w7 at HB7 HCL7 ⊢
      clear hA HB6 HCL6
      have hA : BSl ((w7.alloc (.cells #[.int .u8 1] 5)).alloc (.cells #[.int .u8 2] 5)) (.slice (some ⟨w7.heap.size, 0, none⟩) 1 1) [1] ∧ BSl ((w7.alloc (.cells #[.int .u8 1] 5)).alloc (.cells #[.int .u8 2] 5)) (.slice (some ⟨w7.heap.size + 1, 0, none⟩) 1 1) [2] ∧ Below w7.heap.size w7 ((w7.alloc (.cells #[.int .u8 1] 5)).alloc (.cells #[.int .u8 2] 5)) := one_one w7 1 2
      go_wp2_with fail
      refine (Same_c _ _ [1] [2] _ hA.1 hA.2.1).mono ?_
      rintro e w8' ⟨rfl, q8, rfl⟩
      rw [show decide (([1] : List UInt8) = [2]) = false from rfl]
      have HB8 := hidden (below_drewN (HB7.out.trans (hA.2.2.mono HB7.out.size)) q8)
      have HCL8 := hidden (HCL7.out.fresh (below_drewN hA.2.2 q8))
      generalize (((w7.alloc (.cells #[.int .u8 1] 5)).alloc (.cells #[.int .u8 2] 5)).drewN q8) = w8 at HB8 HCL8 ⊢
      clear hA HB7 HCL7
      have hA : BSl (w8.alloc (.cells #[.int .u8 1] 5)) (.slice (some ⟨w8.heap.size, 0, none⟩) 1 1) [1] := bsl_lit w8 [1] (by decide)
      have hB := below_new w8 (.cells #[.int .u8 1] 5)
      go_wp2_with fail
      refine (Same_c _ _ [1] [] _ hA (bsl_none0 _)).mono ?_
      rintro e w9' ⟨rfl, q9, rfl⟩
      rw [show decide (([1] : List UInt8) = []) = false from rfl]
      have HB9 := hidden (below_drewN (HB8.out.trans (hB.mono HB8.out.size)) q9)
      have HCL9 := hidden (HCL8.out.fresh (below_drewN hB q9))
      generalize (w8.alloc (.cells #[.int .u8 1] 5)).drewN q9 = w9 at HB9 HCL9 ⊢
      clear hA hB HB8 HCL8
      go_wp2_with fail
      refine (known_c w9 HCL9.out).mono ?_
      rintro e w10 ⟨rfl, hb10⟩
      have HB10 := hidden (HB9.out.trans (hb10.mono HB9.out.size))
      clear hb10
      go_wp2
      go_ret
      exact ⟨rfl, HB10.out⟩
end Go.Proofs.YtndneidkodpdpaaDoor
