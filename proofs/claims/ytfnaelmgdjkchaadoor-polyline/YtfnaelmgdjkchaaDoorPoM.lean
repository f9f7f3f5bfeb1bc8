/- The walk of the law PolyLine. -/
import Derived.Test.YtfnaelmgdjkchaaDoorPoL
import Derived.Lib.AppendZeros
import Derived.Deep.RegionLaw
import Derived.Test.YtfnaelmgdjkchaaDoorOrdC
namespace Go.Proofs.YtfnaelmgdjkchaaDoor
open Go Go.RowKit

theorem strC : ∀ s d, [((22 : TypeId), (9 : TypeId))].contains (s, d) = true → ∀ v, QuietS Tryd.prog (convert s d v) := by
  intro s d h v
  simp at h
  obtain ⟨rfl, rfl⟩ := h
  exact quietS_bytes Tryd.underlying22 Tryd.underlying5 Tryd.underlying9 v

set_option maxHeartbeats 3200000 in
set_option maxRecDepth 100000 in
theorem polyLine_c (v0 v1 : Value) (z0 z1 : List UInt8) (w : World) (hcl : Cl w) (h0 : BSl w v0 z0) (h1 : BSl w v1 z1) :
    Calls Tryd.prog 5 #[v0, v1] w fun e w' => e = .returned (.bool true) ∧ Below w.heap.size w w' := by
  have H1 := hidden h1
  have HCL := hidden hcl
  have HS0 := hidden (sized_b 32 (by omega) v0 z0 w h0)
  obtain ⟨a0, n0, rfl⟩ := h0.len
  obtain ⟨a1, n1, rfl⟩ := h1.len
  clear h0 h1 hcl
  go_enter Tryd.func5, Tryd.ntmps5
  go_wp2_with fail
  refine HS0.out.mono ?_
  rintro e w1 ⟨rfl, hk, hb1⟩
  have hkl := sizedL_length z0 32
  generalize sizedL z0 32 = key at hk hkl
  have HK := hidden hk
  have HKL := hidden hkl
  have HB1 := hidden hb1
  clear HS0 hk hkl hb1
  go_wp2_with fail
  refine (cut_c 400 (by omega) _ z1 w1 (H1.out.fresh HB1.out)).mono ?_
  rintro e w1' ⟨va, rfl, ha, _, rfl⟩
  have hal : (z1.take 400).length ≤ 400 := by simp; omega
  generalize z1.take 400 = xs at ha hal
  obtain ⟨ao, ac, rfl⟩ := ha.len
  have HA := hidden ha
  clear ha H1
  have hfront : BSl w1' (.slice (some ⟨w.heap.size, 0, none⟩) 16 32) (key.take 16) := by
    have := HK.out.part (i := 0) (j := 16) (by omega)
    simpa using this
  have hfl : (key.take 16).length = 16 := by simp [HKL.out]
  have HFR := hidden hfront
  have HFL := hidden hfl
  clear hfront hfl
  go_wp2_with (refine wpList_clone _ rfl (.tmp 19) (.tmp 21) rfl rfl _ (key.take 16) rfl HFR.out (by have := HFL.out; omega) ?_)
  intro v2 w2 ho2 hb2
  obtain ⟨g2, c2, rfl, hor2⟩ := ORow.ofOwns ho2 (by intro e; have := HFL.out; rw [e] at this; simp at this)
  rw [HFL.out] at ho2 ⊢
  have hmin : min 16 key.length = 16 := by rw [HKL.out]; rfl
  (try rw [hmin] at ho2)
  clear hmin
  obtain ⟨v3, w3, hr3, ho3, hgr3⟩ := run_append_zeros w2 w1'.heap.size g2 16 c2 16 (key.take 16) 22 ho2 (by omega) (by omega) hb2.size
  have hb3 : Below w1'.heap.size w1' w3 := hb2.grown hgr3 hb2.size (by intro k hk; cases hk; exact hor2.1)
  have HB3 := hidden (HB1.out.trans (hb3.mono HB1.out.size))
  have HZ3 := hidden (BSl.ofRow ho3)
  have HK3 := hidden (HK.out.fresh hb3)
  have HA3 := hidden (HA.out.fresh hb3)
  have HCL3 := hidden ((HCL.out.fresh HB1.out).fresh hb3)
  obtain ⟨z3a, z3c, rfl⟩ := ownsRow_shape ho3
  clear ho2 hb2 hor2 ho3 hgr3 hb3 HK HA HB1 HFR
  go_wp2_with (refine Lib.wpList_append_run _ rfl (.tmp 22) (.const (.int .i64 16)) 22 3 rfl _ _ rfl rfl _ _ hr3 ?_)
  clear hr3
  go_wp2_with fail
  refine (Sum_c _ _ key xs (by omega) w3 HCL3.out HK3.out HA3.out).mono ?_
  rintro e w4 hT
  obtain ⟨hb4, gx, rfl, hgx, hx4⟩ := hT.ok HKL.out
  have HX4 := hidden hx4
  have HB4 := hidden (HB3.out.trans (hb4.mono HB3.out.size))
  have HK4 := hidden (HK3.out.fresh hb4)
  have HA4 := hidden (HA3.out.fresh hb4)
  have HZ4 := hidden (HZ3.out.fresh hb4)
  have HCL4 := hidden (HCL3.out.fresh hb4)
  clear hT hb4 hgx hx4 HK3 HA3 HZ3 HB3 HCL3
  have hzl : (key.take 16 ++ List.replicate 16 0).length = 32 := by rw [List.length_append, HFL.out, List.length_replicate]
  have HZL := hidden hzl
  clear hzl
  go_wp2_with fail
  refine (Sum_c _ _ _ xs (by omega) w4 HCL4.out HZ4.out HA4.out).mono ?_
  rintro e w5 hT
  obtain ⟨hb5, gy, rfl, hgy, hy5⟩ := hT.ok HZL.out
  rw [poly_zero HKL.out] at hy5
  have HY5 := hidden hy5
  have HX5 := hidden ((Keeps.ofFresh (S := fun _ => False) hb5).block gx (lt_of_block HX4.out) (fun h => h) |>.trans HX4.out)
  have HB5 := hidden (HB4.out.trans (hb5.mono HB4.out.size))
  have HK5 := hidden (HK4.out.fresh hb5)
  have HA5 := hidden (HA4.out.fresh hb5)
  have HCL5 := hidden (HCL4.out.fresh hb5)
  clear hT hb5 hgy hy5 HK4 HA4 HZ4 HB4 HCL4 HX4
  obtain ⟨A, hA⟩ : ∃ A, A = accTo (factor key) xs ((xs.length + 15) / 16) := ⟨_, rfl⟩
  have HPE : Hid (polyL key xs = lowB (A + second key) 16) := by rw [hA]; rfl
  rw [← hA] at HY5
  rw [HPE.out] at HX5
  clear hA HPE
  obtain ⟨S, hS⟩ : ∃ S, S = second key := ⟨_, rfl⟩
  have HSE := hidden hS
  rw [← hS] at HX5
  clear hS
  have HKB : Hid (∀ i, i < 16 → S / 256 ^ i % 256 = (key.getD (16 + i) 0).toNat) := by
    intro i hi
    rw [HSE.out]
    unfold second
    rw [le_byte _ _ _ hi]
    simp [List.getD_eq_getElem?_getD, List.getElem?_drop]
  go_wp2_with fail
  go_loopw [10, 11] (fun u c wr => ∃ i q : Nat, i ≤ 16 ∧ c = .int .i64 (i : Int) ∧ u = .int .i64 ((cyAt A S i : Nat) : Int) ∧ wr = w5.drewN q) (fun _ c _ => 16 - (intOf c).toNat)
  case atStart => exact ⟨0, 0, by omega, rfl, by simp [cyAt], rfl⟩
  case round =>
    obtain ⟨i, q, hi, rfl, rfl, rfl⟩ := hrel
    by_cases hlt : i < 16
    · have hlt' : (i : Int) < 16 := by omega
      have hcy := (bsl16 HY5.out (lowB_length _ _)).cellD i (by rw [lowB_length]; omega)
      have hcx := (bsl16 HX5.out (lowB_length _ _)).cellD i (by rw [lowB_length]; omega)
      have hck := HK5.out.cellD (16 + i) (by rw [HKL.out]; omega)
      rw [Nat.zero_add, low_getD _ _ _ hlt] at hcy hcx
      rw [Nat.zero_add, ← HKB.out i hlt] at hck
      have hb := cy_byte A S i
      have hn := cy_next A S i
      have hc1 := cyAt_le A S i
      have hy256 : A / 256 ^ i % 256 < 256 := Nat.mod_lt _ (by omega)
      have hs256 : S / 256 ^ i % 256 < 256 := Nat.mod_lt _ (by omega)
      obtain ⟨t, ht⟩ : ∃ t, t = cyAt A S i + A / 256 ^ i % 256 + S / 256 ^ i % 256 := ⟨_, rfl⟩
      rw [← ht] at hb hn
      have ht2 : ((cyAt A S i : Nat) : Int) + ((A / 256 ^ i % 256 : Nat) : Int) + ((S / 256 ^ i % 256 : Nat) : Int) = (t : Int) := by omega
      have HNX := hidden hn
      rw [← hb] at hcx
      have htb : t ≤ 511 := by omega
      have htm : (t : Int) % 256 = ((t % 256 : Nat) : Int) := by omega
      have htd : (t : Int) / 256 = ((t / 256 : Nat) : Int) := by omega
      rw [hn] at htd
      generalize A / 256 ^ i % 256 = ya at hcy ht2 hy256
      generalize S / 256 ^ i % 256 = sa at hck ht2 hs256
      generalize hca : cyAt A S i = ca at ht2 hc1
      generalize hcn : cyAt A S (i + 1) = cn at htd HNX
      have HCN := hidden hcn
      generalize t % 256 = tm at htm hcx
      obtain ⟨jj, hjj⟩ : ∃ jj, jj = 16 + i := ⟨_, rfl⟩
      rw [← hjj] at hck
      have hk1 : (16 : Int) + (i : Int) = (jj : Int) := by omega
      have hk2 : (jj : Int) < 32 := by omega
      clear hjj
      clear hb hn ht hca hcn HNX
      go_wp2_with fail
      go_quiet (fail)
      go_wp2
      go_roundw
      case rel => exact ⟨i + 1, q + nq, by omega, by go_num, by rw [HCN.out], rfl⟩
      case measure => simp [intOf]; omega
    · have hlt' : ¬ (i : Int) < 16 := by omega
      obtain rfl : i = 16 := by omega
      generalize cyAt A S 16 = c16
      have HK6 := hidden (HK5.out.keep (S := fun _ => False) ((Keeps.refl _ _).drewN q) (fun _ _ h => h))
      have HA6 := hidden (HA5.out.keep (S := fun _ => False) ((Keeps.refl _ _).drewN q) (fun _ _ h => h))
      have HB6 := hidden (below_drewN HB5.out q)
      have HCL6 : Hid (Cl (w5.drewN q)) := HCL5.out
      generalize w5.drewN q = w6 at HK6 HA6 HB6 HCL6 ⊢
      clear HK5 HA5 HB5 HCL5 HX5 HY5
      have HBK : Hid (∀ W : World, BSl W (.slice (some ⟨w.heap.size, 0, none⟩) 32 32) key → BSl W (.slice (some ⟨w.heap.size, 16, none⟩) 16 16) (key.drop 16)) := by
        intro W h
        have := h.dropS (k := 16) (by omega)
        simpa using this
      have hmk : ∀ w : World, (Instr.makeSlice 22 (.int .i64 16) (.int .i64 16)).run Tryd.prog w = .ok (.slice (some ⟨w.heap.size, 0, none⟩) 16 16) (w.alloc (.cells (bcells (List.replicate 16 0)).toArray 5)) := fun w => made_run 16 (by omega) w
      generalize hZe : (bcells (List.replicate 16 0)).toArray = Z at hmk
      have HZE := hidden hZe
      have HOW : Hid (∀ W : World, (W.alloc (.cells Z 5)).ownsRow W.heap.size 5 1 (.slice (some ⟨W.heap.size, 0, none⟩) 16 16) 16 (bcells (List.replicate 16 0))) := by
        intro W
        have h := World.ownsRow_lit (base := W.heap.size) (e := 5) (size := 1) W Z 16 (Nat.le_refl _) (by simp [maxLen]) (by rw [← hZe]; rfl)
        rw [← hZe] at h ⊢
        exact h
      clear hZe
      obtain ⟨i0, hi0, hz0, hz1, hz2⟩ := info_parts Tryd.infoU8
      have hdl : (key.drop 16).length = 16 := by simp [HKL.out]
      have HDL := hidden hdl
      have hsrc : Src Tryd.prog 1 22 (.slice (some ⟨w.heap.size, 16, none⟩) 16 16) 16 (bcells (key.drop 16)) (w6.alloc (.cells Z 5)).drew := by
        have h := (HBK.out (w6.alloc (.cells Z 5)).drew (HK6.out.keep (S := fun _ => False) ((Keeps.refl _ _).alloc _).drew (fun _ _ h => h))).src
        rw [hdl] at h
        exact h
      have HSRC := hidden hsrc
      clear hsrc hdl
      have hs6 := HB6.out.size
      go_wp2_with fail
      go_region_law ((refine step_append_src _ (by rfl) (.tmp 79) (.tmp 81) 22 22 (by rfl) w6.heap.size 5 i0 _ 1 Tryd.underlying22 hi0 hz0 hz1 hz2 rfl (.slice (some ⟨w6.heap.size, 0, none⟩) 16 16) 16 _ (by rfl) ((HOW.out w6).drew) _ 16 _ (by rfl) HSRC.out (by unfold maxLen; omega) (by omega) (by simp) (w6.heap.size + 1) (by simp) ?_; intro v' w9 hown hgrow hnil hat; obtain ⟨oa, oc, rfl⟩ := ownsRow_shape hown))
      all_goals
        rw [← bcells_append] at hown
        have hb9 : Below w6.heap.size w6 w9 := (((Below.refl _ w6).alloc (Nat.le_refl _) _).drew).grown hgrow (by simp) (fun k hk => by simp [Value.ownBlock] at hk; omega)
        have HO9 := hidden (BSl.ofRow hown)
        have HB9 := hidden (HB6.out.trans (hb9.mono HB6.out.size))
        have HK9 := hidden (HK6.out.fresh hb9)
        have HA9 := hidden (HA6.out.fresh hb9)
        have HCL9 := hidden (HCL6.out.fresh hb9)
        have HNL : Hid ((List.replicate 16 0 ++ key.drop 16).length = 32) := by show _ = _; rw [List.length_append, HDL.out, List.length_replicate]
        clear hown hgrow hnil hat hb9 HK6 HA6 HB6 HCL6 HSRC HOW HZE hmk
        go_wp2_with fail
        refine (Sum_c _ _ _ xs (by omega) w9 HCL9.out HO9.out HA9.out).mono ?_
        rintro e w10 hT
        obtain ⟨hb10, gz, rfl, hgz, hz10⟩ := hT.ok HNL.out
        rw [poly_none HKL.out] at hz10
        have HZ10 := hidden hz10
        have HB10 := hidden (HB9.out.trans (hb10.mono HB9.out.size))
        have HK10 := hidden (HK9.out.fresh hb10)
        have HCL10 := hidden (HCL9.out.fresh hb10)
        clear hT hb10 hgz hz10 HK9 HA9 HB9 HCL9 HO9
        have r1 : ∀ q, (convert 22 9 (.slice (some ⟨gz, 0, none⟩) 16 16)).run Tryd.prog (w10.drewN q) = .ok (.string ⟨(key.drop 16).toArray⟩) (w10.drewN q) := fun q => run_string (bsl16 (w := w10.drewN q) HZ10.out HDL.out)
        have r2 : ∀ q, (convert 22 9 (.slice (some ⟨w.heap.size, 16, none⟩) 16 16)).run Tryd.prog (w10.drewN q) = .ok (.string ⟨(key.drop 16).toArray⟩) (w10.drewN q) := fun q => run_string (HBK.out _ (HK10.out.keep (S := fun _ => False) ((Keeps.refl _ _).drewN q) (fun _ _ h => h)))
        have r3 := r1 1
        have r4 := r2 1
        have e1 : w10.drewN 1 = w10.drew := rfl
        rw [e1] at r3 r4
        clear r1 r2 e1
        generalize (⟨(key.drop 16).toArray⟩ : ByteArray) = kb at r3 r4
        go_wp2_with fail
        refine region_ordC [(22, 9)] strC [0, 1, 2, 3, 4, 5, 6, 7, 8, 9, 10, 11, 12, 13] (by kernel_rfl) (by kernel_rfl) fun N9 H9 => ?_
        simp only [List.filterMap_cons, List.filterMap_nil, List.getElem?_toArray, List.getElem?_cons_succ, List.getElem?_cons_zero]
        go_wp2_with (go_at_call 12; refine (known_c _ ?_).mono ?_; exact HCL10.out; rintro e w11 ⟨rfl, hb11⟩)
        go_ret
        exact ⟨rfl, (below_drewN HB10.out 1).trans (hb11.mono HB10.out.size)⟩
end Go.Proofs.YtfnaelmgdjkchaaDoor
