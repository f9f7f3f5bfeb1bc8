/- The walk of Sum. -/
import Derived.Test.YthkaibkmpenclaaDoorPoG
namespace Go.Proofs.YthkaibkmpenclaaDoor
open Go Go.RowKit

/-- While pieces are added up: the factor at F, the pile at G. -/
structure SI (w wr : World) (F G r : Nat) (X : List Nat) : Prop where
  f : NB .u64 wr F 103 (L26 r)
  g : NB .u64 wr G 103 X
  b : Below w.heap.size w wr
theorem SI.keep {w wr wr' : World} {F G r : Nat} {X X' : List Nat} (h : SI w wr F G r X) (hF : w.heap.size ≤ G) (hFG : F ≠ G) (hk : Keeps (fun k => k = G) wr wr') (hp : NB .u64 wr' G 103 X') : SI w wr' F G r X' :=
  ⟨h.f.keep hk hFG, hp, h.b.trans (hk.below (B := w.heap.size) h.b.size (by intro k e; omega))⟩
theorem SI.fresh {w wr wr' : World} {F G r : Nat} {X : List Nat} (h : SI w wr F G r X) (hb : Below wr.heap.size wr wr') : SI w wr' F G r X :=
  ⟨h.f.fresh hb, h.g.fresh hb, h.b.trans (hb.mono h.b.size)⟩

set_option maxHeartbeats 1600000 in
set_option maxRecDepth 100000 in
theorem Sum_c (v1 v2 : Value) (key ys : List UInt8) (hy : ys.length ≤ 1000000) (w : World) (hcl : Cl w) (h1 : BSl w v1 key) (h2 : BSl w v2 ys) :
    Calls Tryd.prog 61 #[v1, v2] w fun e w' => SumTold w key ys e w' := by
  by_cases hk : key.length = 32
  · have HKL := hidden hk
    have hne : key ≠ [] := by intro e; rw [e] at hk; simp at hk
    obtain ⟨b1, o1, c1, rfl, _⟩ := h1.nonnil hne
    have hc1 : 32 ≤ c1 := by obtain ⟨_, _, e, h, _⟩ := id h1; injection e with _ _ e3; omega
    rw [hk] at h1 ⊢
    obtain ⟨a2, c2, rfl, hc2, hc2m, _⟩ := id h2
    unfold maxLen at hc2m
    have hfirst : BSl w (.slice (some ⟨b1, o1, none⟩) 16 c1) (key.take 16) := by
      have := h1.part (i := 0) (j := 16) (by omega)
      simpa using this
    have hsecond : BSl w (.slice (some ⟨b1, o1 + 16, none⟩) 16 (c1 - 16)) (key.drop 16) := by
      have := h1.dropS (k := 16) (by omega)
      simpa using this
    have HF := hidden hfirst
    have HS := hidden hsecond
    have HY := hidden h2
    have HC := hidden (clamped_c _ (key.take 16) (by simp; omega) w hfirst hcl)
    have hl16 : (key.take 16).length = 16 := by simp [hk]
    rw [hl16, show leTo (clL (key.take 16)) 16 = factor key from rfl] at HC
    obtain ⟨r, hr⟩ : ∃ r, r = factor key := ⟨_, rfl⟩
    rw [← hr] at HC
    have HR := hidden hr
    have HRL : Hid (r < 1361129467683753853853498429727072845824) := by
      have h1 := leTo_lt (clL (key.take 16)) 16
      rw [pow16] at h1
      rw [hr]
      exact Nat.lt_trans h1 (by omega)
    clear hk hne h1 h2 hcl hfirst hsecond hl16 hr
    have hc16 : ¬ (c1 : Int) = 16 := by omega
    have hsz := size_num (L := L26 r) (L26_length r)
    have hone := one_num (L26 r)
    have hss : 5 = (ncells .u64 (L26 r)).toArray.size := by rw [List.size_toArray, ncells_length, L26_length]
    generalize hRe : (ncells .u64 (L26 r)).toArray = R at hsz hone hss HC
    have HRE := hidden hRe
    have HSZ := hidden hsz
    have HON := hidden hone
    have HSS := hidden hss
    clear hRe hsz hone hss
    obtain ⟨n, hn⟩ : ∃ n, n = ys.length := ⟨_, rfl⟩
    have HN := hidden hn
    rw [← hn] at hy hc2 HY ⊢
    clear hn
    go_enter Tryd.func61, Tryd.ntmps61
    go_wp2_with fail
    refine HC.out.mono ?_
    rintro e w1 ⟨rfl, hb1⟩
    have HB1 := hidden hb1
    clear hb1 HC
    go_upto_region 4 with (refine wpList_store_row rfl 103 (.tmp 6) (.tmp 14) rfl w1.heap.size R rfl rfl 103 _ (heap_alloc_new w1 _) HSZ.out HSS.out HON.out ?_)
    rw [World.setRow_alloc_new]
    have hf2 : NB .u64 (w1.alloc (.cells R 103)) w1.heap.size 103 (L26 r) := by unfold NB; rw [HRE.out]; exact heap_alloc_new w1 _
    have hb2 : Below w.heap.size w (w1.alloc (.cells R 103)) := HB1.out.alloc HB1.out.size _
    have hG : w.heap.size ≤ w1.heap.size := HB1.out.size
    have hw2s : (w1.alloc (.cells R 103)).heap.size = w1.heap.size + 1 := by simp
    generalize w1.alloc (.cells R 103) = w2 at hf2 hb2 hw2s ⊢
    generalize w1.heap.size = F at hf2 hG hw2s ⊢
    clear HB1
    go_upto_region 5 with fail
    change Code.wp _ _ _ _ (w2.alloc (.cells (ncells .u64 [0, 0, 0, 0, 0]).toArray 103))
    have hsi : SI w (w2.alloc (.cells (ncells .u64 [0, 0, 0, 0, 0]).toArray 103)) F w2.heap.size r [0, 0, 0, 0, 0] :=
      ⟨hf2.keep (S := fun _ => False) ((Keeps.refl _ w2).alloc _) (fun h => h), NB.new w2 _, hb2.alloc hb2.size _⟩
    rw [hw2s] at hsi
    generalize w2.alloc (.cells (ncells .u64 [0, 0, 0, 0, 0]).toArray 103) = w3 at hsi ⊢
    obtain ⟨G, hGe⟩ : ∃ G, G = F + 1 := ⟨_, rfl⟩
    rw [← hGe] at hsi ⊢
    have hFG : F ≠ G := by omega
    have hGG : w.heap.size ≤ G := by omega
    clear hGe
    have HSI := hidden hsi
    clear hsi hf2 hb2 hw2s
    go_wp2_with fail
    go_loopw [8] (fun c wr => ∃ (k : Nat) (X : List Nat), 16 * k ≤ n + 15 ∧ c = .int .i64 ((16 * k : Nat) : Int) ∧ Made X ∧ V5 X % pP = accTo r ys k ∧ SI w wr F G r X) (fun c _ => n + 15 - (intOf c).toNat)
    case atStart => exact ⟨0, [0, 0, 0, 0, 0], by omega, rfl, ⟨rfl, by simp, fun i hi => by match i, hi with | 0, _ | 1, _ | 2, _ | 3, _ | 4, _ => simp, by rw [V5_list]; omega⟩, by rw [V5_list]; rfl, HSI.out⟩
    case round =>
      clear HSI
      obtain ⟨k, X, hk, rfl, hmade, hval, hsi⟩ := hrel
      have HM := hidden hmade
      have HV := hidden hval
      have HSI := hidden hsi
      clear hmade hval hsi
      by_cases hlt : 16 * k < n
      · obtain ⟨t, ht⟩ : ∃ t, t = 16 * k := ⟨_, rfl⟩
        have HT := hidden ht
        rw [← ht] at hlt hk ⊢
        clear ht
        have hlt' : (t : Int) < (n : Int) := by omega
        have hne : ys ≠ [] := by intro e; have := HN.out; rw [e] at this; simp at this; omega
        obtain ⟨b, o, rfl⟩ := HY.out.addr hne
        clear hne
        have hct : ¬ (c2 : Int) = (t : Int) := by omega
        by_cases hend : t + 16 ≤ n
        · obtain ⟨E, hE⟩ : ∃ E, E = t + 16 := ⟨_, rfl⟩
          have hE16 : (t : Int) + 16 = (E : Int) := by omega
          have hEn : (E : Int) ≤ (n : Int) := by omega
          have hEt : (t : Int) ≤ (E : Int) := by omega
          have hEc : (E : Int) ≤ (c2 : Int) := by omega
          obtain ⟨d, hd⟩ : ∃ d, d = 16 := ⟨_, rfl⟩
          have hd4 : E - t = d := by omega
          have HE := hidden hE
          clear hE
          have hd4' : d ≤ 16 := by omega
          have hpl : (pieceAt ys k).length = d := by
            unfold pieceAt
            rw [List.length_take, List.length_drop, ← HN.out, ← HT.out]
            omega
          have hpc : BSl wr (.slice (some ⟨b, o + t, none⟩) d (c2 - t)) (pieceAt ys k) := by
            have h := (HY.out.fresh HSI.out.b).part (i := t) (j := d) (by omega)
            have e : (ys.drop t).take d = pieceAt ys k := by
              unfold pieceAt
              rw [HT.out]
              rw [hd]
            rw [e] at h
            exact h
          have HMK := hidden (marked_c _ (pieceAt ys k) (by omega) wr hpc)
          have HBL := hidden (blk_lt (pieceAt ys k) (by omega))
          rw [show leTo (pieceAt ys k) (pieceAt ys k).length + 256 ^ (pieceAt ys k).length = blk (pieceAt ys k) from rfl] at HMK
          have HAS : Hid (∀ Y, Y % pP = accTo r ys k → (Y + blk (pieceAt ys k)) * r % pP = accTo r ys (k + 1)) := fun Y hY => acc_step r Y ys k hY
          generalize blk (pieceAt ys k) = B at HMK HBL HAS
          clear hpl hpc hd4' hd
          go_wp2_with fail
          refine HMK.out.mono ?_
          rintro e w4 ⟨rfl, hb4⟩
          have HSI4 := hidden (HSI.out.fresh hb4)
          clear hb4 HMK HSI
          have hav := add_val HM.out.1 (L26_length B)
          have hsm : ∀ i, i < 5 → X.getD i 0 + (L26 B).getD i 0 ≤ 134217736 := fun i hi => by
            have h1 := HM.out.2.2.1 i hi
            have h2 := L26_le B i hi
            omega
          have HADD := hidden (add_c G X (L26 B) HM.out.1 (L26_length B) (fun i hi => Nat.le_trans (hsm i hi) (by omega)) w4 HSI4.out.g)
          have hA5 : (addTo X (L26 B) 5).length = 5 := by rw [addTo_length]; exact HM.out.1
          have hAS : Small (addTo X (L26 B) 5) 134217736 := fun i hi => by rw [hav.2 i hi]; exact hsm i hi
          have htv := times_val hA5 (L26_length r) hAS (L26_le r)
          rw [hav.1, V5_L26 B HBL.out, V5_L26 r HRL.out] at htv
          have HTV : Hid (Made (timesL (addTo X (L26 B) 5) (L26 r)) ∧ V5 (timesL (addTo X (L26 B) 5) (L26 r)) % pP = accTo r ys (k + 1)) := ⟨htv.1, by rw [htv.2]; exact HAS.out _ HV.out⟩
          have HA5 := hidden hA5
          have HASm := hidden hAS
          clear hav hsm hA5 hAS htv HAS HBL
          generalize addTo X (L26 B) 5 = Y at HADD HTV HA5 HASm
          generalize (ncells .u64 (L26 B)).toArray = BA at HADD ⊢
          go_wp2_with fail
          refine HADD.out.mono ?_
          rintro e w5 ⟨rfl, hg5, hk5⟩
          have HSI5 := hidden (HSI4.out.keep hGG hFG hk5 hg5)
          clear hg5 hk5 HADD HSI4
          have HTC := hidden (times_c G Y (L26 r) HA5.out (L26_length r) HASm.out (L26_le r) w5 HSI5.out.g)
          rw [HRE.out] at HTC
          have hT5 := HTV.out.1.1
          generalize timesL Y (L26 r) = Z at HTV HTC hT5
          have hff : w5.heap[F]? = some (.cells R 103 (0, 0)) := by have h := HSI5.out.f; unfold NB at h; rw [HRE.out] at h; exact h
          have HFF := hidden hff
          clear hff
          go_wp2_with (refine wpList_loadRow rfl 103 (.tmp 6) rfl F R 103 (0, 0) 5 27 rfl HFF.out Tryd.underlying103 HSZ.out ?_)
          refine HTC.out.mono ?_
          rintro e w6 ⟨rfl, hb6⟩
          have HSI6 := hidden (HSI5.out.fresh hb6)
          clear hb6 HTC HSI5 HFF
          have hz1 := size_num hT5
          have hz2 := one_num Z
          have hz3 := same_num HA5.out hT5
          have hgg : w6.heap[G]? = some (.cells (ncells .u64 Y).toArray 103 (0, 0)) := HSI6.out.g
          generalize hZe : (ncells .u64 Z).toArray = ZA at hz1 hz2 hz3 ⊢
          have HZE := hidden hZe
          have HZ1 := hidden hz1
          have HZ2 := hidden hz2
          have HZ3 := hidden hz3
          have HGG := hidden hgg
          have HW7 : Hid (SI w (w6.setRow G ZA) F G r Z) := by
            have hp : NB .u64 (w6.setRow G ZA) G 103 Z := by unfold NB; rw [hZe]; exact setRow_heap w6 G _ ZA _ _ hgg
            exact ⟨by have h := HSI6.out.f; unfold NB at h ⊢; rw [setRow_other w6 G F _ (fun e => hFG e)]; exact h, hp, below_setRow HSI6.out.b hGG _⟩
          clear hZe hz1 hz2 hz3 hgg HSI6 HA5 HASm
          go_wp2_with (refine wpList_store_row rfl 103 (.tmp 7) (.tmp 32) rfl G ZA rfl rfl 103 _ HGG.out HZ1.out HZ3.out HZ2.out ?_)
          go_wp2
          go_roundw
          case rel =>
            refine ⟨k + 1, Z, by have := HT.out; omega, by have := HT.out; go_num, HTV.out.1, HTV.out.2, HW7.out⟩
          case measure => have := HT.out; simp [intOf]; omega
        · have hnE : (n : Int) < (t : Int) + 16 := by omega
          obtain ⟨d, hd⟩ : ∃ d, d = n - t := ⟨_, rfl⟩
          have hd4 : n - t = d := hd.symm
          have hd4' : d ≤ 16 := by omega
          have hpl : (pieceAt ys k).length = d := by
            unfold pieceAt
            rw [List.length_take, List.length_drop, ← HN.out, ← HT.out]
            omega
          have hpc : BSl wr (.slice (some ⟨b, o + t, none⟩) d (c2 - t)) (pieceAt ys k) := by
            have h := (HY.out.fresh HSI.out.b).part (i := t) (j := d) (by omega)
            have e : (ys.drop t).take d = pieceAt ys k := by
              unfold pieceAt
              rw [HT.out]
              rw [List.take_of_length_le (by rw [List.length_drop, ← HN.out, ← HT.out]; omega), List.take_of_length_le (by rw [List.length_drop, ← HN.out, ← HT.out]; omega)]
            rw [e] at h
            exact h
          have HMK := hidden (marked_c _ (pieceAt ys k) (by omega) wr hpc)
          have HBL := hidden (blk_lt (pieceAt ys k) (by omega))
          rw [show leTo (pieceAt ys k) (pieceAt ys k).length + 256 ^ (pieceAt ys k).length = blk (pieceAt ys k) from rfl] at HMK
          have HAS : Hid (∀ Y, Y % pP = accTo r ys k → (Y + blk (pieceAt ys k)) * r % pP = accTo r ys (k + 1)) := fun Y hY => acc_step r Y ys k hY
          generalize blk (pieceAt ys k) = B at HMK HBL HAS
          clear hpl hpc hd4' hd
          go_wp2_with fail
          refine HMK.out.mono ?_
          rintro e w4 ⟨rfl, hb4⟩
          have HSI4 := hidden (HSI.out.fresh hb4)
          clear hb4 HMK HSI
          have hav := add_val HM.out.1 (L26_length B)
          have hsm : ∀ i, i < 5 → X.getD i 0 + (L26 B).getD i 0 ≤ 134217736 := fun i hi => by
            have h1 := HM.out.2.2.1 i hi
            have h2 := L26_le B i hi
            omega
          have HADD := hidden (add_c G X (L26 B) HM.out.1 (L26_length B) (fun i hi => Nat.le_trans (hsm i hi) (by omega)) w4 HSI4.out.g)
          have hA5 : (addTo X (L26 B) 5).length = 5 := by rw [addTo_length]; exact HM.out.1
          have hAS : Small (addTo X (L26 B) 5) 134217736 := fun i hi => by rw [hav.2 i hi]; exact hsm i hi
          have htv := times_val hA5 (L26_length r) hAS (L26_le r)
          rw [hav.1, V5_L26 B HBL.out, V5_L26 r HRL.out] at htv
          have HTV : Hid (Made (timesL (addTo X (L26 B) 5) (L26 r)) ∧ V5 (timesL (addTo X (L26 B) 5) (L26 r)) % pP = accTo r ys (k + 1)) := ⟨htv.1, by rw [htv.2]; exact HAS.out _ HV.out⟩
          have HA5 := hidden hA5
          have HASm := hidden hAS
          clear hav hsm hA5 hAS htv HAS HBL
          generalize addTo X (L26 B) 5 = Y at HADD HTV HA5 HASm
          generalize (ncells .u64 (L26 B)).toArray = BA at HADD ⊢
          go_wp2_with fail
          refine HADD.out.mono ?_
          rintro e w5 ⟨rfl, hg5, hk5⟩
          have HSI5 := hidden (HSI4.out.keep hGG hFG hk5 hg5)
          clear hg5 hk5 HADD HSI4
          have HTC := hidden (times_c G Y (L26 r) HA5.out (L26_length r) HASm.out (L26_le r) w5 HSI5.out.g)
          rw [HRE.out] at HTC
          have hT5 := HTV.out.1.1
          generalize timesL Y (L26 r) = Z at HTV HTC hT5
          have hff : w5.heap[F]? = some (.cells R 103 (0, 0)) := by have h := HSI5.out.f; unfold NB at h; rw [HRE.out] at h; exact h
          have HFF := hidden hff
          clear hff
          go_wp2_with (refine wpList_loadRow rfl 103 (.tmp 6) rfl F R 103 (0, 0) 5 27 rfl HFF.out Tryd.underlying103 HSZ.out ?_)
          refine HTC.out.mono ?_
          rintro e w6 ⟨rfl, hb6⟩
          have HSI6 := hidden (HSI5.out.fresh hb6)
          clear hb6 HTC HSI5 HFF
          have hz1 := size_num hT5
          have hz2 := one_num Z
          have hz3 := same_num HA5.out hT5
          have hgg : w6.heap[G]? = some (.cells (ncells .u64 Y).toArray 103 (0, 0)) := HSI6.out.g
          generalize hZe : (ncells .u64 Z).toArray = ZA at hz1 hz2 hz3 ⊢
          have HZE := hidden hZe
          have HZ1 := hidden hz1
          have HZ2 := hidden hz2
          have HZ3 := hidden hz3
          have HGG := hidden hgg
          have HW7 : Hid (SI w (w6.setRow G ZA) F G r Z) := by
            have hp : NB .u64 (w6.setRow G ZA) G 103 Z := by unfold NB; rw [hZe]; exact setRow_heap w6 G _ ZA _ _ hgg
            exact ⟨by have h := HSI6.out.f; unfold NB at h ⊢; rw [setRow_other w6 G F _ (fun e => hFG e)]; exact h, hp, below_setRow HSI6.out.b hGG _⟩
          clear hZe hz1 hz2 hz3 hgg HSI6 HA5 HASm
          go_wp2_with (refine wpList_store_row rfl 103 (.tmp 7) (.tmp 32) rfl G ZA rfl rfl 103 _ HGG.out HZ1.out HZ3.out HZ2.out ?_)
          go_wp2
          go_roundw
          case rel =>
            refine ⟨k + 1, Z, by have := HT.out; omega, by have := HT.out; go_num, HTV.out.1, HTV.out.2, HW7.out⟩
          case measure => have := HT.out; simp [intOf]; omega
      · have hlt' : ¬ ((16 * k : Nat) : Int) < (n : Int) := by omega
        have hkn : k = (n + 15) / 16 := by omega
        have hrv := red_val HM.out
        rw [HV.out] at hrv
        obtain ⟨_, hcar, hvv⟩ := hrv
        have HRC := hidden (reduce_c G X HM.out wr HSI.out.g)
        have HPV : Hid (accTo r ys k + second key = polyV key ys) := by
          show _ = _
          unfold polyV
          rw [← HN.out, ← hkn, HR.out]
        have hsl : leTo (key.drop 16) (key.drop 16).length = second key := by rw [List.length_drop, HKL.out]; rfl
        generalize redL X = X1 at hcar hvv HRC
        have HCAR := hidden hcar
        have HVV := hidden hvv
        have HSL := hidden hsl
        clear hcar hvv hkn hlt hk hsl
        go_wp2_with fail
        refine HRC.out.mono ?_
        rintro e w4 ⟨rfl, hg4, hk4⟩
        have HSI4 := hidden (HSI.out.keep hGG hFG hk4 hg4)
        clear hg4 hk4 HRC HSI
        have HNO := hidden (numberOf_c _ (key.drop 16) (by rw [List.length_drop, HKL.out]; omega) w4 (HS.out.fresh HSI4.out.b))
        rw [HSL.out] at HNO
        have HSB : Hid (second key < 1361129467683753853853498429727072845824) := by
          have h1 := leTo_lt (key.drop 16) 16
          rw [pow16] at h1
          show leTo (key.drop 16) 16 < _
          exact Nat.lt_trans h1 (by omega)
        generalize second key = S at HNO HSB HPV
        go_wp2_with fail
        refine HNO.out.mono ?_
        rintro e w5 ⟨rfl, hb5⟩
        have HSI5 := hidden (HSI4.out.fresh hb5)
        clear hb5 HNO HSI4
        have hav := add_val HCAR.out.1 (L26_length S)
        have hsm : ∀ i, i < 5 → X1.getD i 0 + (L26 S).getD i 0 ≤ 134217726 := fun i hi => by
          have h1 := HCAR.out.2 i hi
          have h2 := L26_le S i hi
          omega
        have HADD := hidden (add_c G X1 (L26 S) HCAR.out.1 (L26_length S) (fun i hi => Nat.le_trans (hsm i hi) (by omega)) w5 HSI5.out.g)
        have hA5 : (addTo X1 (L26 S) 5).length = 5 := by rw [addTo_length]; exact HCAR.out.1
        have hAS : ∀ i, i < 5 → (addTo X1 (L26 S) 5).getD i 0 ≤ 1152921504606846976 := fun i hi => by rw [hav.2 i hi]; exact Nat.le_trans (hsm i hi) (by omega)
        have hAV : V5 (addTo X1 (L26 S) 5) = polyV key ys := by rw [hav.1, V5_L26 S HSB.out, HVV.out, HPV.out]
        have HA5 := hidden hA5
        have HAS := hidden hAS
        have HAV := hidden hAV
        clear hav hsm hA5 hAS hAV
        generalize addTo X1 (L26 S) 5 = Y at HADD HA5 HAS HAV
        generalize (ncells .u64 (L26 S)).toArray = BA at HADD ⊢
        go_wp2_with fail
        refine HADD.out.mono ?_
        rintro e w6 ⟨rfl, hg6, hk6⟩
        have HSI6 := hidden (HSI5.out.keep hGG hFG hk6 hg6)
        clear hg6 hk6 HADD HSI5
        have HCC := hidden (carry_c G Y HA5.out HAS.out w6 HSI6.out.g)
        have hcm := cy_mod HA5.out
        rw [HAV.out] at hcm
        have HCM := hidden hcm
        clear hcm
        generalize (cyTo Y 5).1 = Z at HCC HCM
        generalize (cyTo Y 5).2 = ov at HCC
        go_wp2_with fail
        refine HCC.out.mono ?_
        rintro e w7 ⟨rfl, hg7, hk7⟩
        have HSI7 := hidden (HSI6.out.keep hGG hFG hk7 hg7)
        clear hg7 hk7 HCC HSI6
        have HLB := hidden (lowBytes_c G Z HCM.out.1 w7 HSI7.out.g)
        rw [HCM.out.2, low_mod] at HLB
        go_wp2_with fail
        refine HLB.out.mono ?_
        rintro e w8 ⟨rfl, hg8, hb8⟩
        have HG8 := hidden hg8
        have HB8 := hidden (HSI7.out.b.trans (hb8.mono HSI7.out.b.size))
        have HSZ7 := hidden HSI7.out.b.size
        clear hg8 hb8 HLB
        go_wp2
        go_ret2
        exact ⟨HB8.out, .inl ⟨HKL.out, _, rfl, HSZ7.out, HG8.out⟩⟩
  · have HK := hidden hk
    have e1 : ((key.length : Int) == 32) = false := by simp; omega
    have e2 : ((key.length : Int) != 32) = true := by simp; omega
    obtain ⟨a1, c1, rfl⟩ := h1.len
    obtain ⟨a2, c2, rfl⟩ := h2.len
    clear h1 h2 hcl hk
    generalize hLe : key.length = kl at e1 e2 ⊢
    clear hLe
    go_enter Tryd.func61, Tryd.ntmps61
    go_wp2
    go_ret2
    exact ⟨Below.refl _ _, .inr ⟨HK.out, rfl⟩⟩
end Go.Proofs.YthkaibkmpenclaaDoor
