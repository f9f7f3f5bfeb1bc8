/- The walk of the document's own Sum. -/
import Derived.Test.YthkaibkmpenclaaDoorPoU
namespace Go.Proofs.YthkaibkmpenclaaDoor
open Go Go.RowKit

set_option maxHeartbeats 12800000 in
set_option maxRecDepth 100000 in
theorem rSum_c (v1 v2 : Value) (key ys : List UInt8) (hy : ys.length ≤ 1000000) (w : World) (h1 : BSl w v1 key) (h2 : BSl w v2 ys) :
    Calls Tryd.prog 66 #[v1, v2] w fun e w' => RTold w key ys e w' := by
  obtain ⟨i0, hi0, hz0, hz1, hz2⟩ := info_parts Tryd.infoU8
  by_cases hk : key.length = 32
  · have HKL := hidden hk
    have hne : key ≠ [] := by intro e; rw [e] at hk; simp at hk
    obtain ⟨b1, o1, c1, rfl, _⟩ := h1.nonnil hne
    have hc1 : 32 ≤ c1 := by obtain ⟨_, _, e, h, _⟩ := id h1; injection e with _ _ e3; omega
    rw [hk] at h1 ⊢
    obtain ⟨a2, c2, rfl, hc2, hc2m, _⟩ := id h2
    unfold maxLen at hc2m
    have H1 := hidden h1
    have HY := hidden h2
    clear hne h1 h2 hk
    obtain ⟨n, hn⟩ : ∃ n, n = ys.length := ⟨_, rfl⟩
    have HN := hidden hn
    rw [← hn] at hy hc2 HY ⊢
    clear hn
    have H := hidden (RI.start w)
    go_enter Tryd.func66, Tryd.ntmps66
    go_upto_region 4 with fail
    change Code.wp _ _ _ _ (((w.alloc (.cells (ncells .u32 zeros17).toArray 110)).alloc (.cells (ncells .u32 zeros17).toArray 110)).alloc (.cells (ncells .u32 zeros17).toArray 110))
    generalize ((w.alloc (.cells (ncells .u32 zeros17).toArray 110)).alloc (.cells (ncells .u32 zeros17).toArray 110)).alloc (.cells (ncells .u32 zeros17).toArray 110) = w3 at H ⊢
    rw [show w.heap.size + 1 + 1 = w.heap.size + 2 from rfl]
    go_wp2_with fail
    go_loopw [9] (fun c wr => ∃ j : Nat, j ≤ 16 ∧ c = .int .i64 (j : Int) ∧ RI w wr (cpTo key j) zeros17 zeros17) (fun c _ => 16 - (intOf c).toNat)
    case atStart => exact ⟨0, by omega, rfl, H.out⟩
    case round =>
      clear H
      obtain ⟨j, hj, rfl, ht⟩ := hrel
      have HT := hidden ht
      clear ht
      by_cases hlt : j < 16
      · have hlt' : (j : Int) < 16 := by omega
        have hlt2 : (j : Int) < 32 := by omega
        have hlt3 : (j : Int) < 17 := by omega
        have hx := (H1.out.fresh HT.out.b).cellD j (by have := HKL.out; omega)
        have hf := HT.out.r.frozen j
        have hold := HT.out.r.cell j (by rw [cpTo_length]; omega)
        generalize (cpTo key j).getD j 0 = old at hold
        have hxb : (key.getD j 0).toNat ≤ 255 := by have := UInt8.toNat_lt (key.getD j 0); omega
        have HS : Hid (cpTo key (j + 1) = (cpTo key j).set j (key.getD j 0).toNat) := rfl
        generalize (key.getD j 0).toNat = y at hx hxb HS
        go_wp2_with fail
        go_roundw
        case rel =>
          refine ⟨j + 1, by omega, by go_num, ?_⟩
          rw [HS.out]
          exact HT.out.setR j y
        case measure => simp [intOf]; omega
      · have hlt' : ¬ (j : Int) < 16 := by omega
        obtain rfl : j = 16 := by omega
        go_upto_region 9 with fail
        clear hj hlt hlt'
        obtain ⟨wo, ewo⟩ : ∃ x, x = wr := ⟨wr, rfl⟩
        subst ewo
        have HRl : Hid ((cpTo key 16).length = 17) := cpTo_length key 16
        have HRb : Hid (∀ p, (cpTo key 16).getD p 0 ≤ 255) := fun p => by
          rw [cpTo_getD _ _ (by omega)]
          split
          · have := UInt8.toNat_lt (key.getD p 0); omega
          · omega
        change Code.wp _ _ _ _ (wo.alloc (.cells (ncells .i64 [3, 7, 11, 15]).toArray 3))
        have HM0 := hidden (NB.new (k := .i64) (t := 3) wo [3, 7, 11, 15])
        have HT0 := hidden (HT.out.fresh ((Below.refl wo.heap.size wo).alloc (Nat.le_refl _) (.cells (ncells .i64 [3, 7, 11, 15]).toArray 3)))
        have hgo : w.heap.size + 2 < wo.heap.size := HT.out.x.lt
        generalize wo.alloc (.cells (ncells .i64 [3, 7, 11, 15]).toArray 3) = w4 at HM0 HT0 ⊢
        generalize wo.heap.size = Q at HM0 hgo ⊢
        clear HT
        obtain ⟨R0, hR0⟩ : ∃ R0, R0 = cpTo key 16 := ⟨_, rfl⟩
        rw [← hR0] at HT0 HRl HRb
        have HR0 := hidden hR0
        clear hR0
        go_loopw [45] (fun c wr => ∃ i : Nat, i ≤ 4 ∧ c = .int .i64 (i : Int) ∧ RI w wr (mkTo [3, 7, 11, 15] 15 R0 i) zeros17 zeros17 ∧ NB .i64 wr Q 3 [3, 7, 11, 15]) (fun c _ => 4 - (intOf c).toNat)
        case atStart => exact ⟨0, by omega, rfl, HT0.out, HM0.out⟩
        case round =>
          clear HT0 HM0
          obtain ⟨i, hi, rfl, ht, hm⟩ := hrel
          have HT := hidden ht
          have HM := hidden hm
          clear ht hm
          by_cases hlt : i < 4
          · have hlt' : (i : Int) < 4 := by omega
            have hmc := HM.out.cell i hlt
            obtain ⟨p, hp⟩ : ∃ p, p = ([3, 7, 11, 15] : List Nat).getD i 0 := ⟨_, rfl⟩
            have hp17 : p < 17 := by
              rw [hp]
              rcases (show i = 0 ∨ i = 1 ∨ i = 2 ∨ i = 3 by omega) with rfl | rfl | rfl | rfl <;> decide
            have hp17' : (p : Int) < 17 := by omega
            rw [← hp] at hmc
            have hx := HT.out.r.cell p (by rw [mkTo_length, HRl.out]; exact hp17)
            have hf := HT.out.r.frozen p
            have hxb := mkTo_le [3, 7, 11, 15] 15 R0 i 255 HRb.out p
            have HS : Hid (mkTo [3, 7, 11, 15] 15 R0 (i + 1) = (mkTo [3, 7, 11, 15] 15 R0 i).set p ((mkTo [3, 7, 11, 15] 15 R0 i).getD p 0 &&& 15)) := by rw [hp]; rfl
            have hand := u32_and_nat ((mkTo [3, 7, 11, 15] 15 R0 i).getD p 0) 15 (by omega) (by omega)
            rw [show ((15 : Nat) : Int) = 15 from rfl] at hand
            generalize (mkTo [3, 7, 11, 15] 15 R0 i).getD p 0 &&& 15 = y at hand HS
            generalize (mkTo [3, 7, 11, 15] 15 R0 i).getD p 0 = z at hand hx hxb
            clear hp hp17
            go_wp2_with fail
            go_roundw
            case rel =>
              refine ⟨i + 1, by omega, by go_num, ?_, ?_⟩
              · rw [HS.out]
                exact HT.out.setR p y
              · exact HM.out.keep (S := fun k => k = w.heap.size) ((Keeps.refl (fun k => k = w.heap.size) wr).setCell (p := ⟨w.heap.size, p, none⟩) (.inl rfl) _) (by omega)
            case measure => simp [intOf]; omega
          · have hlt' : ¬ (i : Int) < 4 := by omega
            obtain rfl : i = 4 := by omega
            rw [HR0.out] at HT
            clear HR0 HM HRl HRb hgo
            go_upto_region 14 with fail
            clear hi hlt hlt'
            obtain ⟨wo, ewo⟩ : ∃ x, x = wr := ⟨wr, rfl⟩
            subst ewo
            have HRl : Hid ((mkTo [3, 7, 11, 15] 15 (cpTo key 16) 4).length = 17) := by show _ = _; simp only [mkTo_length, cpTo_length]
            have HRb : Hid (∀ p, (mkTo [3, 7, 11, 15] 15 (cpTo key 16) 4).getD p 0 ≤ 255) := mkTo_le _ _ _ _ _ (fun p => by
              rw [cpTo_getD _ _ (by omega)]
              split
              · have := UInt8.toNat_lt (key.getD p 0); omega
              · omega)
            change Code.wp _ _ _ _ (wo.alloc (.cells (ncells .i64 [4, 8, 12]).toArray 3))
            have HM0 := hidden (NB.new (k := .i64) (t := 3) wo [4, 8, 12])
            have HT0 := hidden (HT.out.fresh ((Below.refl wo.heap.size wo).alloc (Nat.le_refl _) (.cells (ncells .i64 [4, 8, 12]).toArray 3)))
            have hgo : w.heap.size + 2 < wo.heap.size := HT.out.x.lt
            generalize wo.alloc (.cells (ncells .i64 [4, 8, 12]).toArray 3) = w4 at HM0 HT0 ⊢
            generalize wo.heap.size = Q at HM0 hgo ⊢
            clear HT
            obtain ⟨R0, hR0⟩ : ∃ R0, R0 = mkTo [3, 7, 11, 15] 15 (cpTo key 16) 4 := ⟨_, rfl⟩
            rw [← hR0] at HT0 HRl HRb
            have HR0 := hidden hR0
            clear hR0
            go_loopw [58] (fun c wr => ∃ i : Nat, i ≤ 3 ∧ c = .int .i64 (i : Int) ∧ RI w wr (mkTo [4, 8, 12] 252 R0 i) zeros17 zeros17 ∧ NB .i64 wr Q 3 [4, 8, 12]) (fun c _ => 3 - (intOf c).toNat)
            case atStart => exact ⟨0, by omega, rfl, HT0.out, HM0.out⟩
            case round =>
              clear HT0 HM0
              obtain ⟨i, hi, rfl, ht, hm⟩ := hrel
              have HT := hidden ht
              have HM := hidden hm
              clear ht hm
              by_cases hlt : i < 3
              · have hlt' : (i : Int) < 3 := by omega
                have hmc := HM.out.cell i hlt
                obtain ⟨p, hp⟩ : ∃ p, p = ([4, 8, 12] : List Nat).getD i 0 := ⟨_, rfl⟩
                have hp17 : p < 17 := by
                  rw [hp]
                  rcases (show i = 0 ∨ i = 1 ∨ i = 2 by omega) with rfl | rfl | rfl <;> decide
                have hp17' : (p : Int) < 17 := by omega
                rw [← hp] at hmc
                have hx := HT.out.r.cell p (by rw [mkTo_length, HRl.out]; exact hp17)
                have hf := HT.out.r.frozen p
                have hxb := mkTo_le [4, 8, 12] 252 R0 i 255 HRb.out p
                have HS : Hid (mkTo [4, 8, 12] 252 R0 (i + 1) = (mkTo [4, 8, 12] 252 R0 i).set p ((mkTo [4, 8, 12] 252 R0 i).getD p 0 &&& 252)) := by rw [hp]; rfl
                have hand := u32_and_nat ((mkTo [4, 8, 12] 252 R0 i).getD p 0) 252 (by omega) (by omega)
                rw [show ((252 : Nat) : Int) = 252 from rfl] at hand
                generalize (mkTo [4, 8, 12] 252 R0 i).getD p 0 &&& 252 = y at hand HS
                generalize (mkTo [4, 8, 12] 252 R0 i).getD p 0 = z at hand hx hxb
                clear hp hp17
                go_wp2_with fail
                go_roundw
                case rel =>
                  refine ⟨i + 1, by omega, by go_num, ?_, ?_⟩
                  · rw [HS.out]
                    exact HT.out.setR p y
                  · exact HM.out.keep (S := fun k => k = w.heap.size) ((Keeps.refl (fun k => k = w.heap.size) wr).setCell (p := ⟨w.heap.size, p, none⟩) (.inl rfl) _) (by omega)
                case measure => simp [intOf]; omega
              · have hlt' : ¬ (i : Int) < 3 := by omega
                obtain rfl : i = 3 := by omega
                rw [HR0.out] at HT
                clear HR0 HM HRl HRb hgo
                have HF : Hid (RI w wr (fR key) zeros17 zeros17) := HT.out
                have HRL := hidden (fR_length key)
                have HRB := hidden (fR_le key)
                have HRV := hidden (fR_val key HKL.out)
                clear HT hi hlt
                generalize fR key = R at HF HRL HRB HRV
                obtain ⟨r, hr⟩ : ∃ r, r = factor key := ⟨_, rfl⟩
                rw [← hr] at HRV
                have HR := hidden hr
                clear hr
                go_wp2_with fail
                clear hlt'
                obtain ⟨ws, ews⟩ : ∃ x, x = wr := ⟨wr, rfl⟩
                subst ews
                go_loopw [14] (fun c wr => ∃ (k : Nat) (Hh X : List Nat), 16 * k ≤ n + 15 ∧ c = .int .i64 ((16 * k : Nat) : Int) ∧ Tame Hh ∧ valTo Hh 17 % pP = accTo r ys k ∧ X.length = 17 ∧ RI w wr R Hh X) (fun c _ => n + 15 - (intOf c).toNat)
                case atStart => exact ⟨0, zeros17, zeros17, by omega, rfl, ⟨rfl, fun i _ => by rw [zeros17_getD]; omega, by rw [zeros17_getD]; omega⟩, rfl, rfl, HF.out⟩
                case round =>
                  clear HF
                  obtain ⟨k, Hh, X0, hk, rfl, htame, hval, hX0, hri⟩ := hrel
                  have HTA := hidden htame
                  have HV := hidden hval
                  have HX0 := hidden hX0
                  have HT := hidden hri
                  clear htame hval hX0 hri
                  by_cases hlt : 16 * k < n
                  · obtain ⟨t, ht⟩ : ∃ t, t = 16 * k := ⟨_, rfl⟩
                    have HTk := hidden ht
                    rw [← ht] at hlt hk ⊢
                    clear ht
                    have hlt' : (t : Int) < (n : Int) := by omega
                    have hne : ys ≠ [] := by intro e; have := HN.out; rw [e] at this; simp at this; omega
                    obtain ⟨b, o, rfl⟩ := HY.out.addr hne
                    clear hne
                    obtain ⟨wp, ewp⟩ : ∃ x, x = wr := ⟨wr, rfl⟩
                    subst ewp
                    by_cases hbig : 16 < n - t
                    · have hbig' : (16 : Int) < (n : Int) - (t : Int) := by omega
                      have hdp : (pieceAt ys k).length = 16 := by
                        unfold pieceAt
                        rw [List.length_take, List.length_drop, ← HN.out, ← HTk.out]
                        omega
                      have hdt : t + 16 ≤ n := by omega
                      have hd16 : 16 ≤ 16 := by omega
                      have HDP := hidden hdp

                      go_upto_region 25 with fail
                      change Code.wp _ _ _ _ (wp.alloc (.cells (ncells .u32 zeros17).toArray 110))
                      have HC0 := hidden (NB.new (k := .u32) (t := 110) wp zeros17)
                      have HT1 := hidden (HT.out.fresh ((Below.refl wp.heap.size wp).alloc (Nat.le_refl _) (.cells (ncells .u32 zeros17).toArray 110)))
                      have hCg : w.heap.size + 2 < wp.heap.size := HT.out.x.lt
                      generalize wp.alloc (.cells (ncells .u32 zeros17).toArray 110) = wq at HC0 HT1 ⊢
                      generalize wp.heap.size = C at HC0 hCg ⊢
                      clear HT hbig hbig'
                      go_wp2_with fail
                      go_loopw [17] (fun c wr => ∃ j : Nat, j ≤ 16 ∧ c = .int .i64 (j : Int) ∧ RI w wr R Hh X0 ∧ NB .u32 wr C 110 (cpTo (pieceAt ys k) j)) (fun c _ => 16 - (intOf c).toNat)
                      case atStart => exact ⟨0, by omega, rfl, HT1.out, HC0.out⟩
                      case round =>
                        clear HT1 HC0
                        obtain ⟨j, hj, rfl, ht, hc⟩ := hrel
                        have HT := hidden ht
                        have HC := hidden hc
                        clear ht hc
                        by_cases hltj : j < 16
                        · have hltj' : (j : Int) < 16 := by omega
                          have hj17 : (j : Int) < 17 := by omega
                          obtain ⟨q, hq⟩ : ∃ q, q = t + j := ⟨_, rfl⟩
                          have hqi : (t : Int) + (j : Int) = (q : Int) := by omega
                          have hqn : (q : Int) < (n : Int) := by omega
                          have hx := (HY.out.fresh HT.out.b).cellD q (by have := HN.out; omega)
                          rw [show ys.getD q 0 = (pieceAt ys k).getD j 0 by rw [piece_getD ys k j (by omega), hq, HTk.out]] at hx
                          have hold := HC.out.cell j (by rw [cpTo_length]; omega)
                          generalize (cpTo (pieceAt ys k) j).getD j 0 = old at hold
                          have hf := HC.out.frozen j
                          have hxb : ((pieceAt ys k).getD j 0).toNat ≤ 255 := by have := UInt8.toNat_lt ((pieceAt ys k).getD j 0); omega
                          have HS : Hid (cpTo (pieceAt ys k) (j + 1) = (cpTo (pieceAt ys k) j).set j ((pieceAt ys k).getD j 0).toNat) := rfl
                          generalize ((pieceAt ys k).getD j 0).toNat = y at hx hxb HS
                          clear hq
                          go_wp2_with fail
                          go_roundw
                          case rel =>
                            refine ⟨j + 1, by omega, by go_num, HT.out.keepC ((Keeps.refl (fun k => k = C) wr).setCell (p := ⟨C, j, none⟩) (.inl rfl) _) (fun k e => by omega), ?_⟩
                            rw [HS.out]
                            exact HC.out.set j y
                          case measure => simp [intOf]; omega
                        · have hltj' : ¬ (j : Int) < 16 := by omega
                          obtain rfl : j = 16 := by omega
                          have hd17 : (16 : Int) < 17 := by omega
                          have hold := HC.out.cell 16 (by rw [cpTo_length]; omega)
                          generalize (cpTo (pieceAt ys k) 16).getD 16 0 = old at hold
                          have hf := HC.out.frozen 16
                          go_upto_region 30 with fail
                          clear hold hf hltj hltj' hj
                          have HC1 : Hid (NB .u32 (wr.setCell ⟨C, 16, none⟩ (.int .u32 1)) C 110 (mkL (pieceAt ys k))) := by
                            have h := HC.out.set 16 1
                            have e : (cpTo (pieceAt ys k) 16).set 16 1 = mkL (pieceAt ys k) := by rw [mkL, HDP.out]
                            rw [e] at h
                            exact h
                          have HT1 := hidden (HT.out.keepC ((Keeps.refl (fun k => k = C) wr).setCell (p := ⟨C, 16, none⟩) (.inl rfl) (.int .u32 1)) (fun k e => by omega))
                          generalize wr.setCell ⟨C, 16, none⟩ (.int .u32 1) = w5 at HC1 HT1 ⊢
                          clear HC HT
                          have HAD := hidden (rAdd_c (w.heap.size + 1) Hh (mkL (pieceAt ys k)) HTA.out.1 (mkL_length _) (fun i => by have := HTA.out.le i; have := mkL_le (pieceAt ys k) (by rw [HDP.out]; omega) i; omega) w5 HT1.out.h)
                          have HPV := hidden (piece_val HTA.out HV.out HRB.out HRV.out (by rw [HDP.out]; omega) _ rfl)
                          generalize (acTo 0 Hh (fun i => (mkL (pieceAt ys k)).getD i 0) 17).1 = A at HAD HPV
                          have HSZ := hidden (size_row (mkL_length (pieceAt ys k)))
                          have HCC : Hid (w5.heap[C]? = some (.cells (ncells .u32 (mkL (pieceAt ys k))).toArray 110 (0, 0))) := HC1.out
                          generalize (ncells .u32 (mkL (pieceAt ys k))).toArray = MA at HAD HSZ HCC
                          clear HC1
                          go_wp2_with (refine wpList_loadRow rfl 110 (.tmp 15) rfl C MA 110 (0, 0) 17 70 rfl HCC.out Tryd.underlying110 HSZ.out ?_)
                          refine HAD.out.mono ?_
                          rintro e w6 ⟨rfl, hg6, hk6⟩
                          have HT2 := hidden (HT1.out.keepH hk6 hg6)
                          clear hg6 hk6 HAD HCC HSZ HT1
                          go_wp2_with fail
                          go_loopw [18] (fun c wr => ∃ (i : Nat) (X : List Nat), i ≤ 17 ∧ c = .int .i64 (i : Int) ∧ X.length = 17 ∧ (∀ p, p < i → X.getD p 0 = prT A R p 17) ∧ RI w wr R A X) (fun c _ => 17 - (intOf c).toNat)
                          case atStart => exact ⟨0, X0, by omega, rfl, HX0.out, fun p h => absurd h (by omega), HT2.out⟩
                          case round =>
                            clear HT2
                            obtain ⟨i, X, hi, rfl, hXl, hXp, ht⟩ := hrel
                            have HXl := hidden hXl
                            have HXp := hidden hXp
                            have HT := hidden ht
                            clear hXl hXp ht
                            by_cases hlti : i < 17
                            · have hlti' : (i : Int) < 17 := by omega
                              have hold := HT.out.x.cell i (by have := HXl.out; omega)
                              generalize X.getD i 0 = old at hold
                              have hf := HT.out.x.frozen i
                              go_wp2_with fail
                              have HT3 : Hid (RI w (wr.setCell ⟨w.heap.size + 2, i, none⟩ (.int .u32 0)) R A (X.set i (prT A R i 0))) := HT.out.setX i 0
                              generalize wr.setCell ⟨w.heap.size + 2, i, none⟩ (.int .u32 0) = w7 at HT3 ⊢
                              clear hold hf HT
                              clear wr
                              go_loopw [19] (fun c wr => ∃ j : Nat, j ≤ 17 ∧ c = .int .i64 (j : Int) ∧ RI w wr R A (X.set i (prT A R i j))) (fun c _ => 17 - (intOf c).toNat)
                              case atStart => exact ⟨0, by omega, rfl, HT3.out⟩
                              case round =>
                                clear HT3
                                obtain ⟨j, hj, rfl, ht⟩ := hrel
                                have HT := hidden ht
                                clear ht
                                by_cases hltj : j < 17
                                · have hltj' : (j : Int) < 17 := by omega
                                  have hcx := HT.out.x.cell i (by rw [List.length_set, HXl.out]; omega)
                                  rw [getD_set, if_pos ⟨rfl, by rw [HXl.out]; omega⟩] at hcx
                                  have hf := HT.out.x.frozen i
                                  have hch := HT.out.h.cell j (by rw [HPV.out.1]; omega)
                                  have hpl := prT_le HPV.out.2.1 HRB.out i j
                                  have hps : prT A R i j ≤ 353736000 := by omega
                                  have hterm := term_le HPV.out.2.1 HRB.out i j
                                  have hxa := HPV.out.2.1 j
                                  have hsucc := prT_succ A R i j
                                  by_cases hle : j ≤ i
                                  · have hle' : (j : Int) ≤ (i : Int) := by omega
                                    rw [show rAt (fun k => R.getD k 0) i j = R.getD (i - j) 0 from if_pos hle] at hterm hsucc
                                    obtain ⟨e, he⟩ : ∃ e, e = i - j := ⟨_, rfl⟩
                                    rw [← he] at hterm hsucc
                                    have hei : (i : Int) - (j : Int) = (e : Int) := by omega
                                    have he17 : (e : Int) < 17 := by omega
                                    have hcr := HT.out.r.cell e (by rw [HRL.out]; omega)
                                    have hxr := HRB.out e
                                    obtain ⟨p, hp⟩ : ∃ p, p = A.getD j 0 * R.getD e 0 := ⟨_, rfl⟩
                                    rw [← hp] at hterm hsucc
                                    have hpi : ((A.getD j 0 : Nat) : Int) * ((R.getD e 0 : Nat) : Int) = (p : Int) := by rw [hp]; exact (Int.natCast_mul _ _).symm
                                    obtain ⟨s, hs⟩ : ∃ s, s = prT A R i (j + 1) := ⟨_, rfl⟩
                                    have hsi : ((prT A R i j : Nat) : Int) + (p : Int) = (s : Int) := by omega
                                    have hsb : s ≤ 400000000 := by omega
                                    have HS := hidden hs
                                    generalize prT A R i j = xp at hcx hsi hps HT
                                    generalize A.getD j 0 = xa at hch hpi hxa
                                    generalize R.getD e 0 = xr at hcr hpi hxr
                                    clear hp hs hsucc hpl he
                                    go_wp2_with fail
                                    go_region
                                    go_wp2
                                    go_roundw
                                    case rel =>
                                      refine ⟨j + 1, by omega, by go_num, ?_⟩
                                      rw [← HS.out]
                                      exact HT.out.setXd s
                                    case measure => simp [intOf]; omega
                                  · have hle' : ¬ (j : Int) ≤ (i : Int) := by omega
                                    rw [show rAt (fun k => R.getD k 0) i j = 320 * R.getD (i + 17 - j) 0 from if_neg hle] at hterm hsucc
                                    obtain ⟨e, he⟩ : ∃ e, e = i + 17 - j := ⟨_, rfl⟩
                                    rw [← he] at hterm hsucc
                                    have hei : (i : Int) + 17 - (j : Int) = (e : Int) := by omega
                                    have he17 : (e : Int) < 17 := by omega
                                    have hcr := HT.out.r.cell e (by rw [HRL.out]; omega)
                                    have hxr := HRB.out e
                                    obtain ⟨x3, hx3⟩ : ∃ x3, x3 = A.getD j 0 * 320 := ⟨_, rfl⟩
                                    have hx3i : ((A.getD j 0 : Nat) : Int) * 320 = (x3 : Int) := by omega
                                    have hx3b : x3 ≤ 81600 := by omega
                                    obtain ⟨p, hp⟩ : ∃ p, p = x3 * R.getD e 0 := ⟨_, rfl⟩
                                    rw [← Nat.mul_assoc, ← hx3, ← hp] at hterm hsucc
                                    have hpi : (x3 : Int) * ((R.getD e 0 : Nat) : Int) = (p : Int) := by rw [hp]; exact (Int.natCast_mul _ _).symm
                                    obtain ⟨s, hs⟩ : ∃ s, s = prT A R i (j + 1) := ⟨_, rfl⟩
                                    have hsi : ((prT A R i j : Nat) : Int) + (p : Int) = (s : Int) := by omega
                                    have hsb : s ≤ 400000000 := by omega
                                    have HS := hidden hs
                                    generalize prT A R i j = xp at hcx hsi hps HT
                                    generalize A.getD j 0 = xa at hch hx3i hxa
                                    generalize R.getD e 0 = xr at hcr hpi hxr
                                    clear hp hs hsucc hpl he hx3
                                    go_wp2_with fail
                                    go_region
                                    go_wp2
                                    go_roundw
                                    case rel =>
                                      refine ⟨j + 1, by omega, by go_num, ?_⟩
                                      rw [← HS.out]
                                      exact HT.out.setXd s
                                    case measure => simp [intOf]; omega
                                · have hltj' : ¬ (j : Int) < 17 := by omega
                                  obtain rfl : j = 17 := by omega
                                  go_wp2_with fail
                                  go_roundw
                                  case rel =>
                                    refine ⟨i + 1, X.set i (prT A R i 17), by omega, by go_num, by rw [List.length_set, HXl.out], fun p hp => ?_, HT.out⟩
                                    rw [getD_set, HXl.out]
                                    by_cases hpi : p = i
                                    · subst hpi; rw [if_pos ⟨rfl, hlti⟩]
                                    · rw [if_neg (by omega)]; exact HXp.out p (by omega)
                                  case measure => simp [intOf]; omega
                            · have hlti' : ¬ (i : Int) < 17 := by omega
                              obtain rfl : i = 17 := by omega
                              have hXe := prL_ext HXl.out HXp.out
                              subst hXe
                              go_upto_region 41 with fail
                              clear hi hlti hlti'
                              have HTS := hidden HPV.out.2.2
                              have hLX := prL_length A R
                              have hBX := prL_le HPV.out.2.1 HRB.out
                              have HS1 := hidden (size_row hLX)
                              have HS2 := hidden (one_row (prL A R))
                              have HS3 := hidden (same_row HPV.out.1 hLX)
                              have HP1 : Hid (wr.heap[w.heap.size + 2]? = some (.cells (ncells .u32 (prL A R)).toArray 110 (0, 0))) := HT.out.x
                              have HP2 : Hid (wr.heap[w.heap.size + 1]? = some (.cells (ncells .u32 A).toArray 110 (0, 0))) := HT.out.h
                              have HT4 := hidden (HT.out.rowH (L := prL A R))
                              have HHL := hidden hLX
                              have HHB0 := hidden hBX
                              have HHB : Hid (∀ i, (prL A R).getD i 0 ≤ 400000000) := hBX
                              generalize prL A R = X at HTS HS1 HS2 HS3 HP1 HT4 HHL HHB
                              generalize hPA : (ncells .u32 X).toArray = PA at HS1 HS2 HS3 HP1 HT4
                              clear hPA HT HHB0 hLX hBX HXl HXp HPV
                              go_wp2_with (first
                                | (refine wpList_loadRow rfl 110 (.tmp 8) rfl (w.heap.size + 2) PA 110 (0, 0) 17 70 rfl HP1.out Tryd.underlying110 HS1.out ?_)
                                | (refine wpList_store_row rfl 110 (.tmp 7) (.tmp 144) rfl (w.heap.size + 1) PA rfl rfl 110 _ HP2.out HS1.out HS3.out HS2.out ?_))
                              generalize wr.setRow (w.heap.size + 1) PA = w8 at HT4 ⊢
                              clear HP1 HP2 HS1 HS2 HS3
                              clear wr
                              go_loopw [20, 21] (fun u c wr => ∃ j : Nat, j ≤ 16 ∧ c = .int .i64 (j : Int) ∧ u = .int .u32 ((acTo 0 X (fun _ => 0) j).2 : Nat) ∧ RI w wr R (acTo 0 X (fun _ => 0) j).1 X) (fun _ c _ => 16 - (intOf c).toNat)
                              case atStart => exact ⟨0, by omega, rfl, rfl, HT4.out⟩
                              case round =>
                                clear HT4
                                obtain ⟨j, hj, rfl, rfl, ht⟩ := hrel
                                have HT := hidden ht
                                clear ht
                                by_cases hltj : j < 16
                                · have hltj' : (j : Int) < 16 := by omega
                                  have hj17 : (j : Int) < 17 := by omega
                                  have hc := HT.out.h.cell j (by rw [acTo_length, HHL.out]; omega)
                                  rw [acTo_off 0 X _ j j (Nat.le_refl _)] at hc
                                  have hf := HT.out.h.frozen j
                                  have hub : (acTo 0 X (fun _ => 0) j).2 ≤ 2000000000 := acTo_small2 0 X (fun _ => 0) (by omega) (fun i => Nat.le_trans (HHB.out i) (by omega)) j
                                  have hbd := HHB.out j
                                  obtain ⟨s, hs⟩ : ∃ s, s = (acTo 0 X (fun _ => 0) j).2 + X.getD j 0 + 0 := ⟨_, rfl⟩
                                  have hsb : s ≤ 3000000000 := by omega
                                  have hand := mask8 s (by omega)
                                  have HS : Hid (acTo 0 X (fun _ => 0) (j + 1) = ((acTo 0 X (fun _ => 0) j).1.set j (s % 256), s / 256)) := by rw [hs]; rfl
                                  have hs3 : (((acTo 0 X (fun _ => 0) j).2 : Nat) : Int) + ((X.getD j 0 : Nat) : Int) = (s : Int) := by omega
                                  obtain ⟨s8, hs8⟩ : ∃ s8, s8 = s % 256 := ⟨_, rfl⟩
                                  obtain ⟨sd, hsd⟩ : ∃ sd, sd = s / 256 := ⟨_, rfl⟩
                                  rw [← hs8] at hand HS
                                  rw [← hsd] at HS
                                  have hsdi : (s : Int) / 256 = (sd : Int) := by omega
                                  generalize X.getD j 0 = x at hc hs3 hbd
                                  generalize (acTo 0 X (fun _ => 0) j).2 = u at hs3 hub ⊢
                                  clear hs hs8 hsd
                                  go_wp2_with fail
                                  go_roundw
                                  case rel =>
                                    refine ⟨j + 1, by omega, by go_num, by rw [HS.out], ?_⟩
                                    rw [HS.out]
                                    exact HT.out.setH j s8
                                  case measure => simp [intOf]; omega
                                · have hltj' : ¬ (j : Int) < 16 := by omega
                                  obtain rfl : j = 16 := by omega
                                  have hc16 := HT.out.h.cell 16 (by rw [acTo_length, HHL.out]; omega)
                                  rw [acTo_off 0 X _ 16 16 (Nat.le_refl _)] at hc16
                                  have hf16 := HT.out.h.frozen 16
                                  have hub : (acTo 0 X (fun _ => 0) 16).2 ≤ 1000000000 := acTo_small 0 X (fun _ => 0) (by omega) (fun i => Nat.le_trans (HHB.out i) (by omega)) 16
                                  have hbd := HHB.out 16
                                  have hdig := acTo_digit 0 X (fun _ => 0) 16 (by rw [HHL.out]; omega)
                                  have hl1 : (acTo 0 X (fun _ => 0) 16).1.length = 17 := by rw [acTo_length, HHL.out]
                                  obtain ⟨st, hst⟩ : ∃ st, st = stepL X := ⟨_, rfl⟩
                                  rw [← hst] at HTS
                                  unfold stepL at hst
                                  generalize acTo 0 X (fun _ => 0) 16 = AC at hub hdig hl1 hst HT ⊢
                                  obtain ⟨X1, u1⟩ := AC
                                  simp only at hub hdig hl1 hst
                                  have HT5 : Hid (RI w wr R X1 X) := HT.out
                                  change Code.wp _ _ _ _ _ at *
                                  obtain ⟨u2, hu2⟩ : ∃ u2, u2 = u1 + X.getD 16 0 := ⟨_, rfl⟩
                                  rw [← hu2] at hst
                                  have hu2i : (u1 : Int) + ((X.getD 16 0 : Nat) : Int) = (u2 : Int) := by omega
                                  have hu2b : u2 ≤ 1400000000 := by omega
                                  have hand := mask2 u2 (by omega)
                                  obtain ⟨m2, hm2⟩ : ∃ m2, m2 = u2 % 4 := ⟨_, rfl⟩
                                  obtain ⟨q2, hq2⟩ : ∃ q2, q2 = u2 / 4 := ⟨_, rfl⟩
                                  obtain ⟨v0, hv0⟩ : ∃ v0, v0 = 5 * q2 := ⟨_, rfl⟩
                                  rw [← hm2] at hand hst
                                  rw [← hq2, ← hv0] at hst
                                  have hq2i : (u2 : Int) / 4 = (q2 : Int) := by omega
                                  have hv0i : 5 * (q2 : Int) = (v0 : Int) := by omega
                                  have hv0b : v0 ≤ 2000000000 := by omega
                                  have hm2b : m2 ≤ 3 := by omega
                                  have HST := hidden hst
                                  have HV0 := hidden hv0b
                                  have HDIG := hidden hdig
                                  have HL1 := hidden hl1
                                  generalize X.getD 16 0 = x16 at hc16 hu2i hbd
                                  clear hst hdig hl1 hm2 hq2 hv0 hu2 HT
                                  go_wp2_with fail
                                  have HT6 := hidden (HT5.out.setH 16 m2)
                                  obtain ⟨Y, hY⟩ : ∃ Y, Y = X1.set 16 m2 := ⟨_, rfl⟩
                                  have HYL : Hid (Y.length = 17) := by show _ = _; rw [hY, List.length_set, HL1.out]
                                  have HYB : Hid (∀ i, Y.getD i 0 ≤ 400000000) := fun i => by
                                    rw [hY, getD_set, HL1.out]
                                    by_cases h1 : i = 16
                                    · rw [if_pos ⟨h1, by omega⟩]; omega
                                    · rw [if_neg (by omega)]
                                      by_cases h2 : i < 16
                                      · have := HDIG.out i h2; omega
                                      · rw [List.getD_eq_getElem?_getD, List.getElem?_eq_none (by rw [HL1.out]; omega)]; exact Nat.zero_le _
                                  have HY16 : Hid (Y.getD 16 0 = m2) := by show _ = _; rw [hY, getD_set, HL1.out, if_pos ⟨rfl, by omega⟩]
                                  rw [← hY] at HST HT6
                                  generalize wr.setCell ⟨w.heap.size + 1, 16, none⟩ (.int .u32 (m2 : Int)) = w9 at HT6 ⊢
                                  clear hY HT5 HDIG HL1 hc16 hf16 hu2i hand hq2i hv0i hub hbd hu2b
                                  clear wr
                                  go_loopw [20, 22] (fun u c wr => ∃ j : Nat, j ≤ 16 ∧ c = .int .i64 (j : Int) ∧ u = .int .u32 ((acTo v0 Y (fun _ => 0) j).2 : Nat) ∧ RI w wr R (acTo v0 Y (fun _ => 0) j).1 X) (fun _ c _ => 16 - (intOf c).toNat)
                                  case atStart => exact ⟨0, by omega, rfl, rfl, HT6.out⟩
                                  case round =>
                                    clear HT6
                                    obtain ⟨j, hj, rfl, rfl, ht⟩ := hrel
                                    have HT := hidden ht
                                    clear ht
                                    by_cases hltj : j < 16
                                    · have hltj' : (j : Int) < 16 := by omega
                                      have hj17 : (j : Int) < 17 := by omega
                                      have hc := HT.out.h.cell j (by rw [acTo_length, HYL.out]; omega)
                                      rw [acTo_off v0 Y _ j j (Nat.le_refl _)] at hc
                                      have hf := HT.out.h.frozen j
                                      have hub : (acTo v0 Y (fun _ => 0) j).2 ≤ 2000000000 := acTo_small2 v0 Y (fun _ => 0) HV0.out (fun i => Nat.le_trans (HYB.out i) (by omega)) j
                                      have hbd := HYB.out j
                                      obtain ⟨s, hs⟩ : ∃ s, s = (acTo v0 Y (fun _ => 0) j).2 + Y.getD j 0 + 0 := ⟨_, rfl⟩
                                      have hsb : s ≤ 3000000000 := by omega
                                      have hand := mask8 s (by omega)
                                      have HS : Hid (acTo v0 Y (fun _ => 0) (j + 1) = ((acTo v0 Y (fun _ => 0) j).1.set j (s % 256), s / 256)) := by rw [hs]; rfl
                                      have hs3 : (((acTo v0 Y (fun _ => 0) j).2 : Nat) : Int) + ((Y.getD j 0 : Nat) : Int) = (s : Int) := by omega
                                      obtain ⟨s8, hs8⟩ : ∃ s8, s8 = s % 256 := ⟨_, rfl⟩
                                      obtain ⟨sd, hsd⟩ : ∃ sd, sd = s / 256 := ⟨_, rfl⟩
                                      rw [← hs8] at hand HS
                                      rw [← hsd] at HS
                                      have hsdi : (s : Int) / 256 = (sd : Int) := by omega
                                      generalize Y.getD j 0 = x at hc hs3 hbd
                                      generalize (acTo v0 Y (fun _ => 0) j).2 = u at hs3 hub ⊢
                                      clear hs hs8 hsd
                                      go_wp2_with fail
                                      go_roundw
                                      case rel =>
                                        refine ⟨j + 1, by omega, by go_num, by rw [HS.out], ?_⟩
                                        rw [HS.out]
                                        exact HT.out.setH j s8
                                      case measure => simp [intOf]; omega
                                    · have hltj' : ¬ (j : Int) < 16 := by omega
                                      obtain rfl : j = 16 := by omega
                                      have hc16 := HT.out.h.cell 16 (by rw [acTo_length, HYL.out]; omega)
                                      rw [acTo_off v0 Y _ 16 16 (Nat.le_refl _), HY16.out] at hc16
                                      have hf16 := HT.out.h.frozen 16
                                      have hub : (acTo v0 Y (fun _ => 0) 16).2 ≤ 2000000000 := acTo_small2 v0 Y (fun _ => 0) HV0.out (fun i => Nat.le_trans (HYB.out i) (by omega)) 16
                                      generalize acTo v0 Y (fun _ => 0) 16 = AC at hub HST HT ⊢
                                      obtain ⟨Y1, u4⟩ := AC
                                      simp only at hub
                                      have HT7 : Hid (RI w wr R Y1 X) := HT.out
                                      have HST2 : Hid (st = Y1.set 16 (m2 + u4)) := HST.out
                                      obtain ⟨z, hz⟩ : ∃ z, z = m2 + u4 := ⟨_, rfl⟩
                                      have hzi : (m2 : Int) + (u4 : Int) = (z : Int) := by omega
                                      have hzb : z ≤ 2000000003 := by omega
                                      rw [← hz] at HST2
                                      have hkk : 16 * (k + 1) = t + 16 := by have := HTk.out; omega
                                      have HKK := hidden hkk
                                      clear hz HT HST hkk
                                      go_wp2_with fail
                                      go_roundw
                                      case rel =>
                                        refine ⟨k + 1, st, X, by have := HTk.out; omega, by rw [HKK.out]; go_num, HTS.out.1, HTS.out.2, HHL.out, ?_⟩
                                        rw [HST2.out]
                                        exact HT7.out.setH 16 z
                                      case measure => simp [intOf]; omega
                    · have hbig' : (n : Int) - (t : Int) ≤ 16 := by omega
                      obtain ⟨d, hd⟩ : ∃ d, d = n - t := ⟨_, rfl⟩
                      have hdp : (pieceAt ys k).length = d := by
                        unfold pieceAt
                        rw [List.length_take, List.length_drop, ← HN.out, ← HTk.out]
                        omega
                      have hdi : (n : Int) - (t : Int) = (d : Int) := by omega
                      have hdt : t + d ≤ n := by omega
                      have hd16 : d ≤ 16 := by omega
                      have HDP := hidden hdp
                      clear hdp hd
                      go_upto_region 25 with fail
                      change Code.wp _ _ _ _ (wp.alloc (.cells (ncells .u32 zeros17).toArray 110))
                      have HC0 := hidden (NB.new (k := .u32) (t := 110) wp zeros17)
                      have HT1 := hidden (HT.out.fresh ((Below.refl wp.heap.size wp).alloc (Nat.le_refl _) (.cells (ncells .u32 zeros17).toArray 110)))
                      have hCg : w.heap.size + 2 < wp.heap.size := HT.out.x.lt
                      generalize wp.alloc (.cells (ncells .u32 zeros17).toArray 110) = wq at HC0 HT1 ⊢
                      generalize wp.heap.size = C at HC0 hCg ⊢
                      clear HT hbig hbig'
                      go_wp2_with fail
                      go_loopw [17] (fun c wr => ∃ j : Nat, j ≤ d ∧ c = .int .i64 (j : Int) ∧ RI w wr R Hh X0 ∧ NB .u32 wr C 110 (cpTo (pieceAt ys k) j)) (fun c _ => d - (intOf c).toNat)
                      case atStart => exact ⟨0, by omega, rfl, HT1.out, HC0.out⟩
                      case round =>
                        clear HT1 HC0
                        obtain ⟨j, hj, rfl, ht, hc⟩ := hrel
                        have HT := hidden ht
                        have HC := hidden hc
                        clear ht hc
                        by_cases hltj : j < d
                        · have hltj' : (j : Int) < d := by omega
                          have hj17 : (j : Int) < 17 := by omega
                          obtain ⟨q, hq⟩ : ∃ q, q = t + j := ⟨_, rfl⟩
                          have hqi : (t : Int) + (j : Int) = (q : Int) := by omega
                          have hqn : (q : Int) < (n : Int) := by omega
                          have hx := (HY.out.fresh HT.out.b).cellD q (by have := HN.out; omega)
                          rw [show ys.getD q 0 = (pieceAt ys k).getD j 0 by rw [piece_getD ys k j (by omega), hq, HTk.out]] at hx
                          have hold := HC.out.cell j (by rw [cpTo_length]; omega)
                          generalize (cpTo (pieceAt ys k) j).getD j 0 = old at hold
                          have hf := HC.out.frozen j
                          have hxb : ((pieceAt ys k).getD j 0).toNat ≤ 255 := by have := UInt8.toNat_lt ((pieceAt ys k).getD j 0); omega
                          have HS : Hid (cpTo (pieceAt ys k) (j + 1) = (cpTo (pieceAt ys k) j).set j ((pieceAt ys k).getD j 0).toNat) := rfl
                          generalize ((pieceAt ys k).getD j 0).toNat = y at hx hxb HS
                          clear hq
                          go_wp2_with fail
                          go_roundw
                          case rel =>
                            refine ⟨j + 1, by omega, by go_num, HT.out.keepC ((Keeps.refl (fun k => k = C) wr).setCell (p := ⟨C, j, none⟩) (.inl rfl) _) (fun k e => by omega), ?_⟩
                            rw [HS.out]
                            exact HC.out.set j y
                          case measure => simp [intOf]; omega
                        · have hltj' : ¬ (j : Int) < d := by omega
                          obtain rfl : j = d := by omega
                          have hd17 : (j : Int) < 17 := by omega
                          have hold := HC.out.cell j (by rw [cpTo_length]; omega)
                          generalize (cpTo (pieceAt ys k) j).getD j 0 = old at hold
                          have hf := HC.out.frozen j
                          go_upto_region 30 with fail
                          clear hold hf hltj hltj' hj
                          have HC1 : Hid (NB .u32 (wr.setCell ⟨C, j, none⟩ (.int .u32 1)) C 110 (mkL (pieceAt ys k))) := by
                            have h := HC.out.set j 1
                            have e : (cpTo (pieceAt ys k) j).set j 1 = mkL (pieceAt ys k) := by rw [mkL, HDP.out]
                            rw [e] at h
                            exact h
                          have HT1 := hidden (HT.out.keepC ((Keeps.refl (fun k => k = C) wr).setCell (p := ⟨C, j, none⟩) (.inl rfl) (.int .u32 1)) (fun k e => by omega))
                          generalize wr.setCell ⟨C, j, none⟩ (.int .u32 1) = w5 at HC1 HT1 ⊢
                          clear HC HT
                          have HAD := hidden (rAdd_c (w.heap.size + 1) Hh (mkL (pieceAt ys k)) HTA.out.1 (mkL_length _) (fun i => by have := HTA.out.le i; have := mkL_le (pieceAt ys k) (by rw [HDP.out]; omega) i; omega) w5 HT1.out.h)
                          have HPV := hidden (piece_val HTA.out HV.out HRB.out HRV.out (by rw [HDP.out]; omega) _ rfl)
                          generalize (acTo 0 Hh (fun i => (mkL (pieceAt ys k)).getD i 0) 17).1 = A at HAD HPV
                          have HSZ := hidden (size_row (mkL_length (pieceAt ys k)))
                          have HCC : Hid (w5.heap[C]? = some (.cells (ncells .u32 (mkL (pieceAt ys k))).toArray 110 (0, 0))) := HC1.out
                          generalize (ncells .u32 (mkL (pieceAt ys k))).toArray = MA at HAD HSZ HCC
                          clear HC1
                          go_wp2_with (refine wpList_loadRow rfl 110 (.tmp 15) rfl C MA 110 (0, 0) 17 70 rfl HCC.out Tryd.underlying110 HSZ.out ?_)
                          refine HAD.out.mono ?_
                          rintro e w6 ⟨rfl, hg6, hk6⟩
                          have HT2 := hidden (HT1.out.keepH hk6 hg6)
                          clear hg6 hk6 HAD HCC HSZ HT1
                          go_wp2_with fail
                          go_loopw [18] (fun c wr => ∃ (i : Nat) (X : List Nat), i ≤ 17 ∧ c = .int .i64 (i : Int) ∧ X.length = 17 ∧ (∀ p, p < i → X.getD p 0 = prT A R p 17) ∧ RI w wr R A X) (fun c _ => 17 - (intOf c).toNat)
                          case atStart => exact ⟨0, X0, by omega, rfl, HX0.out, fun p h => absurd h (by omega), HT2.out⟩
                          case round =>
                            clear HT2
                            obtain ⟨i, X, hi, rfl, hXl, hXp, ht⟩ := hrel
                            have HXl := hidden hXl
                            have HXp := hidden hXp
                            have HT := hidden ht
                            clear hXl hXp ht
                            by_cases hlti : i < 17
                            · have hlti' : (i : Int) < 17 := by omega
                              have hold := HT.out.x.cell i (by have := HXl.out; omega)
                              generalize X.getD i 0 = old at hold
                              have hf := HT.out.x.frozen i
                              go_wp2_with fail
                              have HT3 : Hid (RI w (wr.setCell ⟨w.heap.size + 2, i, none⟩ (.int .u32 0)) R A (X.set i (prT A R i 0))) := HT.out.setX i 0
                              generalize wr.setCell ⟨w.heap.size + 2, i, none⟩ (.int .u32 0) = w7 at HT3 ⊢
                              clear hold hf HT
                              clear wr
                              go_loopw [19] (fun c wr => ∃ j : Nat, j ≤ 17 ∧ c = .int .i64 (j : Int) ∧ RI w wr R A (X.set i (prT A R i j))) (fun c _ => 17 - (intOf c).toNat)
                              case atStart => exact ⟨0, by omega, rfl, HT3.out⟩
                              case round =>
                                clear HT3
                                obtain ⟨j, hj, rfl, ht⟩ := hrel
                                have HT := hidden ht
                                clear ht
                                by_cases hltj : j < 17
                                · have hltj' : (j : Int) < 17 := by omega
                                  have hcx := HT.out.x.cell i (by rw [List.length_set, HXl.out]; omega)
                                  rw [getD_set, if_pos ⟨rfl, by rw [HXl.out]; omega⟩] at hcx
                                  have hf := HT.out.x.frozen i
                                  have hch := HT.out.h.cell j (by rw [HPV.out.1]; omega)
                                  have hpl := prT_le HPV.out.2.1 HRB.out i j
                                  have hps : prT A R i j ≤ 353736000 := by omega
                                  have hterm := term_le HPV.out.2.1 HRB.out i j
                                  have hxa := HPV.out.2.1 j
                                  have hsucc := prT_succ A R i j
                                  by_cases hle : j ≤ i
                                  · have hle' : (j : Int) ≤ (i : Int) := by omega
                                    rw [show rAt (fun k => R.getD k 0) i j = R.getD (i - j) 0 from if_pos hle] at hterm hsucc
                                    obtain ⟨e, he⟩ : ∃ e, e = i - j := ⟨_, rfl⟩
                                    rw [← he] at hterm hsucc
                                    have hei : (i : Int) - (j : Int) = (e : Int) := by omega
                                    have he17 : (e : Int) < 17 := by omega
                                    have hcr := HT.out.r.cell e (by rw [HRL.out]; omega)
                                    have hxr := HRB.out e
                                    obtain ⟨p, hp⟩ : ∃ p, p = A.getD j 0 * R.getD e 0 := ⟨_, rfl⟩
                                    rw [← hp] at hterm hsucc
                                    have hpi : ((A.getD j 0 : Nat) : Int) * ((R.getD e 0 : Nat) : Int) = (p : Int) := by rw [hp]; exact (Int.natCast_mul _ _).symm
                                    obtain ⟨s, hs⟩ : ∃ s, s = prT A R i (j + 1) := ⟨_, rfl⟩
                                    have hsi : ((prT A R i j : Nat) : Int) + (p : Int) = (s : Int) := by omega
                                    have hsb : s ≤ 400000000 := by omega
                                    have HS := hidden hs
                                    generalize prT A R i j = xp at hcx hsi hps HT
                                    generalize A.getD j 0 = xa at hch hpi hxa
                                    generalize R.getD e 0 = xr at hcr hpi hxr
                                    clear hp hs hsucc hpl he
                                    go_wp2_with fail
                                    go_region
                                    go_wp2
                                    go_roundw
                                    case rel =>
                                      refine ⟨j + 1, by omega, by go_num, ?_⟩
                                      rw [← HS.out]
                                      exact HT.out.setXd s
                                    case measure => simp [intOf]; omega
                                  · have hle' : ¬ (j : Int) ≤ (i : Int) := by omega
                                    rw [show rAt (fun k => R.getD k 0) i j = 320 * R.getD (i + 17 - j) 0 from if_neg hle] at hterm hsucc
                                    obtain ⟨e, he⟩ : ∃ e, e = i + 17 - j := ⟨_, rfl⟩
                                    rw [← he] at hterm hsucc
                                    have hei : (i : Int) + 17 - (j : Int) = (e : Int) := by omega
                                    have he17 : (e : Int) < 17 := by omega
                                    have hcr := HT.out.r.cell e (by rw [HRL.out]; omega)
                                    have hxr := HRB.out e
                                    obtain ⟨x3, hx3⟩ : ∃ x3, x3 = A.getD j 0 * 320 := ⟨_, rfl⟩
                                    have hx3i : ((A.getD j 0 : Nat) : Int) * 320 = (x3 : Int) := by omega
                                    have hx3b : x3 ≤ 81600 := by omega
                                    obtain ⟨p, hp⟩ : ∃ p, p = x3 * R.getD e 0 := ⟨_, rfl⟩
                                    rw [← Nat.mul_assoc, ← hx3, ← hp] at hterm hsucc
                                    have hpi : (x3 : Int) * ((R.getD e 0 : Nat) : Int) = (p : Int) := by rw [hp]; exact (Int.natCast_mul _ _).symm
                                    obtain ⟨s, hs⟩ : ∃ s, s = prT A R i (j + 1) := ⟨_, rfl⟩
                                    have hsi : ((prT A R i j : Nat) : Int) + (p : Int) = (s : Int) := by omega
                                    have hsb : s ≤ 400000000 := by omega
                                    have HS := hidden hs
                                    generalize prT A R i j = xp at hcx hsi hps HT
                                    generalize A.getD j 0 = xa at hch hx3i hxa
                                    generalize R.getD e 0 = xr at hcr hpi hxr
                                    clear hp hs hsucc hpl he hx3
                                    go_wp2_with fail
                                    go_region
                                    go_wp2
                                    go_roundw
                                    case rel =>
                                      refine ⟨j + 1, by omega, by go_num, ?_⟩
                                      rw [← HS.out]
                                      exact HT.out.setXd s
                                    case measure => simp [intOf]; omega
                                · have hltj' : ¬ (j : Int) < 17 := by omega
                                  obtain rfl : j = 17 := by omega
                                  go_wp2_with fail
                                  go_roundw
                                  case rel =>
                                    refine ⟨i + 1, X.set i (prT A R i 17), by omega, by go_num, by rw [List.length_set, HXl.out], fun p hp => ?_, HT.out⟩
                                    rw [getD_set, HXl.out]
                                    by_cases hpi : p = i
                                    · subst hpi; rw [if_pos ⟨rfl, hlti⟩]
                                    · rw [if_neg (by omega)]; exact HXp.out p (by omega)
                                  case measure => simp [intOf]; omega
                            · have hlti' : ¬ (i : Int) < 17 := by omega
                              obtain rfl : i = 17 := by omega
                              have hXe := prL_ext HXl.out HXp.out
                              subst hXe
                              go_upto_region 41 with fail
                              clear hi hlti hlti'
                              have HTS := hidden HPV.out.2.2
                              have hLX := prL_length A R
                              have hBX := prL_le HPV.out.2.1 HRB.out
                              have HS1 := hidden (size_row hLX)
                              have HS2 := hidden (one_row (prL A R))
                              have HS3 := hidden (same_row HPV.out.1 hLX)
                              have HP1 : Hid (wr.heap[w.heap.size + 2]? = some (.cells (ncells .u32 (prL A R)).toArray 110 (0, 0))) := HT.out.x
                              have HP2 : Hid (wr.heap[w.heap.size + 1]? = some (.cells (ncells .u32 A).toArray 110 (0, 0))) := HT.out.h
                              have HT4 := hidden (HT.out.rowH (L := prL A R))
                              have HHL := hidden hLX
                              have HHB0 := hidden hBX
                              have HHB : Hid (∀ i, (prL A R).getD i 0 ≤ 400000000) := hBX
                              generalize prL A R = X at HTS HS1 HS2 HS3 HP1 HT4 HHL HHB
                              generalize hPA : (ncells .u32 X).toArray = PA at HS1 HS2 HS3 HP1 HT4
                              clear hPA HT HHB0 hLX hBX HXl HXp HPV
                              go_wp2_with (first
                                | (refine wpList_loadRow rfl 110 (.tmp 8) rfl (w.heap.size + 2) PA 110 (0, 0) 17 70 rfl HP1.out Tryd.underlying110 HS1.out ?_)
                                | (refine wpList_store_row rfl 110 (.tmp 7) (.tmp 144) rfl (w.heap.size + 1) PA rfl rfl 110 _ HP2.out HS1.out HS3.out HS2.out ?_))
                              generalize wr.setRow (w.heap.size + 1) PA = w8 at HT4 ⊢
                              clear HP1 HP2 HS1 HS2 HS3
                              clear wr
                              go_loopw [20, 21] (fun u c wr => ∃ j : Nat, j ≤ 16 ∧ c = .int .i64 (j : Int) ∧ u = .int .u32 ((acTo 0 X (fun _ => 0) j).2 : Nat) ∧ RI w wr R (acTo 0 X (fun _ => 0) j).1 X) (fun _ c _ => 16 - (intOf c).toNat)
                              case atStart => exact ⟨0, by omega, rfl, rfl, HT4.out⟩
                              case round =>
                                clear HT4
                                obtain ⟨j, hj, rfl, rfl, ht⟩ := hrel
                                have HT := hidden ht
                                clear ht
                                by_cases hltj : j < 16
                                · have hltj' : (j : Int) < 16 := by omega
                                  have hj17 : (j : Int) < 17 := by omega
                                  have hc := HT.out.h.cell j (by rw [acTo_length, HHL.out]; omega)
                                  rw [acTo_off 0 X _ j j (Nat.le_refl _)] at hc
                                  have hf := HT.out.h.frozen j
                                  have hub : (acTo 0 X (fun _ => 0) j).2 ≤ 2000000000 := acTo_small2 0 X (fun _ => 0) (by omega) (fun i => Nat.le_trans (HHB.out i) (by omega)) j
                                  have hbd := HHB.out j
                                  obtain ⟨s, hs⟩ : ∃ s, s = (acTo 0 X (fun _ => 0) j).2 + X.getD j 0 + 0 := ⟨_, rfl⟩
                                  have hsb : s ≤ 3000000000 := by omega
                                  have hand := mask8 s (by omega)
                                  have HS : Hid (acTo 0 X (fun _ => 0) (j + 1) = ((acTo 0 X (fun _ => 0) j).1.set j (s % 256), s / 256)) := by rw [hs]; rfl
                                  have hs3 : (((acTo 0 X (fun _ => 0) j).2 : Nat) : Int) + ((X.getD j 0 : Nat) : Int) = (s : Int) := by omega
                                  obtain ⟨s8, hs8⟩ : ∃ s8, s8 = s % 256 := ⟨_, rfl⟩
                                  obtain ⟨sd, hsd⟩ : ∃ sd, sd = s / 256 := ⟨_, rfl⟩
                                  rw [← hs8] at hand HS
                                  rw [← hsd] at HS
                                  have hsdi : (s : Int) / 256 = (sd : Int) := by omega
                                  generalize X.getD j 0 = x at hc hs3 hbd
                                  generalize (acTo 0 X (fun _ => 0) j).2 = u at hs3 hub ⊢
                                  clear hs hs8 hsd
                                  go_wp2_with fail
                                  go_roundw
                                  case rel =>
                                    refine ⟨j + 1, by omega, by go_num, by rw [HS.out], ?_⟩
                                    rw [HS.out]
                                    exact HT.out.setH j s8
                                  case measure => simp [intOf]; omega
                                · have hltj' : ¬ (j : Int) < 16 := by omega
                                  obtain rfl : j = 16 := by omega
                                  have hc16 := HT.out.h.cell 16 (by rw [acTo_length, HHL.out]; omega)
                                  rw [acTo_off 0 X _ 16 16 (Nat.le_refl _)] at hc16
                                  have hf16 := HT.out.h.frozen 16
                                  have hub : (acTo 0 X (fun _ => 0) 16).2 ≤ 1000000000 := acTo_small 0 X (fun _ => 0) (by omega) (fun i => Nat.le_trans (HHB.out i) (by omega)) 16
                                  have hbd := HHB.out 16
                                  have hdig := acTo_digit 0 X (fun _ => 0) 16 (by rw [HHL.out]; omega)
                                  have hl1 : (acTo 0 X (fun _ => 0) 16).1.length = 17 := by rw [acTo_length, HHL.out]
                                  obtain ⟨st, hst⟩ : ∃ st, st = stepL X := ⟨_, rfl⟩
                                  rw [← hst] at HTS
                                  unfold stepL at hst
                                  generalize acTo 0 X (fun _ => 0) 16 = AC at hub hdig hl1 hst HT ⊢
                                  obtain ⟨X1, u1⟩ := AC
                                  simp only at hub hdig hl1 hst
                                  have HT5 : Hid (RI w wr R X1 X) := HT.out
                                  change Code.wp _ _ _ _ _ at *
                                  obtain ⟨u2, hu2⟩ : ∃ u2, u2 = u1 + X.getD 16 0 := ⟨_, rfl⟩
                                  rw [← hu2] at hst
                                  have hu2i : (u1 : Int) + ((X.getD 16 0 : Nat) : Int) = (u2 : Int) := by omega
                                  have hu2b : u2 ≤ 1400000000 := by omega
                                  have hand := mask2 u2 (by omega)
                                  obtain ⟨m2, hm2⟩ : ∃ m2, m2 = u2 % 4 := ⟨_, rfl⟩
                                  obtain ⟨q2, hq2⟩ : ∃ q2, q2 = u2 / 4 := ⟨_, rfl⟩
                                  obtain ⟨v0, hv0⟩ : ∃ v0, v0 = 5 * q2 := ⟨_, rfl⟩
                                  rw [← hm2] at hand hst
                                  rw [← hq2, ← hv0] at hst
                                  have hq2i : (u2 : Int) / 4 = (q2 : Int) := by omega
                                  have hv0i : 5 * (q2 : Int) = (v0 : Int) := by omega
                                  have hv0b : v0 ≤ 2000000000 := by omega
                                  have hm2b : m2 ≤ 3 := by omega
                                  have HST := hidden hst
                                  have HV0 := hidden hv0b
                                  have HDIG := hidden hdig
                                  have HL1 := hidden hl1
                                  generalize X.getD 16 0 = x16 at hc16 hu2i hbd
                                  clear hst hdig hl1 hm2 hq2 hv0 hu2 HT
                                  go_wp2_with fail
                                  have HT6 := hidden (HT5.out.setH 16 m2)
                                  obtain ⟨Y, hY⟩ : ∃ Y, Y = X1.set 16 m2 := ⟨_, rfl⟩
                                  have HYL : Hid (Y.length = 17) := by show _ = _; rw [hY, List.length_set, HL1.out]
                                  have HYB : Hid (∀ i, Y.getD i 0 ≤ 400000000) := fun i => by
                                    rw [hY, getD_set, HL1.out]
                                    by_cases h1 : i = 16
                                    · rw [if_pos ⟨h1, by omega⟩]; omega
                                    · rw [if_neg (by omega)]
                                      by_cases h2 : i < 16
                                      · have := HDIG.out i h2; omega
                                      · rw [List.getD_eq_getElem?_getD, List.getElem?_eq_none (by rw [HL1.out]; omega)]; exact Nat.zero_le _
                                  have HY16 : Hid (Y.getD 16 0 = m2) := by show _ = _; rw [hY, getD_set, HL1.out, if_pos ⟨rfl, by omega⟩]
                                  rw [← hY] at HST HT6
                                  generalize wr.setCell ⟨w.heap.size + 1, 16, none⟩ (.int .u32 (m2 : Int)) = w9 at HT6 ⊢
                                  clear hY HT5 HDIG HL1 hc16 hf16 hu2i hand hq2i hv0i hub hbd hu2b
                                  clear wr
                                  go_loopw [20, 22] (fun u c wr => ∃ j : Nat, j ≤ 16 ∧ c = .int .i64 (j : Int) ∧ u = .int .u32 ((acTo v0 Y (fun _ => 0) j).2 : Nat) ∧ RI w wr R (acTo v0 Y (fun _ => 0) j).1 X) (fun _ c _ => 16 - (intOf c).toNat)
                                  case atStart => exact ⟨0, by omega, rfl, rfl, HT6.out⟩
                                  case round =>
                                    clear HT6
                                    obtain ⟨j, hj, rfl, rfl, ht⟩ := hrel
                                    have HT := hidden ht
                                    clear ht
                                    by_cases hltj : j < 16
                                    · have hltj' : (j : Int) < 16 := by omega
                                      have hj17 : (j : Int) < 17 := by omega
                                      have hc := HT.out.h.cell j (by rw [acTo_length, HYL.out]; omega)
                                      rw [acTo_off v0 Y _ j j (Nat.le_refl _)] at hc
                                      have hf := HT.out.h.frozen j
                                      have hub : (acTo v0 Y (fun _ => 0) j).2 ≤ 2000000000 := acTo_small2 v0 Y (fun _ => 0) HV0.out (fun i => Nat.le_trans (HYB.out i) (by omega)) j
                                      have hbd := HYB.out j
                                      obtain ⟨s, hs⟩ : ∃ s, s = (acTo v0 Y (fun _ => 0) j).2 + Y.getD j 0 + 0 := ⟨_, rfl⟩
                                      have hsb : s ≤ 3000000000 := by omega
                                      have hand := mask8 s (by omega)
                                      have HS : Hid (acTo v0 Y (fun _ => 0) (j + 1) = ((acTo v0 Y (fun _ => 0) j).1.set j (s % 256), s / 256)) := by rw [hs]; rfl
                                      have hs3 : (((acTo v0 Y (fun _ => 0) j).2 : Nat) : Int) + ((Y.getD j 0 : Nat) : Int) = (s : Int) := by omega
                                      obtain ⟨s8, hs8⟩ : ∃ s8, s8 = s % 256 := ⟨_, rfl⟩
                                      obtain ⟨sd, hsd⟩ : ∃ sd, sd = s / 256 := ⟨_, rfl⟩
                                      rw [← hs8] at hand HS
                                      rw [← hsd] at HS
                                      have hsdi : (s : Int) / 256 = (sd : Int) := by omega
                                      generalize Y.getD j 0 = x at hc hs3 hbd
                                      generalize (acTo v0 Y (fun _ => 0) j).2 = u at hs3 hub ⊢
                                      clear hs hs8 hsd
                                      go_wp2_with fail
                                      go_roundw
                                      case rel =>
                                        refine ⟨j + 1, by omega, by go_num, by rw [HS.out], ?_⟩
                                        rw [HS.out]
                                        exact HT.out.setH j s8
                                      case measure => simp [intOf]; omega
                                    · have hltj' : ¬ (j : Int) < 16 := by omega
                                      obtain rfl : j = 16 := by omega
                                      have hc16 := HT.out.h.cell 16 (by rw [acTo_length, HYL.out]; omega)
                                      rw [acTo_off v0 Y _ 16 16 (Nat.le_refl _), HY16.out] at hc16
                                      have hf16 := HT.out.h.frozen 16
                                      have hub : (acTo v0 Y (fun _ => 0) 16).2 ≤ 2000000000 := acTo_small2 v0 Y (fun _ => 0) HV0.out (fun i => Nat.le_trans (HYB.out i) (by omega)) 16
                                      generalize acTo v0 Y (fun _ => 0) 16 = AC at hub HST HT ⊢
                                      obtain ⟨Y1, u4⟩ := AC
                                      simp only at hub
                                      have HT7 : Hid (RI w wr R Y1 X) := HT.out
                                      have HST2 : Hid (st = Y1.set 16 (m2 + u4)) := HST.out
                                      obtain ⟨z, hz⟩ : ∃ z, z = m2 + u4 := ⟨_, rfl⟩
                                      have hzi : (m2 : Int) + (u4 : Int) = (z : Int) := by omega
                                      have hzb : z ≤ 2000000003 := by omega
                                      rw [← hz] at HST2
                                      have hkk : 16 * (k + 1) = t + 16 := by have := HTk.out; omega
                                      have HKK := hidden hkk
                                      clear hz HT HST hkk
                                      go_wp2_with fail
                                      go_roundw
                                      case rel =>
                                        refine ⟨k + 1, st, X, by have := HTk.out; omega, by rw [HKK.out]; go_num, HTS.out.1, HTS.out.2, HHL.out, ?_⟩
                                        rw [HST2.out]
                                        exact HT7.out.setH 16 z
                                      case measure => simp [intOf]; omega
                  · have hlt' : ¬ ((16 * k : Nat) : Int) < (n : Int) := by omega
                    go_upto_region 59 with fail
                    have hkn : k = (n + 15) / 16 := by omega
                    obtain ⟨V, hV⟩ : ∃ V, V = accTo r ys k := ⟨_, rfl⟩
                    have HVP : Hid (V + second key = polyV key ys) := by show _ = _; unfold polyV; rw [hV, ← HN.out, ← hkn, HR.out]
                    have HLT : Hid (V < pP) := by show _ < _; rw [hV, ← HV.out]; exact Nat.mod_lt _ (by decide)
                    have HMS := hidden (minus_step HTA.out)
                    rw [HV.out, ← hV] at HMS
                    clear hlt hlt' hk hkn hV HV
                    have HS1 := hidden (size_row HTA.out.1)
                    have HS2 := hidden (one_row Hh)
                    have HS3 : Hid (17 = (ncells .u32 Hh).toArray.size) := by show _ = _; rw [List.size_toArray, ncells_length, HTA.out.1]
                    have HP1 : Hid (wr.heap[w.heap.size + 1]? = some (.cells (ncells .u32 Hh).toArray 110 (0, 0))) := HT.out.h
                    have HG0 : Hid (NB .u32 (wr.alloc (.cells (ncells .u32 Hh).toArray 110)) wr.heap.size 110 Hh) := NB.new wr Hh
                    have HT1 := hidden (HT.out.fresh ((Below.refl wr.heap.size wr).alloc (Nat.le_refl _) (.cells (ncells .u32 Hh).toArray 110)))
                    have hgs : w.heap.size + 2 < wr.heap.size := HT.out.x.lt
                    generalize hPA : (ncells .u32 Hh).toArray = PA at HS1 HS2 HS3 HP1 HG0 HT1
                    have HPA := hidden hPA
                    clear hPA
                    go_upto_region 60 with (first
                      | (refine wpList_loadRow rfl 110 (.tmp 7) rfl (w.heap.size + 1) PA 110 (0, 0) 17 70 rfl HP1.out Tryd.underlying110 HS1.out ?_)
                      | (refine wpList_store_row rfl 110 (.tmp 23) (.tmp 190) rfl wr.heap.size PA rfl rfl 110 _ (heap_alloc_new wr _) HS1.out HS3.out HS2.out ?_))
                    rw [World.setRow_alloc_new]
                    generalize wr.alloc (.cells PA 110) = w1 at HG0 HT1 ⊢
                    generalize wr.heap.size = G at HG0 hgs ⊢
                    have hG1 : G < w1.heap.size := HG0.out.lt
                    clear HP1 HT
                    have HM0 := hidden (NB.new (k := .u32) (t := 110) w1 minusL)
                    have HT2 := hidden (HT1.out.fresh ((Below.refl w1.heap.size w1).alloc (Nat.le_refl _) (.cells (ncells .u32 minusL).toArray 110)))
                    have HG1 := hidden (HG0.out.fresh ((Below.refl w1.heap.size w1).alloc (Nat.le_refl _) (.cells (ncells .u32 minusL).toArray 110)))
                    have HSm := hidden (size_row (L := minusL) rfl)
                    have HSo := hidden (one_row minusL)
                    go_upto_region 61 with (refine wpList_store_row rfl 110 (.tmp 24) (.tmp 191) rfl w1.heap.size (ncells .u32 minusL).toArray rfl rfl 110 _ (heap_alloc_new w1 _) HSm.out rfl HSo.out ?_)
                    rw [World.setRow_alloc_new]
                    generalize w1.alloc (.cells (ncells .u32 minusL).toArray 110) = w2 at HM0 HT2 HG1 ⊢
                    generalize w1.heap.size = M0 at HM0 hG1 ⊢
                    have HAD := hidden (rAdd_c (w.heap.size + 1) Hh minusL HTA.out.1 rfl (fun i => by have := HTA.out.le i; have := minus_le i; omega) w2 HT2.out.h)
                    have HMM : Hid (w2.heap[M0]? = some (.cells (ncells .u32 minusL).toArray 110 (0, 0))) := HM0.out
                    generalize (acTo 0 Hh (fun i => minusL.getD i 0) 17).1 = D1 at HAD HMS
                    generalize hMA : (ncells .u32 minusL).toArray = MA at HAD HMM HSm
                    clear hMA HM0 HT1 HG0 HSo
                    go_wp2_with (refine wpList_loadRow rfl 110 (.tmp 24) rfl M0 MA 110 (0, 0) 17 70 rfl HMM.out Tryd.underlying110 HSm.out ?_)
                    refine HAD.out.mono ?_
                    rintro e w4 ⟨rfl, hg4, hk4⟩
                    have HT3 := hidden (HT2.out.keepH hk4 hg4)
                    have HG2 := hidden (HG1.out.keep hk4 (by omega))
                    clear hg4 hk4 HAD HMM HSm HT2 HG1
                    have hx16 : D1.getD 16 0 ≤ 255 := HMS.out.2.2.1 16 (by omega)
                    have hmask := mask128 (D1.getD 16 0) hx16
                    have hc16 := HT3.out.h.cell 16 (by rw [HMS.out.2.2.2]; omega)
                    by_cases hz : D1.getD 16 0 / 128 % 2 = 0
                    · rw [if_pos hz, show ((0 : Nat) : Int) = 0 from rfl] at hmask
                      have HVZ : Hid (valTo D1 17 = V) := HMS.out.1 hz
                      have HZL : Hid (D1.length = 17) := HMS.out.2.2.2
                      have HZB : Hid (∀ i, D1.getD i 0 ≤ 255) := le_all HMS.out.2.2.2 HMS.out.2.2.1
                      clear hz
                      generalize D1.getD 16 0 = x16 at hc16 hmask hx16
                      go_upto_region 64 with fail
                      clear hc16 hmask hx16 HMS
                      have HT4 := hidden (HT3.out.fresh ((Below.refl (w4).heap.size (w4)).alloc (Nat.le_refl _) (.cells (ncells .u32 zeros17).toArray 110)))
                      have HC0 := hidden (NB.new (k := .u32) (t := 110) (w4) zeros17)
                      have hCg : w.heap.size + 2 < (w4).heap.size := HT3.out.x.lt
                      go_upto_region 65 with fail
                      change Code.wp _ _ _ _ ((w4).alloc (.cells (ncells .u32 zeros17).toArray 110))
                      generalize (w4).alloc (.cells (ncells .u32 zeros17).toArray 110) = wq at HC0 HT4 ⊢
                      generalize (w4).heap.size = C at HC0 hCg ⊢
                      clear HT3 HG2
                      go_wp2_with fail
                      clear wr
                      go_loopw [26] (fun c wr => ∃ j : Nat, j ≤ 16 ∧ c = .int .i64 (j : Int) ∧ RI w wr R D1 X0 ∧ NB .u32 wr C 110 (cpTo (key.drop 16) j)) (fun c _ => 16 - (intOf c).toNat)
                      case atStart => exact ⟨0, by omega, rfl, HT4.out, HC0.out⟩
                      case round =>
                        clear HT4 HC0
                        obtain ⟨j, hj, rfl, ht, hc⟩ := hrel
                        have HT := hidden ht
                        have HC := hidden hc
                        clear ht hc
                        by_cases hltj : j < 16
                        · have hltj' : (j : Int) < 16 := by omega
                          have hj17 : (j : Int) < 17 := by omega
                          obtain ⟨q, hq⟩ : ∃ q, q = 16 + j := ⟨_, rfl⟩
                          have hqi : 16 + (j : Int) = (q : Int) := by omega
                          have hqn : (q : Int) < 32 := by omega
                          have hx := (H1.out.fresh HT.out.b).cellD q (by have := HKL.out; omega)
                          rw [show key.getD q 0 = (key.drop 16).getD j 0 by rw [hq]; simp [List.getD_eq_getElem?_getD]] at hx
                          have hold := HC.out.cell j (by rw [cpTo_length]; omega)
                          generalize (cpTo (key.drop 16) j).getD j 0 = old at hold
                          have hf := HC.out.frozen j
                          have hxb : ((key.drop 16).getD j 0).toNat ≤ 255 := by have := UInt8.toNat_lt ((key.drop 16).getD j 0); omega
                          have HS : Hid (cpTo (key.drop 16) (j + 1) = (cpTo (key.drop 16) j).set j ((key.drop 16).getD j 0).toNat) := rfl
                          generalize ((key.drop 16).getD j 0).toNat = y at hx hxb HS
                          clear hq
                          go_wp2_with fail
                          go_roundw
                          case rel =>
                            refine ⟨j + 1, by omega, by go_num, HT.out.keepC ((Keeps.refl (fun k => k = C) wr).setCell (p := ⟨C, j, none⟩) (.inl rfl) _) (fun k e => by omega), ?_⟩
                            rw [HS.out]
                            exact HC.out.set j y
                          case measure => simp [intOf]; omega
                        · have hltj' : ¬ (j : Int) < 16 := by omega
                          obtain rfl : j = 16 := by omega
                          have HAD := hidden (rAdd_c (w.heap.size + 1) D1 (cpTo (key.drop 16) 16) HZL.out (cpTo_length _ _) (fun i => by
                            have := HZB.out i
                            have h2 : (cpTo (key.drop 16) 16).getD i 0 ≤ 255 := by
                              rw [cpTo_getD _ _ (by omega)]
                              split
                              · have := UInt8.toNat_lt ((key.drop 16).getD i 0); omega
                              · omega
                            omega) wr HT.out.h)
                          have HLA := hidden (last_add HZL.out (key.drop 16) V HVZ.out HLT.out _ rfl)
                          generalize (acTo 0 D1 (fun i => (cpTo (key.drop 16) 16).getD i 0) 17).1 = D at HAD HLA
                          have HSZ := hidden (size_row (cpTo_length (key.drop 16) 16))
                          have HCC : Hid (wr.heap[C]? = some (.cells (ncells .u32 (cpTo (key.drop 16) 16)).toArray 110 (0, 0))) := HC.out
                          generalize (ncells .u32 (cpTo (key.drop 16) 16)).toArray = SA at HAD HSZ HCC
                          clear HC
                          go_wp2_with (refine wpList_loadRow rfl 110 (.tmp 25) rfl C SA 110 (0, 0) 17 70 rfl HCC.out Tryd.underlying110 HSZ.out ?_)
                          refine HAD.out.mono ?_
                          rintro e w7 ⟨rfl, hg7, hk7⟩
                          have HT5 := hidden (HT.out.keepH hk7 hg7)
                          have hB : w.heap.size + 2 < w7.heap.size := HT5.out.x.lt
                          clear hg7 hk7 HAD HCC HSZ HT hltj hltj' hj
                          go_wp2_with fail
                          clear wr
                          go_loopw [27, 28] (fun v c wr => ∃ j : Nat, j ≤ 16 ∧ c = .int .i64 (j : Int) ∧ wr.ownsRow w7.heap.size 5 1 v j (bcells (lowB (polyV key ys) j)) ∧ RI w wr R D X0 ∧ w7.heap.size ≤ wr.heap.size) (fun _ c _ => 16 - (intOf c).toNat)
                          case atStart => exact ⟨0, by omega, rfl, World.ownsRow_nil _ _ _ _, HT5.out, Nat.le_refl _⟩
                          case round =>
                            clear HT5
                            obtain ⟨j, hj, rfl, ho, ht, hsz⟩ := hrel
                            have HO := hidden ho
                            have HT := hidden ht
                            obtain ⟨ao, cp, rfl⟩ := ownsRow_shape ho
                            clear ho ht
                            by_cases hltj : j < 16
                            · have hltj' : (j : Int) < 16 := by omega
                              have hj17 : (j : Int) < 17 := by omega
                              have hc := HT.out.h.cell j (by rw [HLA.out.1]; omega)
                              have hdb := HLA.out.2.1 j (by omega)
                              have hde := HLA.out.2.2 j hltj
                              rw [show V + leTo (key.drop 16) 16 = polyV key ys from HVP.out] at hde
                              have HDE := hidden hde
                              generalize D.getD j 0 = dj at hc hdb HDE hde
                              clear hde
                              go_wp2_with (refine wpList_append_src _ rfl (.tmp 217) (.tmp 222) 22 22 rfl w7.heap.size 5 i0 _ 1 Tryd.underlying22 hi0 hz0 hz1 hz2 rfl (.slice ao j cp) j _ rfl (HO.out.alloc _) _ 1 _ rfl (srcAt (by rfl) (heap_alloc_new wr _)) (by unfold maxLen; omega) (by omega) (by simp; omega) (wr.heap.size + 1) (by simp) ?_)
                              intro v' w9 hown hgrow hnil hat
                              have HO9 : Hid (w9.ownsRow w7.heap.size 5 1 v' (j + 1) (bcells (lowB (polyV key ys) (j + 1)))) := by
                                show World.ownsRow _ _ _ _ _ _ _
                                rw [lowB_succ, bcells_append, ← HDE.out]
                                have : bcells [UInt8.ofNat dj] = [.int .u8 (dj : Int)] := by
                                  simp only [bcells, List.map_cons, List.map_nil, UInt8.toNat_ofNat']
                                  rw [show dj % 2 ^ 8 = dj by omega]
                                rw [this]
                                exact hown
                              have k1 : Keeps (fun k => (Value.slice ao j cp).ownBlock = some k) wr w9 := ((Keeps.refl _ wr).alloc _).trans (Keeps.ofGrown hgrow (fun k e => e))
                              have HT9 := hidden (HT.out.keepC k1 (fun k e => by have := (HO.out.lt k e).1; omega))
                              have HS9 := hidden (Nat.le_trans hsz k1.size)
                              clear hown hgrow hnil hat k1
                              go_wp2
                              go_roundw
                              case rel => exact ⟨j + 1, by omega, by go_num, HO9.out, HT9.out, HS9.out⟩
                              case measure => simp [intOf]; omega
                            · have hltj' : ¬ (j : Int) < 16 := by omega
                              obtain rfl : j = 16 := by omega
                              have HV9 := hidden (BSl.ofRow HO.out)
                              have HLt := hidden HO.out.lt
                              have HB9 := hidden HT.out.b
                              clear HO HT
                              go_wp2
                              go_ret2
                              exact ⟨HB9.out, .inl ⟨HKL.out, _, rfl, HV9.out, fun g e => ⟨by have := (HLt.out g e).1; omega, (HLt.out g e).2⟩⟩⟩
                    · rw [if_neg hz, show ((128 : Nat) : Int) = 128 from rfl] at hmask
                      have HVZ : Hid (valTo Hh 17 = V) := HMS.out.2.1 hz
                      have HZL : Hid (Hh.length = 17) := HTA.out.1
                      have HZB : Hid (∀ i, Hh.getD i 0 ≤ 255) := HTA.out.le
                      have HTz := hidden (HT3.out.rowH (L := Hh))
                      rw [HPA.out] at HTz
                      have HP2 : Hid (w4.heap[G]? = some (.cells PA 110 (0, 0))) := by have h := HG2.out; unfold NB at h; rw [HPA.out] at h; exact h
                      have HP3 : Hid (w4.heap[w.heap.size + 1]? = some (.cells (ncells .u32 D1).toArray 110 (0, 0))) := HT3.out.h
                      have HS4 : Hid ((ncells .u32 D1).toArray.size = PA.size) := by show _ = _; rw [← HPA.out]; exact same_row HMS.out.2.2.2 HTA.out.1
                      clear hz
                      generalize D1.getD 16 0 = x16 at hc16 hmask hx16
                      go_upto_region 64 with (first
                        | (refine wpList_loadRow rfl 110 (.tmp 23) rfl G PA 110 (0, 0) 17 70 rfl HP2.out Tryd.underlying110 HS1.out ?_)
                        | (refine wpList_store_row rfl 110 (.tmp 7) (.tmp 198) rfl (w.heap.size + 1) PA rfl rfl 110 _ HP3.out HS1.out HS4.out HS2.out ?_))
                      clear hc16 hmask hx16 HMS HP2 HP3 HS4 HT3
                      generalize w4.setRow (w.heap.size + 1) PA = w5 at HTz ⊢
                      have HT4 := hidden (HTz.out.fresh ((Below.refl (w5).heap.size (w5)).alloc (Nat.le_refl _) (.cells (ncells .u32 zeros17).toArray 110)))
                      have HC0 := hidden (NB.new (k := .u32) (t := 110) (w5) zeros17)
                      have hCg : w.heap.size + 2 < (w5).heap.size := HTz.out.x.lt
                      go_upto_region 65 with fail
                      change Code.wp _ _ _ _ ((w5).alloc (.cells (ncells .u32 zeros17).toArray 110))
                      generalize (w5).alloc (.cells (ncells .u32 zeros17).toArray 110) = wq at HC0 HT4 ⊢
                      generalize (w5).heap.size = C at HC0 hCg ⊢
                      clear HTz HG2
                      go_wp2_with fail
                      clear wr
                      go_loopw [26] (fun c wr => ∃ j : Nat, j ≤ 16 ∧ c = .int .i64 (j : Int) ∧ RI w wr R Hh X0 ∧ NB .u32 wr C 110 (cpTo (key.drop 16) j)) (fun c _ => 16 - (intOf c).toNat)
                      case atStart => exact ⟨0, by omega, rfl, HT4.out, HC0.out⟩
                      case round =>
                        clear HT4 HC0
                        obtain ⟨j, hj, rfl, ht, hc⟩ := hrel
                        have HT := hidden ht
                        have HC := hidden hc
                        clear ht hc
                        by_cases hltj : j < 16
                        · have hltj' : (j : Int) < 16 := by omega
                          have hj17 : (j : Int) < 17 := by omega
                          obtain ⟨q, hq⟩ : ∃ q, q = 16 + j := ⟨_, rfl⟩
                          have hqi : 16 + (j : Int) = (q : Int) := by omega
                          have hqn : (q : Int) < 32 := by omega
                          have hx := (H1.out.fresh HT.out.b).cellD q (by have := HKL.out; omega)
                          rw [show key.getD q 0 = (key.drop 16).getD j 0 by rw [hq]; simp [List.getD_eq_getElem?_getD]] at hx
                          have hold := HC.out.cell j (by rw [cpTo_length]; omega)
                          generalize (cpTo (key.drop 16) j).getD j 0 = old at hold
                          have hf := HC.out.frozen j
                          have hxb : ((key.drop 16).getD j 0).toNat ≤ 255 := by have := UInt8.toNat_lt ((key.drop 16).getD j 0); omega
                          have HS : Hid (cpTo (key.drop 16) (j + 1) = (cpTo (key.drop 16) j).set j ((key.drop 16).getD j 0).toNat) := rfl
                          generalize ((key.drop 16).getD j 0).toNat = y at hx hxb HS
                          clear hq
                          go_wp2_with fail
                          go_roundw
                          case rel =>
                            refine ⟨j + 1, by omega, by go_num, HT.out.keepC ((Keeps.refl (fun k => k = C) wr).setCell (p := ⟨C, j, none⟩) (.inl rfl) _) (fun k e => by omega), ?_⟩
                            rw [HS.out]
                            exact HC.out.set j y
                          case measure => simp [intOf]; omega
                        · have hltj' : ¬ (j : Int) < 16 := by omega
                          obtain rfl : j = 16 := by omega
                          have HAD := hidden (rAdd_c (w.heap.size + 1) Hh (cpTo (key.drop 16) 16) HZL.out (cpTo_length _ _) (fun i => by
                            have := HZB.out i
                            have h2 : (cpTo (key.drop 16) 16).getD i 0 ≤ 255 := by
                              rw [cpTo_getD _ _ (by omega)]
                              split
                              · have := UInt8.toNat_lt ((key.drop 16).getD i 0); omega
                              · omega
                            omega) wr HT.out.h)
                          have HLA := hidden (last_add HZL.out (key.drop 16) V HVZ.out HLT.out _ rfl)
                          generalize (acTo 0 Hh (fun i => (cpTo (key.drop 16) 16).getD i 0) 17).1 = D at HAD HLA
                          have HSZ := hidden (size_row (cpTo_length (key.drop 16) 16))
                          have HCC : Hid (wr.heap[C]? = some (.cells (ncells .u32 (cpTo (key.drop 16) 16)).toArray 110 (0, 0))) := HC.out
                          generalize (ncells .u32 (cpTo (key.drop 16) 16)).toArray = SA at HAD HSZ HCC
                          clear HC
                          go_wp2_with (refine wpList_loadRow rfl 110 (.tmp 25) rfl C SA 110 (0, 0) 17 70 rfl HCC.out Tryd.underlying110 HSZ.out ?_)
                          refine HAD.out.mono ?_
                          rintro e w7 ⟨rfl, hg7, hk7⟩
                          have HT5 := hidden (HT.out.keepH hk7 hg7)
                          have hB : w.heap.size + 2 < w7.heap.size := HT5.out.x.lt
                          clear hg7 hk7 HAD HCC HSZ HT hltj hltj' hj
                          go_wp2_with fail
                          clear wr
                          go_loopw [27, 28] (fun v c wr => ∃ j : Nat, j ≤ 16 ∧ c = .int .i64 (j : Int) ∧ wr.ownsRow w7.heap.size 5 1 v j (bcells (lowB (polyV key ys) j)) ∧ RI w wr R D X0 ∧ w7.heap.size ≤ wr.heap.size) (fun _ c _ => 16 - (intOf c).toNat)
                          case atStart => exact ⟨0, by omega, rfl, World.ownsRow_nil _ _ _ _, HT5.out, Nat.le_refl _⟩
                          case round =>
                            clear HT5
                            obtain ⟨j, hj, rfl, ho, ht, hsz⟩ := hrel
                            have HO := hidden ho
                            have HT := hidden ht
                            obtain ⟨ao, cp, rfl⟩ := ownsRow_shape ho
                            clear ho ht
                            by_cases hltj : j < 16
                            · have hltj' : (j : Int) < 16 := by omega
                              have hj17 : (j : Int) < 17 := by omega
                              have hc := HT.out.h.cell j (by rw [HLA.out.1]; omega)
                              have hdb := HLA.out.2.1 j (by omega)
                              have hde := HLA.out.2.2 j hltj
                              rw [show V + leTo (key.drop 16) 16 = polyV key ys from HVP.out] at hde
                              have HDE := hidden hde
                              generalize D.getD j 0 = dj at hc hdb HDE hde
                              clear hde
                              go_wp2_with (refine wpList_append_src _ rfl (.tmp 217) (.tmp 222) 22 22 rfl w7.heap.size 5 i0 _ 1 Tryd.underlying22 hi0 hz0 hz1 hz2 rfl (.slice ao j cp) j _ rfl (HO.out.alloc _) _ 1 _ rfl (srcAt (by rfl) (heap_alloc_new wr _)) (by unfold maxLen; omega) (by omega) (by simp; omega) (wr.heap.size + 1) (by simp) ?_)
                              intro v' w9 hown hgrow hnil hat
                              have HO9 : Hid (w9.ownsRow w7.heap.size 5 1 v' (j + 1) (bcells (lowB (polyV key ys) (j + 1)))) := by
                                show World.ownsRow _ _ _ _ _ _ _
                                rw [lowB_succ, bcells_append, ← HDE.out]
                                have : bcells [UInt8.ofNat dj] = [.int .u8 (dj : Int)] := by
                                  simp only [bcells, List.map_cons, List.map_nil, UInt8.toNat_ofNat']
                                  rw [show dj % 2 ^ 8 = dj by omega]
                                rw [this]
                                exact hown
                              have k1 : Keeps (fun k => (Value.slice ao j cp).ownBlock = some k) wr w9 := ((Keeps.refl _ wr).alloc _).trans (Keeps.ofGrown hgrow (fun k e => e))
                              have HT9 := hidden (HT.out.keepC k1 (fun k e => by have := (HO.out.lt k e).1; omega))
                              have HS9 := hidden (Nat.le_trans hsz k1.size)
                              clear hown hgrow hnil hat k1
                              go_wp2
                              go_roundw
                              case rel => exact ⟨j + 1, by omega, by go_num, HO9.out, HT9.out, HS9.out⟩
                              case measure => simp [intOf]; omega
                            · have hltj' : ¬ (j : Int) < 16 := by omega
                              obtain rfl : j = 16 := by omega
                              have HV9 := hidden (BSl.ofRow HO.out)
                              have HLt := hidden HO.out.lt
                              have HB9 := hidden HT.out.b
                              clear HO HT
                              go_wp2
                              go_ret2
                              exact ⟨HB9.out, .inl ⟨HKL.out, _, rfl, HV9.out, fun g e => ⟨by have := (HLt.out g e).1; omega, (HLt.out g e).2⟩⟩⟩
  · have e2 : ((key.length : Int) == 32) = false := by simp; omega
    have e3 : ((key.length : Int) != 32) = true := by simp; omega
    have HK : Hid (¬ key.length = 32) := hk
    obtain ⟨a1, c1, rfl⟩ := h1.len
    obtain ⟨a2, c2, rfl⟩ := h2.len
    clear h1 h2
    generalize key.length = n at e2 e3 ⊢
    clear hk
    go_enter Tryd.func66, Tryd.ntmps66
    go_wp2
    go_ret2
    exact ⟨Below.refl _ _, .inr ⟨HK.out, rfl⟩⟩
end Go.Proofs.YthkaibkmpenclaaDoor
