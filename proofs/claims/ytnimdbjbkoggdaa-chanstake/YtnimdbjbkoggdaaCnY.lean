/- The walk of ChansTake. -/
import Derived.Test.YtnimdbjbkoggdaaCnYh
namespace Go.Proofs.Ytnimdbjbkoggdaa
open Go Go.RowKit

set_option maxHeartbeats 6400000 in
set_option maxRecDepth 100000 in
theorem chansTake_c (u : Value) (ps : List (List UInt8)) (v : Value) (zs : List Int) (w : World) (hu : LSl w u ps) (hv : IntS w v zs) :
    Calls Try.prog 4 #[u, v] w fun e w' => e = .returned (.bool true) ∧ Below w.heap.size w w' := by
  have HA := hidden hu
  have HZ := hidden hv
  obtain ⟨ua, uc, rfl, huc, hum, _⟩ := id hu
  obtain ⟨va, vc, rfl, hvc, hvm, _⟩ := id hv
  unfold maxLen at hum hvm
  have HK : Hid (∀ w1, Calls Try.prog 19 #[] w1 fun e w' => e = .returned (.bool true) ∧ Below w1.heap.size w1 w') := hidden known_c
  have HP1 : Hid (∀ (w1 : World), Calls Try.prog 20 #[.agg #[.int .i64 1, .int .i64 0, .int .i64 0, .int .i64 9, .string ⟨#[]⟩, .slice none 0 0]] w1 fun e w' => PayP w1 (.slice none 0 0) [] (fun xs => xs = openP sesB 0 0 9) e w') := hidden fun w1 => payOpen 1 0 0 9 ⟨#[]⟩ (.slice none 0 0) [] w1 (bsl_none w1) rfl _ (fun f hf c7 h7 => by
    have hf' : f = true := hf.2 (by decide)
    subst hf' h7
    rfl)
  have HP2 : Hid (∀ w1 : World, Calls Try.prog 20 #[.agg #[.int .i64 2, .int .i64 0, .int .i64 0, .int .i64 0, .string ⟨#[]⟩, .slice none 0 0]] w1 fun e w' => PayP w1 (.slice none 0 0) [] (fun xs => xs = kP2) e w') := hidden fun w1 => paySub 2 0 0 0 ⟨#[]⟩ (.slice none 0 0) [] w1 (bsl_none w1) rfl (fun xs => xs = kP2) ⟨fun _ _ => by show subP _ _ _ _ = kP2; kernel_rfl, fun h => absurd ⟨by decide, by decide⟩ h⟩
  clear hu hv
  go_enter Try.func4, Try.ntmps4
  go_wp2_with fail
  refine (New_c w).mono ?_
  rintro e w1 ⟨rfl, hm1, hb1⟩
  obtain ⟨a, ha⟩ : ∃ a, a = w.heap.size := ⟨_, rfl⟩
  rw [← ha] at hm1 ⊢
  have HI0 : Hid (MI w w1 (fun _ => False) a newM) := hidden ⟨hm1, by omega, fun k h => h.elim, hb1⟩
  clear hm1 hb1 ha
  go_wp2_with fail
  refine (HP1.out w1).mono ?_
  rintro e w2 ⟨v2, xs, rfl, hb2, hl2, rfl, _, hbl2⟩
  have HI2 := hidden (HI0.out.fresh hbl2)
  have HDO := hidden (Do_c v2 _ w2 HI2.out.m (okM_new 0) (by omega) hb2 (by omega))
  rw [take_open] at HDO
  clear hb2 hl2 hbl2 HI0
  go_wp2_with fail
  refine HDO.out.mono ?_
  rintro e w3 ⟨u1, u2, rfl, _, _, hm3, hk3⟩
  have HI3 := hidden (HI2.out.done hm3 hk3)
  clear hm3 hk3 HDO HI2
  go_wp2_with fail
  refine (HP2.out w3).mono ?_
  rintro e w2 ⟨v2, xs, rfl, hb2, hl2, rfl, _, hbl2⟩
  have HI2 := hidden (HI3.out.fresh hbl2)
  have HDO := hidden (Do_c v2 _ w2 HI2.out.m t0_ok (by omega) hb2 (by omega))
  rw [take_sub] at HDO
  clear hb2 hl2 hbl2 HI3
  go_wp2_with fail
  refine HDO.out.mono ?_
  rintro e w3 ⟨u3, u4, rfl, _, _, hm3, hk3⟩
  have HI3 := hidden (HI2.out.done hm3 hk3)
  clear hm3 hk3 HDO HI2 HP1 HP2
  go_wp2_with fail
  go_loopw [6, 7] (fun tl ti wr => ∃ (j l : Nat), j ≤ ps.length ∧ ti = .int .i64 (j : Int) ∧ tl = .int .i64 (l : Int) ∧ 32768 ≤ l ∧ l ≤ 65536 ∧ MI w wr (fun _ => False) a (tS l)) (fun _ ti _ => ps.length - (intOf ti).toNat)
  case atStart => exact ⟨0, 65536, by omega, rfl, rfl, by omega, by omega, HI3.out⟩
  case round =>
    obtain ⟨j, l, hj, rfl, rfl, hl1, hl2, hmi⟩ := hrel
    have HI := hidden hmi
    clear hmi HI3
    by_cases hlt : j < ps.length
    · have i1 : (j : Int) < (ps.length : Int) := by omega
      by_cases hlz : j < zs.length
      · have i3 : (j : Int) < (zs.length : Int) := by omega
        by_cases h20 : j < 20
        · have i2 : (j : Int) < 20 := by omega
          obtain ⟨bp, op, xv, rfl, kp, hbs⟩ := (HA.out.fresh HI.out.below).at j hlt
          obtain ⟨bq, oq, rfl, kq⟩ := HZ.out.at HI.out.below j hlz
          generalize ps.getD j [] = X at hbs
          generalize zs[j] = zz at kq
          obtain ⟨xa, xc, exv⟩ := hbs.len
          subst exv
          obtain ⟨a1, ha1⟩ : ∃ a1, a1 = wr.heap.size := ⟨_, rfl⟩
          have hal0 : a < a1 := by rw [ha1]; exact HI.out.m.aLt
          have KP := hidden kp
          have KQ := hidden kq
          have HW1 : Hid (∀ w1 : World, Calls Try.prog 6 #[.int .i64 zz, .int .i64 0, .int .i64 32768] w1 fun e w' => ∃ v, e = .returned v ∧ Ex w1 w' ∧ (Fact.upto 32768).holds v w') := hidden fun w1 => (within_c zz 32768 (by omega) w1).mono fun e w' ⟨q, h1, h2, h3⟩ => ⟨_, h1, by rw [h3]; exact Ex.refl _, q, h2, rfl⟩
          have HS1 : Hid (∀ w1 v, (Fact.upto 32768).holds v w1 → Ex wr w1 → Calls Try.prog 21 #[.slice xa X.length xc, v] w1 fun e w' => ∃ u, e = .returned u ∧ Ex w1 w' ∧ (Fact.sized a1 X 32768).holds u w') := hidden fun w1 v ⟨q, hq, e⟩ h1 => by
            subst e
            exact (sized_b q (by omega) _ X w1 (hbs.fresh h1)).mono fun e w' ⟨g1, g2, g3⟩ => ⟨_, g1, g3, q, hq, g2, fun k e => by simp [Value.ownBlock] at e; have := h1.size; omega⟩
          clear hbs kp kq ha1
          have hjp : j < ps.length := hlt
          have hjq : j < zs.length := hlz
          go_upto_region 10 with fail
          refine region_free [(.val (.slice (some ⟨bp, op, none⟩) ps.length uc)), (.val (.int .i64 (j : Int))), (.val (.pointer (some ⟨bp, op + j, none⟩))), (.val (.slice xa X.length xc)), (.val (.slice (some ⟨bq, oq, none⟩) zs.length vc)), (.val (.int .i64 (j : Int))), (.val (.pointer (some ⟨bq, oq + j, none⟩))), (.val (.int .i64 zz)), (.upto 32768), (.sized a1 X 32768), (.sized a1 X 32768)] (by kernel_rfl) ?_ ?_
          · refine req_cons (.val (.slice (some ⟨bp, op, none⟩) ps.length uc)) (by kernel_rfl) (fun vs w1 he hd => StepG.plain (by kernel_rfl) (gives_move (x := .tmp 0) (by kernel_rfl) (by kernel_rfl) ⟨Ex.refl _, rfl⟩)) ?_
            refine req_cons (.val (.int .i64 (j : Int))) (by kernel_rfl) (fun vs w1 he hd => StepG.plain (by kernel_rfl) (gives_move (x := .tmp 7) (by kernel_rfl) (by kernel_rfl) ⟨Ex.refl _, rfl⟩)) ?_
            refine req_cons (.val (.pointer (some ⟨bp, op + j, none⟩))) (by kernel_rfl) (fun vs w1 he hd => StepG.plain (by kernel_rfl) (gives_indexO (i := j) hjp (x := .tmp 43) (y := .tmp 44) (by kernel_rfl) (Eq.trans (b := vs 0) (by kernel_rfl) (hd 0 (.val (.slice (some ⟨bp, op, none⟩) ps.length uc)) (by kernel_rfl) (by kernel_rfl))) (Eq.trans (b := vs 1) (by kernel_rfl) (hd 1 (.val (.int .i64 (j : Int))) (by kernel_rfl) (by kernel_rfl))) ⟨Ex.refl _, rfl⟩)) ?_
            refine req_cons (.val (.slice xa X.length xc)) (by kernel_rfl) (fun vs w1 he hd => StepG.plain (by kernel_rfl) (gives_ldb (x := .tmp 45) (by kernel_rfl) (Eq.trans (b := vs 2) (by kernel_rfl) (hd 2 (.val (.pointer (some ⟨bp, op + j, none⟩))) (by kernel_rfl) (by kernel_rfl))) (cell_ex KP.out he) ⟨Ex.refl _, rfl⟩)) ?_
            refine req_cons (.val (.slice (some ⟨bq, oq, none⟩) zs.length vc)) (by kernel_rfl) (fun vs w1 he hd => StepG.plain (by kernel_rfl) (gives_move (x := .tmp 1) (by kernel_rfl) (by kernel_rfl) ⟨Ex.refl _, rfl⟩)) ?_
            refine req_cons (.val (.int .i64 (j : Int))) (by kernel_rfl) (fun vs w1 he hd => StepG.plain (by kernel_rfl) (gives_move (x := .tmp 7) (by kernel_rfl) (by kernel_rfl) ⟨Ex.refl _, rfl⟩)) ?_
            refine req_cons (.val (.pointer (some ⟨bq, oq + j, none⟩))) (by kernel_rfl) (fun vs w1 he hd => StepG.plain (by kernel_rfl) (gives_indexI (i := j) hjq (x := .tmp 47) (y := .tmp 48) (by kernel_rfl) (Eq.trans (b := vs 4) (by kernel_rfl) (hd 4 (.val (.slice (some ⟨bq, oq, none⟩) zs.length vc)) (by kernel_rfl) (by kernel_rfl))) (Eq.trans (b := vs 5) (by kernel_rfl) (hd 5 (.val (.int .i64 (j : Int))) (by kernel_rfl) (by kernel_rfl))) ⟨Ex.refl _, rfl⟩)) ?_
            refine req_cons (.val (.int .i64 zz)) (by kernel_rfl) (fun vs w1 he hd => StepG.plain (by kernel_rfl) (gives_ldi (x := .tmp 49) (by kernel_rfl) (Eq.trans (b := vs 6) (by kernel_rfl) (hd 6 (.val (.pointer (some ⟨bq, oq + j, none⟩))) (by kernel_rfl) (by kernel_rfl))) (cell_ex KQ.out he) ⟨Ex.refl _, rfl⟩)) ?_
            refine req_cons (.upto 32768) (by kernel_rfl) (fun vs w1 he hd => StepG.plain (by kernel_rfl) (gives_call (fn := Try.f6) (f := 6) (xs := #[.tmp 50, .const (.int .i64 0), .const (.int .i64 32768)]) (ts := #[3, 3, 3]) (vs := #[.int .i64 zz, .int .i64 0, .int .i64 32768]) (by kernel_rfl) (by kernel_rfl) (Eq.trans (b := #[vs 7, .int .i64 0, .int .i64 32768]) (by kernel_rfl) (by rw [show vs 7 = (.int .i64 zz) from (hd 7 (.val (.int .i64 zz)) (by kernel_rfl) (by kernel_rfl))])) (by kernel_rfl) (by kernel_rfl) (by kernel_rfl) (HW1.out w1))) ?_
            refine req_cons (.sized a1 X 32768) (by kernel_rfl) (fun vs w1 he hd => StepG.plain (by kernel_rfl) (gives_call (fn := Try.f21) (f := 21) (xs := #[.tmp 46, .tmp 51]) (ts := #[30, 3]) (vs := #[(.slice xa X.length xc), vs 8]) (by kernel_rfl) (by kernel_rfl) (Eq.trans (b := #[vs 3, vs 8]) (by kernel_rfl) (by rw [show vs 3 = (.slice xa X.length xc) from (hd 3 (.val (.slice xa X.length xc)) (by kernel_rfl) (by kernel_rfl))])) (by kernel_rfl) (by kernel_rfl) (by kernel_rfl) (HS1.out w1 (vs 8) (hd 8 (.upto 32768) (by kernel_rfl) (by kernel_rfl)) he))) ?_
            refine req_cons (.sized a1 X 32768) (by kernel_rfl) (fun vs w1 he hd => StepG.plain (by kernel_rfl) (gives_assign (x := .tmp 52) (v := vs 9) (by kernel_rfl) (by kernel_rfl) ⟨Ex.refl _, (hd 9 (.sized a1 X 32768) (by kernel_rfl) (by kernel_rfl))⟩)) req_nil
          · intro vs w4 he hF
            obtain ⟨z, hz, hB4, hna⟩ : ∃ q, q ≤ 32768 ∧ BSl w4 (vs 10) (sizedL X q) ∧ ∀ k, (vs 10).ownBlock = some k → a1 ≤ k := told_at hF 10 (.sized a1 X 32768) (by decide) (by kernel_rfl)
            obtain ⟨B, hB⟩ : ∃ B, B = sizedL X z := ⟨_, rfl⟩
            have hBl : B.length = z := by rw [hB, sizedL_length]
            rw [← hB] at hB4
            obtain ⟨ba, bc, e8⟩ := hB4.len
            rw [hBl] at e8
            have HNA : Hid (∀ k, (Value.slice ba z bc).ownBlock = some k → ¬ k = a) := hidden fun k e => by rw [← e8] at e; have := hna k e; omega
            have HI4 := hidden (HI.out.fresh he)
            have HB4 := hidden hB4
            rw [e8] at HB4
            simp only [List.length_cons, List.length_nil, Nat.zero_add, Nat.reduceAdd, actsTo, if_true, dstOf, List.getElem?_toArray, List.getElem?_cons_succ, List.getElem?_cons_zero, Option.bind_some, Act.put, List.setIfInBounds_toArray, List.set_cons_zero, List.set_cons_succ]
            rw [e8]
            clear hF he hB4 e8 hB hna HI KP KQ HW1 HS1
            obtain ⟨M1, hM1⟩ : ∃ L : List UInt8, L = [94] ++ numsL [0] := ⟨_, rfl⟩
            obtain ⟨M2, hM2⟩ : ∃ L : List UInt8, L = datP B := ⟨_, rfl⟩
            have hM2l : M2.length ≤ 40000 := by rw [hM2, datP_len]; omega
            have HU1 : Hid (∀ w1 v u, BSl w1 v [94] → NSl w1 u [0] → Ex w4 w1 → Calls Try.prog 9 #[v, u] w1 fun e w' => ∃ u, e = .returned u ∧ Ex w1 w' ∧ (Fact.bsl M1).holds u w') := hidden fun w1 v u h1 h2 _ => told_bytes (by rw [hM1]; exact lu32_c v u [94] _ w1 h1 h2 (by intro j hj; match j, hj with | 0, _ => exact Nat.zero_le _) (by simp) (by simp) (by simp))
            have HT1 : Hid (∀ w1 v, BSl w1 v M1 → Ex w4 w1 → Calls Try.prog 10 #[v, .string ⟨(List.toArray B)⟩] w1 fun e w' => ∃ u, e = .returned u ∧ Ex w1 w' ∧ (Fact.bsl M2).holds u w') := hidden fun w1 v h1 _ => told_bytes (by rw [hM2]; unfold datP; rw [← hM1]; exact rtext_c _ (by rw [size_list]; omega) v M1 w1 h1 (by rw [hM1, size_list]; simp [numsL_len]; omega))
            obtain ⟨R, hR⟩ : ∃ R, R = (tS (nextL l z), ansL l z, evsL B) := ⟨_, rfl⟩
            have HDO : Hid (∀ w1 v, BSl w1 v M2 → Ex w4 w1 → Calls Try.prog 8 #[.pointer (some ⟨a, 0, none⟩), v] w1 fun e w' => ∃ v, e = .returned v ∧ IsPair v ∧ DPost w1 (fun _ => False) a R (.returned v) w') := hidden fun w1 v h1 h2 => by
              have := Do_c v M2 w1 (HI4.out.fresh h2).m (tS_ok l hl2) (by omega) h1 (by omega)
              rw [hM2, take_data l B (by omega) hl1, hBl, ← hR] at this
              exact this.mono fun e w' h => by
                obtain ⟨u1, u2, rfl, h3⟩ := h
                exact ⟨_, rfl, ⟨u1, u2, rfl⟩, u1, u2, rfl, h3⟩
            clear hM1 hM2
            go_upto_region 11 with fail
            refine region_pivot [(.val (.pointer (some ⟨a, 0, none⟩))), (.bsl [94]), (.nsl [0]), (.bsl M1), (.val (.slice ba z bc)), (.val (.string ⟨(List.toArray B)⟩)), (.bsl M2)] 7 IsPair (fun v w1 w2 => DPost w1 (fun _ => False) a R (.returned v) w2) [id, id, id, id, id, id, id, id, id, fst2, snd2, fst2, snd2] (by kernel_rfl) (by kernel_rfl) ?_ _ rfl ?_ ?_ ?_
            · refine reqP_cons (.val (.pointer (some ⟨a, 0, none⟩))) (by kernel_rfl) (fun vs w1 he hd => gives_move (x := .tmp 5) (by kernel_rfl) (by kernel_rfl) ⟨Ex.refl _, rfl⟩) ?_
              refine reqP_cons (.bsl [94]) (by kernel_rfl) (fun vs w1 he hd => gives_lit1B 94 94 rfl (by kernel_rfl) (by kernel_rfl)) ?_
              refine reqP_cons (.nsl [0]) (by kernel_rfl) (fun vs w1 he hd => gives_nums1 (x := .const (.int .u32 0)) 0 (by kernel_rfl) (by kernel_rfl)) ?_
              refine reqP_cons (.bsl M1) (by kernel_rfl) (fun vs w1 he hd => gives_call (fn := Try.f9) (f := 9) (xs := #[.tmp 55, .tmp 56]) (ts := #[30, 68]) (vs := #[vs 1, vs 2]) (by kernel_rfl) (by kernel_rfl) (Eq.trans (b := #[vs 1, vs 2]) (by kernel_rfl) (rfl)) (by kernel_rfl) (by kernel_rfl) (by kernel_rfl) (HU1.out w1 (vs 1) (vs 2) (hd 1 (.bsl [94]) (by kernel_rfl) (by kernel_rfl)) (hd 2 (.nsl [0]) (by kernel_rfl) (by kernel_rfl)) he)) ?_
              refine reqP_cons (.val (.slice ba z bc)) (by kernel_rfl) (fun vs w1 he hd => gives_move (x := .tmp 8) (by kernel_rfl) (by kernel_rfl) ⟨Ex.refl _, rfl⟩) ?_
              refine reqP_cons (.val (.string ⟨(List.toArray B)⟩)) (by kernel_rfl) (fun vs w1 he hd => gives_str (x := .tmp 58) (v := (.slice ba z bc)) (xs := B) (by kernel_rfl) (Eq.trans (b := vs 4) (by kernel_rfl) (hd 4 (.val (.slice ba z bc)) (by kernel_rfl) (by kernel_rfl))) (HB4.out.fresh he) ⟨Ex.refl _, rfl⟩) ?_
              refine reqP_cons (.bsl M2) (by kernel_rfl) (fun vs w1 he hd => gives_call (fn := Try.f10) (f := 10) (xs := #[.tmp 57, .tmp 59]) (ts := #[30, 9]) (vs := #[vs 3, (.string ⟨(List.toArray B)⟩)]) (by kernel_rfl) (by kernel_rfl) (Eq.trans (b := #[vs 3, vs 5]) (by kernel_rfl) (by rw [show vs 5 = (.string ⟨(List.toArray B)⟩) from (hd 5 (.val (.string ⟨(List.toArray B)⟩)) (by kernel_rfl) (by kernel_rfl))])) (by kernel_rfl) (by kernel_rfl) (by kernel_rfl) (HT1.out w1 (vs 3) (hd 3 (.bsl M1) (by kernel_rfl) (by kernel_rfl)) he)) reqP_nil
            · intro vs w1 he hF
              exact gives_call (fn := Try.f8) (f := 8) (xs := #[.tmp 54, .tmp 60]) (ts := #[25, 30]) (vs := #[(.pointer (some ⟨a, 0, none⟩)), vs 6]) (by kernel_rfl) (by kernel_rfl) (Eq.trans (b := #[vs 0, vs 6]) (by kernel_rfl) (by rw [show vs 0 = (.pointer (some ⟨a, 0, none⟩)) from (told_at hF 0 (.val (.pointer (some ⟨a, 0, none⟩))) (by decide) (by kernel_rfl))])) (by kernel_rfl) (by kernel_rfl) (by kernel_rfl) (HDO.out w1 (vs 6) (told_at hF 6 (.bsl M2) (by decide) (by kernel_rfl)) he)
            · refine reqT_cons id (by kernel_rfl) (fun vs w1 _ _ => gives_move (x := .tmp 61) (v := vs 7) (by kernel_rfl) (by kernel_rfl) ⟨rfl, rfl⟩) ?_
              refine reqT_cons fst2 (by kernel_rfl) (fun vs w1 hp hd => gives_ext0 hp (x := .tmp 53) (by kernel_rfl) (Eq.trans (b := vs 8) (by kernel_rfl) (hd 8 id (by kernel_rfl) (by decide) (by kernel_rfl))) ⟨rfl, rfl⟩) ?_
              refine reqT_cons snd2 (by kernel_rfl) (fun vs w1 hp hd => gives_ext1 hp (x := .tmp 53) (by kernel_rfl) (Eq.trans (b := vs 8) (by kernel_rfl) (hd 8 id (by kernel_rfl) (by decide) (by kernel_rfl))) ⟨rfl, rfl⟩) ?_
              refine reqT_cons fst2 (by kernel_rfl) (fun vs w1 _ hd => gives_assign (x := .tmp 62) (v := fst2 (vs 7)) (by kernel_rfl) (Eq.trans (b := vs 9) (by kernel_rfl) (hd 9 fst2 (by kernel_rfl) (by decide) (by kernel_rfl))) ⟨rfl, rfl⟩) ?_
              refine reqT_cons snd2 (by kernel_rfl) (fun vs w1 _ hd => gives_assign (x := .tmp 63) (v := snd2 (vs 7)) (by kernel_rfl) (Eq.trans (b := vs 10) (by kernel_rfl) (hd 10 snd2 (by kernel_rfl) (by decide) (by kernel_rfl))) ⟨rfl, rfl⟩) reqT_nil
            · intro vs w1 w5 he _ hG hF
              obtain ⟨u1, u2, e7, hls5, hev5, hm5, hk5⟩ := hG
              have e7' : vs 7 = .tuple #[u1, u2] := by injection e7
              have e11 : vs 11 = u1 := by rw [hF 11 (by decide) (by decide), e7']; rfl
              have e12 : vs 12 = u2 := by rw [hF 12 (by decide) (by decide), e7']; rfl
              have HI5 := hidden ((HI4.out.fresh he).done hm5 hk5)
              have hal := HI4.out.m.aLt
              have HB5 := hidden ((HB4.out.fresh he).keep hk5 (fun k e e2 => HNA.out k e e2))
              have hls6 := hls5.mono he.size
              have hev6 := hev5.mono he.size
              simp only [List.length_cons, List.length_nil, Nat.zero_add, Nat.reduceAdd, actsTo, if_true, dstOf, List.getElem?_toArray, List.getElem?_cons_succ, List.getElem?_cons_zero, Option.bind_some, Act.put, List.setIfInBounds_toArray, List.set_cons_zero, List.set_cons_succ]
              rw [e11, e12]
              clear hF e7 e7' e11 e12 he hm5 hk5 hls5 hev5 HDO HT1 HU1 HI4 HB4
              rw [hR] at HI5 hls6 hev6
              dsimp only at HI5 hls6 hev6
              clear hR R
              obtain ⟨ua1, uc1, eu1⟩ := hls6.shape
              obtain ⟨ua2, uc2, eu2⟩ := hev6.shape
              subst eu1 eu2
              have hzz : z ≤ l := by omega
              have hl1' : 32768 ≤ nextL l z := by unfold nextL; split <;> omega
              have hl2' : nextL l z ≤ 65536 := by unfold nextL; split <;> omega
              have HLS := hidden hls6
              have HEV := hidden hev6
              have iz : (l : Int) - (z : Int) = ((l - z : Nat) : Int) := by omega
              have HST : Hid (Value.int .i64 ((l - z : Nat) : Int) = .int .i64 ((if 0 < (ansL l z).length then l - z else nextL l z : Nat) : Int)) := hidden (by
                congr 2
                unfold ansL nextL
                by_cases h : l - z < 32768
                · rw [if_pos h, if_pos (by simp)]
                · rw [if_neg h, if_neg (by simp), if_neg h])
              clear hls6 hev6
              go_wp2_with fail
              go_loopw [6, 11] (fun tl tk wr => ∃ k : Nat, k ≤ (ansL l z).length ∧ tk = .int .i64 (k : Int) ∧ tl = .int .i64 ((if k < (ansL l z).length then l - z else nextL l z : Nat) : Int) ∧ Below w5.heap.size w5 wr) (fun _ tk _ => (ansL l z).length - (intOf tk).toNat)
              case atStart => exact ⟨0, by omega, rfl, HST.out, Below.refl _ _⟩
              case round =>
                obtain ⟨k, hk, rfl, rfl, hbl⟩ := hrel
                have HBL := hidden hbl
                clear hbl
                by_cases hkn : k < (ansL l z).length
                · obtain ⟨hk0, hlt3, hone⟩ : k = 0 ∧ l - z < 32768 ∧ ansL l z = [numL 93 [0, 65536 - (l - z)]] := by
                    unfold ansL at hkn ⊢
                    split at hkn
                    · rename_i h
                      rw [if_pos h]
                      exact ⟨by simp at hkn; omega, h, rfl⟩
                    · simp at hkn
                  subst hk0
                  have hls7 := HLS.out
                  rw [hone] at hls7
                  obtain ⟨g1, c1, x1, e1, q1, q2, q3, q4⟩ := hls7.one2
                  rw [if_pos hkn]
                  obtain ⟨xa1, xc1, ex1⟩ := q2.len
                  rw [show (numL 93 [0, 65536 - (l - z)]).length = 9 by rw [numL_len]; rfl] at ex1
                  subst ex1
                  have e1' : (ansL l z).length = 1 := by rw [hone]; rfl
                  have e1b : Value.slice ua1 1 uc1 = .slice (some ⟨g1, 0, none⟩) 1 c1 := e1
                  cases e1b
                  clear e1
                  obtain ⟨N1, hN1⟩ : ∃ N1 : Nat, N1 = 65536 - (l - z) := ⟨_, rfl⟩
                  obtain ⟨r1, r2, r3, r4, r5⟩ := more_read N1 (by omega)
                  rw [← hN1] at q2
                  have i1 : ((0 : Nat) : Int) < ((ansL l z).length : Int) := by omega
                  have cc1 := (Keeps.ofFresh (S := fun _ => False) HBL.out).cell q1 (fun h => h)
                  have hqb := q2.fresh HBL.out
                  have hqo : ∀ k, (Value.slice xa1 9 xc1).ownBlock = some k → k < wr.heap.size := fun k e => Nat.lt_of_lt_of_le (q4 k e) HBL.out.size
                  have HQ0 := hidden (QR.make hqb (by rw [numL_len]; simp) hqo)
                  have HN1 : Hid ((l - z) + N1 = nextL l z) := hidden (by unfold nextL; rw [if_pos hlt3]; omega)
                  obtain ⟨lw, hlw⟩ : ∃ lw, lw = l - z := ⟨_, rfl⟩
                  rw [← hlw] at HN1 ⊢
                  have hlw6 : lw ≤ 65536 := by omega
                  generalize numL 93 [0, N1] = M93 at *
                  have hbox : Below w5.heap.size w5 (wr.alloc (.cells #[.slice xa1 9 xc1, .int .i64 0, .bool false, .int .i64 0, .int .i64 0] 40)) := HBL.out.alloc HBL.out.size _
                  have HBX := hidden hbox
                  have hc5 := HBL.out.size
                  have HE1 := hidden e1'
                  clear hlw hone hls7 q1 q2 q3 q4 hqb hqo hbox e1'
                  go_wp2_with fail
                  generalize hcb : wr.heap.size = c at *
                  generalize wr.alloc (.cells #[.slice xa1 9 xc1, .int .i64 0, .bool false, .int .i64 0, .int .i64 0] 40) = wb at *
                  clear hcb cc1 HBL
                  generalize (Value.slice xa1 9 xc1).ownBlock = go at *
                  refine (qbyte_c wb HQ0.out).mono ?_
                  rintro e w6 ⟨rfl, hq6⟩
                  rw [r1] at hq6 ⊢
                  have HQ1 := hidden hq6.state
                  have HB1 := hidden (HBX.out.trans (Keeps.below hq6.keeps HBX.out.size (fun k e => by rw [e]; exact hc5)))
                  clear hq6 HQ0 HBX
                  dsimp only at HQ1
                  rw [show val [93] = 93 by kernel_rfl]
                  go_wp2_with fail
                  refine (qu32_c w6 HQ1.out).mono ?_
                  rintro e w7 ⟨rfl, hq6⟩
                  rw [r2] at hq6 ⊢
                  have HQ2 := hidden hq6.state
                  have HB2 := hidden (HB1.out.trans (Keeps.below hq6.keeps HB1.out.size (fun k e => by rw [e]; exact hc5)))
                  clear hq6 HQ1 HB1
                  dsimp only at HQ2
                  rw [show val [0, 0, 0, 0] = 0 by kernel_rfl]
                  go_wp2_with fail
                  refine (qu32_c w7 HQ2.out).mono ?_
                  rintro e w8 ⟨rfl, hq6⟩
                  rw [r3] at hq6 ⊢
                  have HQ3 := hidden hq6.state
                  have HB3 := hidden (HB2.out.trans (Keeps.below hq6.keeps HB2.out.size (fun k e => by rw [e]; exact hc5)))
                  clear hq6 HQ2 HB2
                  dsimp only at HQ3
                  rw [r4]
                  have HFI := hidden (qfine_c w8 HQ3.out)
                  rw [r5] at HFI
                  have hN16 : N1 ≤ 65536 := by omega
                  clear r1 r2 r3 r4 r5 hN1 hlt3
                  go_wp2_with fail
                  refine HFI.out.mono ?_
                  rintro e w9 ⟨rfl, hk9⟩
                  have HB4' := hidden (HB3.out.trans (Keeps.below hk9 HB3.out.size (fun _ h => h.elim)))
                  clear hk9 HFI HQ3 HB3
                  go_wp2_with fail
                  go_roundw
                  case rel => exact ⟨1, by have := HE1.out; omega, by go_num, by rw [if_neg (by have := HE1.out; omega), ← HN1.out]; go_num, HB4'.out⟩
                  case measure => simp [intOf]; omega
                · have hke : k = (ansL l z).length := by omega
                  subst hke
                  rw [if_neg hkn]
                  obtain ⟨l', hl'⟩ : ∃ l', l' = nextL l z := ⟨_, rfl⟩
                  rw [← hl'] at hl1' hl2' HI5 ⊢
                  clear hl'
                  have i1 : ¬ ((ansL l z).length : Int) < ((ansL l z).length : Int) := by omega
                  have HIw := hidden (HI5.out.fresh HBL.out)
                  have HBw := hidden (HB5.out.fresh HBL.out)
                  have HEVw := hidden (HEV.out.keep (Keeps.ofFresh (S := fun _ => False) HBL.out) (fun _ h => h.elim))
                  have HD : Hid (∀ w1, Ex wr w1 → Calls Try.prog 18 #[.pointer (some ⟨a, 0, none⟩)] w1 fun e w' => e = .returned (.bool false) ∧ w' = w1) := hidden fun w1 he => Dead_c w1 (HIw.out.fresh he).m
                  clear HI5 HB5 HEV HLS HBL
                  by_cases hbe : B = []
                  · have hz0' : z = 0 := by rw [← hBl, hbe]; rfl
                    subst hz0'
                    have hev := HEVw.out
                    rw [show evsL B = [] by unfold evsL; rw [if_pos hbe]] at hev
                    have e10 := hev.none'
                    cases e10
                    rw [show (evsL B).length = 0 by unfold evsL; rw [if_pos hbe]; rfl]
                    clear hev HEVw
                    go_upto_region 23 with fail
                    refine region_free [(.val (.pointer (some ⟨a, 0, none⟩))), (.val (.bool false)), (.val (.bool false)), (.val (.int .i64 (l' : Int))), (.val (.bool false)), (.val (.bool false)), (.val (.bool false)), (.val (.int .i64 (l' : Int))), (.val (.bool false)), (.val (.bool false)), (.val (.bool false)), (.val (.slice ba 0 bc)), (.val (.int .i64 0)), (.val (.bool false)), (.val (.bool false)), (.val undef), (.val undef), (.val undef), (.val undef), (.val undef), (.val undef), (.val undef), (.val undef), (.val undef), (.val undef), (.val undef), (.val undef), (.val undef), (.val undef), (.val undef), (.val undef), (.val undef), (.val undef), (.val undef), (.val undef), (.val (.bool false)), (.val (.bool false)), (.val (.bool false)), (.val (.slice ba 0 bc)), (.val (.int .i64 0)), (.val (.bool true)), (.val (.bool true)), (.val (.slice none 0 0)), (.val (.int .i64 0)), (.val (.bool false)), (.val (.bool false)), (.val (.bool false))] (by kernel_rfl) ?_ ?_
                    · refine req_cons (.val (.pointer (some ⟨a, 0, none⟩))) (by kernel_rfl) (fun vs w1 he hd => StepG.plain (by kernel_rfl) (gives_move (x := .tmp 5) (by kernel_rfl) (Eq.trans (off_eval 5 (by kernel_rfl)) (by kernel_rfl)) ⟨Ex.refl _, rfl⟩)) ?_
                      refine req_cons (.val (.bool false)) (by kernel_rfl) (fun vs w1 he hd => StepG.plain (by kernel_rfl) (gives_call (fn := Try.f18) (f := 18) (xs := #[.tmp 101]) (ts := #[25]) (vs := #[(.pointer (some ⟨a, 0, none⟩))]) (by kernel_rfl) (by kernel_rfl) (Eq.trans (b := #[vs 0]) (by simp only [List.map_toArray, List.map_cons, List.map_nil]; rw [at_eval 101 0 (by kernel_rfl) (by kernel_rfl)]) (by rw [show vs 0 = (.pointer (some ⟨a, 0, none⟩)) from (hd 0 (.val (.pointer (some ⟨a, 0, none⟩))) (by kernel_rfl) (by kernel_rfl))])) (by kernel_rfl) (by kernel_rfl) (by kernel_rfl) (told_val (HD.out w1 he)))) ?_
                      refine req_cons (.val (.bool false)) (by kernel_rfl) (fun vs w1 he hd => StepG.plain (by kernel_rfl) (gives_move (x := .tmp 102) (by kernel_rfl) (Eq.trans (b := vs 1) (at_eval 102 1 (by kernel_rfl) (by kernel_rfl)) (hd 1 (.val (.bool false)) (by kernel_rfl) (by kernel_rfl))) ⟨Ex.refl _, rfl⟩)) ?_
                      refine req_cons (.val (.int .i64 (l' : Int))) (by kernel_rfl) (fun vs w1 he hd => StepG.on (g := 2) (d := 103) (x := false) (v := vs 2) (by kernel_rfl) (by kernel_rfl) (at_tmps 103 2 (by kernel_rfl) (by kernel_rfl)) (hd 2 (.val (.bool false)) (by kernel_rfl) (by kernel_rfl)) (gives_move (x := .tmp 6) (by kernel_rfl) (Eq.trans (off_eval 6 (by kernel_rfl)) (by kernel_rfl)) ⟨Ex.refl _, rfl⟩)) ?_
                      refine req_cons (.val (.bool false)) (by kernel_rfl) (fun vs w1 he hd => StepG.on (g := 2) (d := 103) (x := false) (v := vs 2) (by kernel_rfl) (by kernel_rfl) (at_tmps 103 2 (by kernel_rfl) (by kernel_rfl)) (hd 2 (.val (.bool false)) (by kernel_rfl) (by kernel_rfl)) (gives_gtI (t := 3) (k := .i64) (a := (l' : Int)) (b := 65536) (r := false) (x := .tmp 104) (y := .const (.int .i64 65536)) (by kernel_rfl) (Eq.trans (b := vs 3) (at_eval 104 3 (by kernel_rfl) (by kernel_rfl)) (hd 3 (.val (.int .i64 (l' : Int))) (by kernel_rfl) (by kernel_rfl))) (by kernel_rfl) (by simp; omega) ⟨Ex.refl _, rfl⟩)) ?_
                      refine req_cons (.val (.bool false)) (by kernel_rfl) (fun vs w1 he hd => StepG.plain (by kernel_rfl) (gives_pick_f (x := .tmp 103) (y := .const (.bool true)) (z := .tmp 105) (v := .bool false) (by kernel_rfl) (Eq.trans (b := vs 2) (at_eval 103 2 (by kernel_rfl) (by kernel_rfl)) (hd 2 (.val (.bool false)) (by kernel_rfl) (by kernel_rfl))) (Eq.trans (b := vs 4) (at_eval 105 4 (by kernel_rfl) (by kernel_rfl)) (hd 4 (.val (.bool false)) (by kernel_rfl) (by kernel_rfl))) ⟨Ex.refl _, rfl⟩)) ?_
                      refine req_cons (.val (.bool false)) (by kernel_rfl) (fun vs w1 he hd => StepG.plain (by kernel_rfl) (gives_move (x := .tmp 106) (by kernel_rfl) (Eq.trans (b := vs 5) (at_eval 106 5 (by kernel_rfl) (by kernel_rfl)) (hd 5 (.val (.bool false)) (by kernel_rfl) (by kernel_rfl))) ⟨Ex.refl _, rfl⟩)) ?_
                      refine req_cons (.val (.int .i64 (l' : Int))) (by kernel_rfl) (fun vs w1 he hd => StepG.on (g := 6) (d := 107) (x := false) (v := vs 6) (by kernel_rfl) (by kernel_rfl) (at_tmps 107 6 (by kernel_rfl) (by kernel_rfl)) (hd 6 (.val (.bool false)) (by kernel_rfl) (by kernel_rfl)) (gives_move (x := .tmp 6) (by kernel_rfl) (Eq.trans (off_eval 6 (by kernel_rfl)) (by kernel_rfl)) ⟨Ex.refl _, rfl⟩)) ?_
                      refine req_cons (.val (.bool false)) (by kernel_rfl) (fun vs w1 he hd => StepG.on (g := 6) (d := 107) (x := false) (v := vs 6) (by kernel_rfl) (by kernel_rfl) (at_tmps 107 6 (by kernel_rfl) (by kernel_rfl)) (hd 6 (.val (.bool false)) (by kernel_rfl) (by kernel_rfl)) (gives_ltI (t := 3) (k := .i64) (a := (l' : Int)) (b := 32768) (r := false) (x := .tmp 108) (y := .const (.int .i64 32768)) (by kernel_rfl) (Eq.trans (b := vs 7) (at_eval 108 7 (by kernel_rfl) (by kernel_rfl)) (hd 7 (.val (.int .i64 (l' : Int))) (by kernel_rfl) (by kernel_rfl))) (by kernel_rfl) (by simp; omega) ⟨Ex.refl _, rfl⟩)) ?_
                      refine req_cons (.val (.bool false)) (by kernel_rfl) (fun vs w1 he hd => StepG.plain (by kernel_rfl) (gives_pick_f (x := .tmp 107) (y := .const (.bool true)) (z := .tmp 109) (v := .bool false) (by kernel_rfl) (Eq.trans (b := vs 6) (at_eval 107 6 (by kernel_rfl) (by kernel_rfl)) (hd 6 (.val (.bool false)) (by kernel_rfl) (by kernel_rfl))) (Eq.trans (b := vs 8) (at_eval 109 8 (by kernel_rfl) (by kernel_rfl)) (hd 8 (.val (.bool false)) (by kernel_rfl) (by kernel_rfl))) ⟨Ex.refl _, rfl⟩)) ?_
                      refine req_cons (.val (.bool false)) (by kernel_rfl) (fun vs w1 he hd => StepG.plain (by kernel_rfl) (gives_move (x := .tmp 110) (by kernel_rfl) (Eq.trans (b := vs 9) (at_eval 110 9 (by kernel_rfl) (by kernel_rfl)) (hd 9 (.val (.bool false)) (by kernel_rfl) (by kernel_rfl))) ⟨Ex.refl _, rfl⟩)) ?_
                      refine req_cons (.val (.slice ba 0 bc)) (by kernel_rfl) (fun vs w1 he hd => StepG.on (g := 10) (d := 111) (x := false) (v := vs 10) (by kernel_rfl) (by kernel_rfl) (at_tmps 111 10 (by kernel_rfl) (by kernel_rfl)) (hd 10 (.val (.bool false)) (by kernel_rfl) (by kernel_rfl)) (gives_move (x := .tmp 8) (by kernel_rfl) (Eq.trans (off_eval 8 (by kernel_rfl)) (by kernel_rfl)) ⟨Ex.refl _, rfl⟩)) ?_
                      refine req_cons (.val (.int .i64 0)) (by kernel_rfl) (fun vs w1 he hd => StepG.on (g := 10) (d := 111) (x := false) (v := vs 10) (by kernel_rfl) (by kernel_rfl) (at_tmps 111 10 (by kernel_rfl) (by kernel_rfl)) (hd 10 (.val (.bool false)) (by kernel_rfl) (by kernel_rfl)) (gives_len (ty := 30) (x := .tmp 112) (n := 0) (by kernel_rfl) (Eq.trans (b := vs 11) (at_eval 112 11 (by kernel_rfl) (by kernel_rfl)) (hd 11 (.val (.slice ba 0 bc)) (by kernel_rfl) (by kernel_rfl))) ⟨_, Try.underlying30⟩ ⟨Ex.refl _, rfl⟩)) ?_
                      refine req_cons (.val (.bool false)) (by kernel_rfl) (fun vs w1 he hd => StepG.on (g := 10) (d := 111) (x := false) (v := vs 10) (by kernel_rfl) (by kernel_rfl) (at_tmps 111 10 (by kernel_rfl) (by kernel_rfl)) (hd 10 (.val (.bool false)) (by kernel_rfl) (by kernel_rfl)) (gives_gtI (t := 3) (k := .i64) (a := 0) (b := 0) (r := false) (x := .tmp 113) (y := .const (.int .i64 0)) (by kernel_rfl) (Eq.trans (b := vs 12) (at_eval 113 12 (by kernel_rfl) (by kernel_rfl)) (hd 12 (.val (.int .i64 0)) (by kernel_rfl) (by kernel_rfl))) (by kernel_rfl) (by decide) ⟨Ex.refl _, rfl⟩)) ?_
                      refine req_cons (.val (.bool false)) (by kernel_rfl) (fun vs w1 he hd => StepG.on (g := 10) (d := 111) (x := false) (v := vs 10) (by kernel_rfl) (by kernel_rfl) (at_tmps 111 10 (by kernel_rfl) (by kernel_rfl)) (hd 10 (.val (.bool false)) (by kernel_rfl) (by kernel_rfl)) (gives_move (x := .tmp 114) (by kernel_rfl) (Eq.trans (b := vs 13) (at_eval 114 13 (by kernel_rfl) (by kernel_rfl)) (hd 13 (.val (.bool false)) (by kernel_rfl) (by kernel_rfl))) ⟨Ex.refl _, rfl⟩)) ?_
                      refine req_cons (.val undef) (by kernel_rfl) (fun vs w1 he hd => StepG.off (g := 14) (d := 115) (x := true) (v := vs 14) (by kernel_rfl) (by kernel_rfl) (at_tmps 115 14 (by kernel_rfl) (by kernel_rfl)) (.inl (hd 14 (.val (.bool false)) (by kernel_rfl) (by kernel_rfl))) ⟨Ex.refl _, rfl⟩) ?_
                      refine req_cons (.val undef) (by kernel_rfl) (fun vs w1 he hd => StepG.off (g := 14) (d := 115) (x := true) (v := vs 14) (by kernel_rfl) (by kernel_rfl) (at_tmps 115 14 (by kernel_rfl) (by kernel_rfl)) (.inl (hd 14 (.val (.bool false)) (by kernel_rfl) (by kernel_rfl))) ⟨Ex.refl _, rfl⟩) ?_
                      refine req_cons (.val undef) (by kernel_rfl) (fun vs w1 he hd => StepG.off (g := 14) (d := 115) (x := true) (v := vs 14) (by kernel_rfl) (by kernel_rfl) (at_tmps 115 14 (by kernel_rfl) (by kernel_rfl)) (.inl (hd 14 (.val (.bool false)) (by kernel_rfl) (by kernel_rfl))) ⟨Ex.refl _, rfl⟩) ?_
                      refine req_cons (.val undef) (by kernel_rfl) (fun vs w1 he hd => StepG.off (g := 14) (d := 115) (x := true) (v := vs 14) (by kernel_rfl) (by kernel_rfl) (at_tmps 115 14 (by kernel_rfl) (by kernel_rfl)) (.inl (hd 14 (.val (.bool false)) (by kernel_rfl) (by kernel_rfl))) ⟨Ex.refl _, rfl⟩) ?_
                      refine req_cons (.val undef) (by kernel_rfl) (fun vs w1 he hd => StepG.off (g := 18) (d := 119) (x := false) (v := vs 18) (by kernel_rfl) (by kernel_rfl) (at_tmps 119 18 (by kernel_rfl) (by kernel_rfl)) (.inr (hd 18 (.val undef) (by kernel_rfl) (by kernel_rfl))) ⟨Ex.refl _, rfl⟩) ?_
                      refine req_cons (.val undef) (by kernel_rfl) (fun vs w1 he hd => StepG.off (g := 18) (d := 119) (x := false) (v := vs 18) (by kernel_rfl) (by kernel_rfl) (at_tmps 119 18 (by kernel_rfl) (by kernel_rfl)) (.inr (hd 18 (.val undef) (by kernel_rfl) (by kernel_rfl))) ⟨Ex.refl _, rfl⟩) ?_
                      refine req_cons (.val undef) (by kernel_rfl) (fun vs w1 he hd => StepG.off (g := 18) (d := 119) (x := false) (v := vs 18) (by kernel_rfl) (by kernel_rfl) (at_tmps 119 18 (by kernel_rfl) (by kernel_rfl)) (.inr (hd 18 (.val undef) (by kernel_rfl) (by kernel_rfl))) ⟨Ex.refl _, rfl⟩) ?_
                      refine req_cons (.val undef) (by kernel_rfl) (fun vs w1 he hd => StepG.off (g := 18) (d := 119) (x := false) (v := vs 18) (by kernel_rfl) (by kernel_rfl) (at_tmps 119 18 (by kernel_rfl) (by kernel_rfl)) (.inr (hd 18 (.val undef) (by kernel_rfl) (by kernel_rfl))) ⟨Ex.refl _, rfl⟩) ?_
                      refine req_cons (.val undef) (by kernel_rfl) (fun vs w1 he hd => StepG.off (g := 18) (d := 119) (x := false) (v := vs 18) (by kernel_rfl) (by kernel_rfl) (at_tmps 119 18 (by kernel_rfl) (by kernel_rfl)) (.inr (hd 18 (.val undef) (by kernel_rfl) (by kernel_rfl))) ⟨Ex.refl _, rfl⟩) ?_
                      refine req_cons (.val undef) (by kernel_rfl) (fun vs w1 he hd => StepG.off (g := 14) (d := 115) (x := true) (v := vs 14) (by kernel_rfl) (by kernel_rfl) (at_tmps 115 14 (by kernel_rfl) (by kernel_rfl)) (.inl (hd 14 (.val (.bool false)) (by kernel_rfl) (by kernel_rfl))) ⟨Ex.refl _, rfl⟩) ?_
                      refine req_cons (.val undef) (by kernel_rfl) (fun vs w1 he hd => StepG.off (g := 14) (d := 115) (x := true) (v := vs 14) (by kernel_rfl) (by kernel_rfl) (at_tmps 115 14 (by kernel_rfl) (by kernel_rfl)) (.inl (hd 14 (.val (.bool false)) (by kernel_rfl) (by kernel_rfl))) ⟨Ex.refl _, rfl⟩) ?_
                      refine req_cons (.val undef) (by kernel_rfl) (fun vs w1 he hd => StepG.off (g := 25) (d := 126) (x := false) (v := vs 25) (by kernel_rfl) (by kernel_rfl) (at_tmps 126 25 (by kernel_rfl) (by kernel_rfl)) (.inr (hd 25 (.val undef) (by kernel_rfl) (by kernel_rfl))) ⟨Ex.refl _, rfl⟩) ?_
                      refine req_cons (.val undef) (by kernel_rfl) (fun vs w1 he hd => StepG.off (g := 25) (d := 126) (x := false) (v := vs 25) (by kernel_rfl) (by kernel_rfl) (at_tmps 126 25 (by kernel_rfl) (by kernel_rfl)) (.inr (hd 25 (.val undef) (by kernel_rfl) (by kernel_rfl))) ⟨Ex.refl _, rfl⟩) ?_
                      refine req_cons (.val undef) (by kernel_rfl) (fun vs w1 he hd => StepG.off (g := 25) (d := 126) (x := false) (v := vs 25) (by kernel_rfl) (by kernel_rfl) (at_tmps 126 25 (by kernel_rfl) (by kernel_rfl)) (.inr (hd 25 (.val undef) (by kernel_rfl) (by kernel_rfl))) ⟨Ex.refl _, rfl⟩) ?_
                      refine req_cons (.val undef) (by kernel_rfl) (fun vs w1 he hd => StepG.off (g := 25) (d := 126) (x := false) (v := vs 25) (by kernel_rfl) (by kernel_rfl) (at_tmps 126 25 (by kernel_rfl) (by kernel_rfl)) (.inr (hd 25 (.val undef) (by kernel_rfl) (by kernel_rfl))) ⟨Ex.refl _, rfl⟩) ?_
                      refine req_cons (.val undef) (by kernel_rfl) (fun vs w1 he hd => StepG.off (g := 25) (d := 126) (x := false) (v := vs 25) (by kernel_rfl) (by kernel_rfl) (at_tmps 126 25 (by kernel_rfl) (by kernel_rfl)) (.inr (hd 25 (.val undef) (by kernel_rfl) (by kernel_rfl))) ⟨Ex.refl _, rfl⟩) ?_
                      refine req_cons (.val undef) (by kernel_rfl) (fun vs w1 he hd => StepG.off (g := 25) (d := 126) (x := false) (v := vs 25) (by kernel_rfl) (by kernel_rfl) (at_tmps 126 25 (by kernel_rfl) (by kernel_rfl)) (.inr (hd 25 (.val undef) (by kernel_rfl) (by kernel_rfl))) ⟨Ex.refl _, rfl⟩) ?_
                      refine req_cons (.val undef) (by kernel_rfl) (fun vs w1 he hd => StepG.off (g := 25) (d := 126) (x := false) (v := vs 25) (by kernel_rfl) (by kernel_rfl) (at_tmps 126 25 (by kernel_rfl) (by kernel_rfl)) (.inr (hd 25 (.val undef) (by kernel_rfl) (by kernel_rfl))) ⟨Ex.refl _, rfl⟩) ?_
                      refine req_cons (.val undef) (by kernel_rfl) (fun vs w1 he hd => StepG.off (g := 25) (d := 126) (x := false) (v := vs 25) (by kernel_rfl) (by kernel_rfl) (at_tmps 126 25 (by kernel_rfl) (by kernel_rfl)) (.inr (hd 25 (.val undef) (by kernel_rfl) (by kernel_rfl))) ⟨Ex.refl _, rfl⟩) ?_
                      refine req_cons (.val undef) (by kernel_rfl) (fun vs w1 he hd => StepG.off (g := 14) (d := 115) (x := true) (v := vs 14) (by kernel_rfl) (by kernel_rfl) (at_tmps 115 14 (by kernel_rfl) (by kernel_rfl)) (.inl (hd 14 (.val (.bool false)) (by kernel_rfl) (by kernel_rfl))) ⟨Ex.refl _, rfl⟩) ?_
                      refine req_cons (.val (.bool false)) (by kernel_rfl) (fun vs w1 he hd => StepG.on (g := 10) (d := 111) (x := false) (v := vs 10) (by kernel_rfl) (by kernel_rfl) (at_tmps 111 10 (by kernel_rfl) (by kernel_rfl)) (hd 10 (.val (.bool false)) (by kernel_rfl) (by kernel_rfl)) (gives_pick_f (x := .tmp 115) (y := .tmp 135) (z := .const (.bool false)) (v := .bool false) (by kernel_rfl) (Eq.trans (b := vs 14) (at_eval 115 14 (by kernel_rfl) (by kernel_rfl)) (hd 14 (.val (.bool false)) (by kernel_rfl) (by kernel_rfl))) (by kernel_rfl) ⟨Ex.refl _, rfl⟩)) ?_
                      refine req_cons (.val (.bool false)) (by kernel_rfl) (fun vs w1 he hd => StepG.plain (by kernel_rfl) (gives_pick_f (x := .tmp 111) (y := .const (.bool true)) (z := .tmp 136) (v := .bool false) (by kernel_rfl) (Eq.trans (b := vs 10) (at_eval 111 10 (by kernel_rfl) (by kernel_rfl)) (hd 10 (.val (.bool false)) (by kernel_rfl) (by kernel_rfl))) (Eq.trans (b := vs 35) (at_eval 136 35 (by kernel_rfl) (by kernel_rfl)) (hd 35 (.val (.bool false)) (by kernel_rfl) (by kernel_rfl))) ⟨Ex.refl _, rfl⟩)) ?_
                      refine req_cons (.val (.bool false)) (by kernel_rfl) (fun vs w1 he hd => StepG.plain (by kernel_rfl) (gives_move (x := .tmp 137) (by kernel_rfl) (Eq.trans (b := vs 36) (at_eval 137 36 (by kernel_rfl) (by kernel_rfl)) (hd 36 (.val (.bool false)) (by kernel_rfl) (by kernel_rfl))) ⟨Ex.refl _, rfl⟩)) ?_
                      refine req_cons (.val (.slice ba 0 bc)) (by kernel_rfl) (fun vs w1 he hd => StepG.on (g := 37) (d := 138) (x := false) (v := vs 37) (by kernel_rfl) (by kernel_rfl) (at_tmps 138 37 (by kernel_rfl) (by kernel_rfl)) (hd 37 (.val (.bool false)) (by kernel_rfl) (by kernel_rfl)) (gives_move (x := .tmp 8) (by kernel_rfl) (Eq.trans (off_eval 8 (by kernel_rfl)) (by kernel_rfl)) ⟨Ex.refl _, rfl⟩)) ?_
                      refine req_cons (.val (.int .i64 0)) (by kernel_rfl) (fun vs w1 he hd => StepG.on (g := 37) (d := 138) (x := false) (v := vs 37) (by kernel_rfl) (by kernel_rfl) (at_tmps 138 37 (by kernel_rfl) (by kernel_rfl)) (hd 37 (.val (.bool false)) (by kernel_rfl) (by kernel_rfl)) (gives_len (ty := 30) (x := .tmp 139) (n := 0) (by kernel_rfl) (Eq.trans (b := vs 38) (at_eval 139 38 (by kernel_rfl) (by kernel_rfl)) (hd 38 (.val (.slice ba 0 bc)) (by kernel_rfl) (by kernel_rfl))) ⟨_, Try.underlying30⟩ ⟨Ex.refl _, rfl⟩)) ?_
                      refine req_cons (.val (.bool true)) (by kernel_rfl) (fun vs w1 he hd => StepG.on (g := 37) (d := 138) (x := false) (v := vs 37) (by kernel_rfl) (by kernel_rfl) (at_tmps 138 37 (by kernel_rfl) (by kernel_rfl)) (hd 37 (.val (.bool false)) (by kernel_rfl) (by kernel_rfl)) (gives_eqI (t := 3) (k := .i64) (a := 0) (b := 0) (r := true) (x := .tmp 140) (y := .const (.int .i64 0)) (by kernel_rfl) (Eq.trans (b := vs 39) (at_eval 140 39 (by kernel_rfl) (by kernel_rfl)) (hd 39 (.val (.int .i64 0)) (by kernel_rfl) (by kernel_rfl))) (by kernel_rfl) rfl ⟨Ex.refl _, rfl⟩)) ?_
                      refine req_cons (.val (.bool true)) (by kernel_rfl) (fun vs w1 he hd => StepG.on (g := 37) (d := 138) (x := false) (v := vs 37) (by kernel_rfl) (by kernel_rfl) (at_tmps 138 37 (by kernel_rfl) (by kernel_rfl)) (hd 37 (.val (.bool false)) (by kernel_rfl) (by kernel_rfl)) (gives_move (x := .tmp 141) (by kernel_rfl) (Eq.trans (b := vs 40) (at_eval 141 40 (by kernel_rfl) (by kernel_rfl)) (hd 40 (.val (.bool true)) (by kernel_rfl) (by kernel_rfl))) ⟨Ex.refl _, rfl⟩)) ?_
                      refine req_cons (.val (.slice none 0 0)) (by kernel_rfl) (fun vs w1 he hd => StepG.on (g := 41) (d := 142) (x := true) (v := vs 41) (by kernel_rfl) (by kernel_rfl) (at_tmps 142 41 (by kernel_rfl) (by kernel_rfl)) (hd 41 (.val (.bool true)) (by kernel_rfl) (by kernel_rfl)) (gives_move (x := .tmp 10) (by kernel_rfl) (Eq.trans (off_eval 10 (by kernel_rfl)) (by kernel_rfl)) ⟨Ex.refl _, rfl⟩)) ?_
                      refine req_cons (.val (.int .i64 0)) (by kernel_rfl) (fun vs w1 he hd => StepG.on (g := 41) (d := 142) (x := true) (v := vs 41) (by kernel_rfl) (by kernel_rfl) (at_tmps 142 41 (by kernel_rfl) (by kernel_rfl)) (hd 41 (.val (.bool true)) (by kernel_rfl) (by kernel_rfl)) (gives_len (ty := 27) (x := .tmp 143) (n := 0) (by kernel_rfl) (Eq.trans (b := vs 42) (at_eval 143 42 (by kernel_rfl) (by kernel_rfl)) (hd 42 (.val (.slice none 0 0)) (by kernel_rfl) (by kernel_rfl))) ⟨_, Try.underlying27⟩ ⟨Ex.refl _, rfl⟩)) ?_
                      refine req_cons (.val (.bool false)) (by kernel_rfl) (fun vs w1 he hd => StepG.on (g := 41) (d := 142) (x := true) (v := vs 41) (by kernel_rfl) (by kernel_rfl) (at_tmps 142 41 (by kernel_rfl) (by kernel_rfl)) (hd 41 (.val (.bool true)) (by kernel_rfl) (by kernel_rfl)) (gives_neI (t := 3) (k := .i64) (a := 0) (b := 0) (r := false) (x := .tmp 144) (y := .const (.int .i64 0)) (by kernel_rfl) (Eq.trans (b := vs 43) (at_eval 144 43 (by kernel_rfl) (by kernel_rfl)) (hd 43 (.val (.int .i64 0)) (by kernel_rfl) (by kernel_rfl))) (by kernel_rfl) rfl ⟨Ex.refl _, rfl⟩)) ?_
                      refine req_cons (.val (.bool false)) (by kernel_rfl) (fun vs w1 he hd => StepG.on (g := 37) (d := 138) (x := false) (v := vs 37) (by kernel_rfl) (by kernel_rfl) (at_tmps 138 37 (by kernel_rfl) (by kernel_rfl)) (hd 37 (.val (.bool false)) (by kernel_rfl) (by kernel_rfl)) (gives_pick_t (x := .tmp 142) (y := .tmp 145) (z := .const (.bool false)) (v := .bool false) (by kernel_rfl) (Eq.trans (b := vs 41) (at_eval 142 41 (by kernel_rfl) (by kernel_rfl)) (hd 41 (.val (.bool true)) (by kernel_rfl) (by kernel_rfl))) (Eq.trans (b := vs 44) (at_eval 145 44 (by kernel_rfl) (by kernel_rfl)) (hd 44 (.val (.bool false)) (by kernel_rfl) (by kernel_rfl))) ⟨Ex.refl _, rfl⟩)) ?_
                      refine req_cons (.val (.bool false)) (by kernel_rfl) (fun vs w1 he hd => StepG.plain (by kernel_rfl) (gives_pick_f (x := .tmp 138) (y := .const (.bool true)) (z := .tmp 146) (v := .bool false) (by kernel_rfl) (Eq.trans (b := vs 37) (at_eval 138 37 (by kernel_rfl) (by kernel_rfl)) (hd 37 (.val (.bool false)) (by kernel_rfl) (by kernel_rfl))) (Eq.trans (b := vs 45) (at_eval 146 45 (by kernel_rfl) (by kernel_rfl)) (hd 45 (.val (.bool false)) (by kernel_rfl) (by kernel_rfl))) ⟨Ex.refl _, rfl⟩)) req_nil
                    · intro vs w7 he hF
                      have hz46 : vs 46 = .bool false := told_at hF 46 (.val (.bool false)) (by decide) (by kernel_rfl)
                      have HI7 := hidden (HIw.out.fresh he)
                      simp only [List.length_cons, List.length_nil, Nat.zero_add, Nat.reduceAdd, actsTo, if_true, dstOf, List.getElem?_toArray, List.getElem?_cons_succ, List.getElem?_cons_zero, Option.bind_some, Act.put, List.setIfInBounds_toArray, List.set_cons_zero, List.set_cons_succ]
                      rw [hz46]
                      clear hF he hz46 HIw
                      go_wp2_with fail
                      go_roundw
                      case rel => exact ⟨j + 1, l', by omega, by go_num, rfl, hl1', hl2', HI7.out⟩
                      case measure => simp [intOf]; omega
                  · have hzp : 0 < z := by rw [← hBl]; exact List.length_pos_iff.2 hbe
                    have hev := HEVw.out
                    rw [show evsL B = [⟨2, 0, B⟩] by unfold evsL; rw [if_neg hbe]] at hev
                    obtain ⟨g3, yv, e10, hg3, hyb, _⟩ := hev.one'
                    cases e10
                    rw [show (evsL B).length = 1 by unfold evsL; rw [if_neg hbe]; rfl]
                    obtain ⟨v0, v1, v2, vf⟩ := cells3i hg3
                    obtain ⟨ya, yc, eyv⟩ := hyb.len
                    dsimp only at eyv
                    rw [hBl] at eyv
                    subst eyv
                    have G3C := hidden v0
                    have G5C := hidden v2
                    have G3B := hidden hyb
                    clear hev HEVw hg3 hyb v0 v1 v2 vf
                    go_upto_region 23 with fail
                    refine region_free [(.val (.pointer (some ⟨a, 0, none⟩))), (.val (.bool false)), (.val (.bool false)), (.val (.int .i64 (l' : Int))), (.val (.bool false)), (.val (.bool false)), (.val (.bool false)), (.val (.int .i64 (l' : Int))), (.val (.bool false)), (.val (.bool false)), (.val (.bool false)), (.val (.slice ba z bc)), (.val (.int .i64 (z : Int))), (.val (.bool true)), (.val (.bool true)), (.val (.slice (some ⟨g3, 0, none⟩) 1 1)), (.val (.int .i64 1)), (.val (.bool false)), (.val (.bool false)), (.val (.slice (some ⟨g3, 0, none⟩) 1 1)), (.val (.pointer (some ⟨g3, 0, none⟩))), (.val (.pointer (some ⟨g3, 0, none⟩))), (.val (.int .i64 2)), (.val (.bool false)), (.val (.bool false)), (.val (.bool false)), (.val (.slice (some ⟨g3, 0, none⟩) 1 1)), (.val (.pointer (some ⟨g3, 0, none⟩))), (.val (.pointer (some ⟨g3, 2, none⟩))), (.val (.slice ya z yc)), (.val (.string ⟨(List.toArray B)⟩)), (.val (.slice ba z bc)), (.val (.string ⟨(List.toArray B)⟩)), (.val (.bool false)), (.val (.bool false)), (.val (.bool false)), (.val (.bool false)), (.val (.bool false)), (.val (.slice ba z bc)), (.val (.int .i64 (z : Int))), (.val (.bool false)), (.val (.bool false)), (.val undef), (.val undef), (.val undef), (.val (.bool false)), (.val (.bool false))] (by kernel_rfl) ?_ ?_
                    · refine req_cons (.val (.pointer (some ⟨a, 0, none⟩))) (by kernel_rfl) (fun vs w1 he hd => StepG.plain (by kernel_rfl) (gives_move (x := .tmp 5) (by kernel_rfl) (Eq.trans (off_eval 5 (by kernel_rfl)) (by kernel_rfl)) ⟨Ex.refl _, rfl⟩)) ?_
                      refine req_cons (.val (.bool false)) (by kernel_rfl) (fun vs w1 he hd => StepG.plain (by kernel_rfl) (gives_call (fn := Try.f18) (f := 18) (xs := #[.tmp 101]) (ts := #[25]) (vs := #[(.pointer (some ⟨a, 0, none⟩))]) (by kernel_rfl) (by kernel_rfl) (Eq.trans (b := #[vs 0]) (by simp only [List.map_toArray, List.map_cons, List.map_nil]; rw [at_eval 101 0 (by kernel_rfl) (by kernel_rfl)]) (by rw [show vs 0 = (.pointer (some ⟨a, 0, none⟩)) from (hd 0 (.val (.pointer (some ⟨a, 0, none⟩))) (by kernel_rfl) (by kernel_rfl))])) (by kernel_rfl) (by kernel_rfl) (by kernel_rfl) (told_val (HD.out w1 he)))) ?_
                      refine req_cons (.val (.bool false)) (by kernel_rfl) (fun vs w1 he hd => StepG.plain (by kernel_rfl) (gives_move (x := .tmp 102) (by kernel_rfl) (Eq.trans (b := vs 1) (at_eval 102 1 (by kernel_rfl) (by kernel_rfl)) (hd 1 (.val (.bool false)) (by kernel_rfl) (by kernel_rfl))) ⟨Ex.refl _, rfl⟩)) ?_
                      refine req_cons (.val (.int .i64 (l' : Int))) (by kernel_rfl) (fun vs w1 he hd => StepG.on (g := 2) (d := 103) (x := false) (v := vs 2) (by kernel_rfl) (by kernel_rfl) (at_tmps 103 2 (by kernel_rfl) (by kernel_rfl)) (hd 2 (.val (.bool false)) (by kernel_rfl) (by kernel_rfl)) (gives_move (x := .tmp 6) (by kernel_rfl) (Eq.trans (off_eval 6 (by kernel_rfl)) (by kernel_rfl)) ⟨Ex.refl _, rfl⟩)) ?_
                      refine req_cons (.val (.bool false)) (by kernel_rfl) (fun vs w1 he hd => StepG.on (g := 2) (d := 103) (x := false) (v := vs 2) (by kernel_rfl) (by kernel_rfl) (at_tmps 103 2 (by kernel_rfl) (by kernel_rfl)) (hd 2 (.val (.bool false)) (by kernel_rfl) (by kernel_rfl)) (gives_gtI (t := 3) (k := .i64) (a := (l' : Int)) (b := 65536) (r := false) (x := .tmp 104) (y := .const (.int .i64 65536)) (by kernel_rfl) (Eq.trans (b := vs 3) (at_eval 104 3 (by kernel_rfl) (by kernel_rfl)) (hd 3 (.val (.int .i64 (l' : Int))) (by kernel_rfl) (by kernel_rfl))) (by kernel_rfl) (by simp; omega) ⟨Ex.refl _, rfl⟩)) ?_
                      refine req_cons (.val (.bool false)) (by kernel_rfl) (fun vs w1 he hd => StepG.plain (by kernel_rfl) (gives_pick_f (x := .tmp 103) (y := .const (.bool true)) (z := .tmp 105) (v := .bool false) (by kernel_rfl) (Eq.trans (b := vs 2) (at_eval 103 2 (by kernel_rfl) (by kernel_rfl)) (hd 2 (.val (.bool false)) (by kernel_rfl) (by kernel_rfl))) (Eq.trans (b := vs 4) (at_eval 105 4 (by kernel_rfl) (by kernel_rfl)) (hd 4 (.val (.bool false)) (by kernel_rfl) (by kernel_rfl))) ⟨Ex.refl _, rfl⟩)) ?_
                      refine req_cons (.val (.bool false)) (by kernel_rfl) (fun vs w1 he hd => StepG.plain (by kernel_rfl) (gives_move (x := .tmp 106) (by kernel_rfl) (Eq.trans (b := vs 5) (at_eval 106 5 (by kernel_rfl) (by kernel_rfl)) (hd 5 (.val (.bool false)) (by kernel_rfl) (by kernel_rfl))) ⟨Ex.refl _, rfl⟩)) ?_
                      refine req_cons (.val (.int .i64 (l' : Int))) (by kernel_rfl) (fun vs w1 he hd => StepG.on (g := 6) (d := 107) (x := false) (v := vs 6) (by kernel_rfl) (by kernel_rfl) (at_tmps 107 6 (by kernel_rfl) (by kernel_rfl)) (hd 6 (.val (.bool false)) (by kernel_rfl) (by kernel_rfl)) (gives_move (x := .tmp 6) (by kernel_rfl) (Eq.trans (off_eval 6 (by kernel_rfl)) (by kernel_rfl)) ⟨Ex.refl _, rfl⟩)) ?_
                      refine req_cons (.val (.bool false)) (by kernel_rfl) (fun vs w1 he hd => StepG.on (g := 6) (d := 107) (x := false) (v := vs 6) (by kernel_rfl) (by kernel_rfl) (at_tmps 107 6 (by kernel_rfl) (by kernel_rfl)) (hd 6 (.val (.bool false)) (by kernel_rfl) (by kernel_rfl)) (gives_ltI (t := 3) (k := .i64) (a := (l' : Int)) (b := 32768) (r := false) (x := .tmp 108) (y := .const (.int .i64 32768)) (by kernel_rfl) (Eq.trans (b := vs 7) (at_eval 108 7 (by kernel_rfl) (by kernel_rfl)) (hd 7 (.val (.int .i64 (l' : Int))) (by kernel_rfl) (by kernel_rfl))) (by kernel_rfl) (by simp; omega) ⟨Ex.refl _, rfl⟩)) ?_
                      refine req_cons (.val (.bool false)) (by kernel_rfl) (fun vs w1 he hd => StepG.plain (by kernel_rfl) (gives_pick_f (x := .tmp 107) (y := .const (.bool true)) (z := .tmp 109) (v := .bool false) (by kernel_rfl) (Eq.trans (b := vs 6) (at_eval 107 6 (by kernel_rfl) (by kernel_rfl)) (hd 6 (.val (.bool false)) (by kernel_rfl) (by kernel_rfl))) (Eq.trans (b := vs 8) (at_eval 109 8 (by kernel_rfl) (by kernel_rfl)) (hd 8 (.val (.bool false)) (by kernel_rfl) (by kernel_rfl))) ⟨Ex.refl _, rfl⟩)) ?_
                      refine req_cons (.val (.bool false)) (by kernel_rfl) (fun vs w1 he hd => StepG.plain (by kernel_rfl) (gives_move (x := .tmp 110) (by kernel_rfl) (Eq.trans (b := vs 9) (at_eval 110 9 (by kernel_rfl) (by kernel_rfl)) (hd 9 (.val (.bool false)) (by kernel_rfl) (by kernel_rfl))) ⟨Ex.refl _, rfl⟩)) ?_
                      refine req_cons (.val (.slice ba z bc)) (by kernel_rfl) (fun vs w1 he hd => StepG.on (g := 10) (d := 111) (x := false) (v := vs 10) (by kernel_rfl) (by kernel_rfl) (at_tmps 111 10 (by kernel_rfl) (by kernel_rfl)) (hd 10 (.val (.bool false)) (by kernel_rfl) (by kernel_rfl)) (gives_move (x := .tmp 8) (by kernel_rfl) (Eq.trans (off_eval 8 (by kernel_rfl)) (by kernel_rfl)) ⟨Ex.refl _, rfl⟩)) ?_
                      refine req_cons (.val (.int .i64 (z : Int))) (by kernel_rfl) (fun vs w1 he hd => StepG.on (g := 10) (d := 111) (x := false) (v := vs 10) (by kernel_rfl) (by kernel_rfl) (at_tmps 111 10 (by kernel_rfl) (by kernel_rfl)) (hd 10 (.val (.bool false)) (by kernel_rfl) (by kernel_rfl)) (gives_len (ty := 30) (x := .tmp 112) (n := z) (by kernel_rfl) (Eq.trans (b := vs 11) (at_eval 112 11 (by kernel_rfl) (by kernel_rfl)) (hd 11 (.val (.slice ba z bc)) (by kernel_rfl) (by kernel_rfl))) ⟨_, Try.underlying30⟩ ⟨Ex.refl _, rfl⟩)) ?_
                      refine req_cons (.val (.bool true)) (by kernel_rfl) (fun vs w1 he hd => StepG.on (g := 10) (d := 111) (x := false) (v := vs 10) (by kernel_rfl) (by kernel_rfl) (at_tmps 111 10 (by kernel_rfl) (by kernel_rfl)) (hd 10 (.val (.bool false)) (by kernel_rfl) (by kernel_rfl)) (gives_gtI (t := 3) (k := .i64) (a := (z : Int)) (b := 0) (r := true) (x := .tmp 113) (y := .const (.int .i64 0)) (by kernel_rfl) (Eq.trans (b := vs 12) (at_eval 113 12 (by kernel_rfl) (by kernel_rfl)) (hd 12 (.val (.int .i64 (z : Int))) (by kernel_rfl) (by kernel_rfl))) (by kernel_rfl) (by simp; omega) ⟨Ex.refl _, rfl⟩)) ?_
                      refine req_cons (.val (.bool true)) (by kernel_rfl) (fun vs w1 he hd => StepG.on (g := 10) (d := 111) (x := false) (v := vs 10) (by kernel_rfl) (by kernel_rfl) (at_tmps 111 10 (by kernel_rfl) (by kernel_rfl)) (hd 10 (.val (.bool false)) (by kernel_rfl) (by kernel_rfl)) (gives_move (x := .tmp 114) (by kernel_rfl) (Eq.trans (b := vs 13) (at_eval 114 13 (by kernel_rfl) (by kernel_rfl)) (hd 13 (.val (.bool true)) (by kernel_rfl) (by kernel_rfl))) ⟨Ex.refl _, rfl⟩)) ?_
                      refine req_cons (.val (.slice (some ⟨g3, 0, none⟩) 1 1)) (by kernel_rfl) (fun vs w1 he hd => StepG.on (g := 14) (d := 115) (x := true) (v := vs 14) (by kernel_rfl) (by kernel_rfl) (at_tmps 115 14 (by kernel_rfl) (by kernel_rfl)) (hd 14 (.val (.bool true)) (by kernel_rfl) (by kernel_rfl)) (gives_move (x := .tmp 10) (by kernel_rfl) (Eq.trans (off_eval 10 (by kernel_rfl)) (by kernel_rfl)) ⟨Ex.refl _, rfl⟩)) ?_
                      refine req_cons (.val (.int .i64 1)) (by kernel_rfl) (fun vs w1 he hd => StepG.on (g := 14) (d := 115) (x := true) (v := vs 14) (by kernel_rfl) (by kernel_rfl) (at_tmps 115 14 (by kernel_rfl) (by kernel_rfl)) (hd 14 (.val (.bool true)) (by kernel_rfl) (by kernel_rfl)) (gives_len (ty := 27) (x := .tmp 116) (n := 1) (by kernel_rfl) (Eq.trans (b := vs 15) (at_eval 116 15 (by kernel_rfl) (by kernel_rfl)) (hd 15 (.val (.slice (some ⟨g3, 0, none⟩) 1 1)) (by kernel_rfl) (by kernel_rfl))) ⟨_, Try.underlying27⟩ ⟨Ex.refl _, rfl⟩)) ?_
                      refine req_cons (.val (.bool false)) (by kernel_rfl) (fun vs w1 he hd => StepG.on (g := 14) (d := 115) (x := true) (v := vs 14) (by kernel_rfl) (by kernel_rfl) (at_tmps 115 14 (by kernel_rfl) (by kernel_rfl)) (hd 14 (.val (.bool true)) (by kernel_rfl) (by kernel_rfl)) (gives_neI (t := 3) (k := .i64) (a := 1) (b := 1) (r := false) (x := .tmp 117) (y := .const (.int .i64 1)) (by kernel_rfl) (Eq.trans (b := vs 16) (at_eval 117 16 (by kernel_rfl) (by kernel_rfl)) (hd 16 (.val (.int .i64 1)) (by kernel_rfl) (by kernel_rfl))) (by kernel_rfl) rfl ⟨Ex.refl _, rfl⟩)) ?_
                      refine req_cons (.val (.bool false)) (by kernel_rfl) (fun vs w1 he hd => StepG.on (g := 14) (d := 115) (x := true) (v := vs 14) (by kernel_rfl) (by kernel_rfl) (at_tmps 115 14 (by kernel_rfl) (by kernel_rfl)) (hd 14 (.val (.bool true)) (by kernel_rfl) (by kernel_rfl)) (gives_move (x := .tmp 118) (by kernel_rfl) (Eq.trans (b := vs 17) (at_eval 118 17 (by kernel_rfl) (by kernel_rfl)) (hd 17 (.val (.bool false)) (by kernel_rfl) (by kernel_rfl))) ⟨Ex.refl _, rfl⟩)) ?_
                      refine req_cons (.val (.slice (some ⟨g3, 0, none⟩) 1 1)) (by kernel_rfl) (fun vs w1 he hd => StepG.on (g := 18) (d := 119) (x := false) (v := vs 18) (by kernel_rfl) (by kernel_rfl) (at_tmps 119 18 (by kernel_rfl) (by kernel_rfl)) (hd 18 (.val (.bool false)) (by kernel_rfl) (by kernel_rfl)) (gives_move (x := .tmp 10) (by kernel_rfl) (Eq.trans (off_eval 10 (by kernel_rfl)) (by kernel_rfl)) ⟨Ex.refl _, rfl⟩)) ?_
                      refine req_cons (.val (.pointer (some ⟨g3, 0, none⟩))) (by kernel_rfl) (fun vs w1 he hd => StepG.on (g := 18) (d := 119) (x := false) (v := vs 18) (by kernel_rfl) (by kernel_rfl) (at_tmps 119 18 (by kernel_rfl) (by kernel_rfl)) (hd 18 (.val (.bool false)) (by kernel_rfl) (by kernel_rfl)) (gives_indexE (x := .tmp 120) (y := .const (.int .i64 0)) (by kernel_rfl) (Eq.trans (b := vs 19) (at_eval 120 19 (by kernel_rfl) (by kernel_rfl)) (hd 19 (.val (.slice (some ⟨g3, 0, none⟩) 1 1)) (by kernel_rfl) (by kernel_rfl))) (by kernel_rfl) ⟨Ex.refl _, rfl⟩)) ?_
                      refine req_cons (.val (.pointer (some ⟨g3, 0, none⟩))) (by kernel_rfl) (fun vs w1 he hd => StepG.on (g := 18) (d := 119) (x := false) (v := vs 18) (by kernel_rfl) (by kernel_rfl) (at_tmps 119 18 (by kernel_rfl) (by kernel_rfl)) (hd 18 (.val (.bool false)) (by kernel_rfl) (by kernel_rfl)) (gives_fieldE (x := .tmp 121) (by kernel_rfl) (Eq.trans (b := vs 20) (at_eval 121 20 (by kernel_rfl) (by kernel_rfl)) (hd 20 (.val (.pointer (some ⟨g3, 0, none⟩))) (by kernel_rfl) (by kernel_rfl))) ⟨Ex.refl _, rfl⟩)) ?_
                      refine req_cons (.val (.int .i64 2)) (by kernel_rfl) (fun vs w1 he hd => StepG.on (g := 18) (d := 119) (x := false) (v := vs 18) (by kernel_rfl) (by kernel_rfl) (at_tmps 119 18 (by kernel_rfl) (by kernel_rfl)) (hd 18 (.val (.bool false)) (by kernel_rfl) (by kernel_rfl)) (gives_ldi (x := .tmp 122) (by kernel_rfl) (Eq.trans (b := vs 21) (at_eval 122 21 (by kernel_rfl) (by kernel_rfl)) (hd 21 (.val (.pointer (some ⟨g3, 0, none⟩))) (by kernel_rfl) (by kernel_rfl))) (cell_ex G3C.out he) ⟨Ex.refl _, rfl⟩)) ?_
                      refine req_cons (.val (.bool false)) (by kernel_rfl) (fun vs w1 he hd => StepG.on (g := 18) (d := 119) (x := false) (v := vs 18) (by kernel_rfl) (by kernel_rfl) (at_tmps 119 18 (by kernel_rfl) (by kernel_rfl)) (hd 18 (.val (.bool false)) (by kernel_rfl) (by kernel_rfl)) (gives_neI (t := 3) (k := .i64) (a := 2) (b := 2) (r := false) (x := .tmp 123) (y := .const (.int .i64 2)) (by kernel_rfl) (Eq.trans (b := vs 22) (at_eval 123 22 (by kernel_rfl) (by kernel_rfl)) (hd 22 (.val (.int .i64 2)) (by kernel_rfl) (by kernel_rfl))) (by kernel_rfl) rfl ⟨Ex.refl _, rfl⟩)) ?_
                      refine req_cons (.val (.bool false)) (by kernel_rfl) (fun vs w1 he hd => StepG.on (g := 14) (d := 115) (x := true) (v := vs 14) (by kernel_rfl) (by kernel_rfl) (at_tmps 115 14 (by kernel_rfl) (by kernel_rfl)) (hd 14 (.val (.bool true)) (by kernel_rfl) (by kernel_rfl)) (gives_pick_f (x := .tmp 119) (y := .const (.bool true)) (z := .tmp 124) (v := .bool false) (by kernel_rfl) (Eq.trans (b := vs 18) (at_eval 119 18 (by kernel_rfl) (by kernel_rfl)) (hd 18 (.val (.bool false)) (by kernel_rfl) (by kernel_rfl))) (Eq.trans (b := vs 23) (at_eval 124 23 (by kernel_rfl) (by kernel_rfl)) (hd 23 (.val (.bool false)) (by kernel_rfl) (by kernel_rfl))) ⟨Ex.refl _, rfl⟩)) ?_
                      refine req_cons (.val (.bool false)) (by kernel_rfl) (fun vs w1 he hd => StepG.on (g := 14) (d := 115) (x := true) (v := vs 14) (by kernel_rfl) (by kernel_rfl) (at_tmps 115 14 (by kernel_rfl) (by kernel_rfl)) (hd 14 (.val (.bool true)) (by kernel_rfl) (by kernel_rfl)) (gives_move (x := .tmp 125) (by kernel_rfl) (Eq.trans (b := vs 24) (at_eval 125 24 (by kernel_rfl) (by kernel_rfl)) (hd 24 (.val (.bool false)) (by kernel_rfl) (by kernel_rfl))) ⟨Ex.refl _, rfl⟩)) ?_
                      refine req_cons (.val (.slice (some ⟨g3, 0, none⟩) 1 1)) (by kernel_rfl) (fun vs w1 he hd => StepG.on (g := 25) (d := 126) (x := false) (v := vs 25) (by kernel_rfl) (by kernel_rfl) (at_tmps 126 25 (by kernel_rfl) (by kernel_rfl)) (hd 25 (.val (.bool false)) (by kernel_rfl) (by kernel_rfl)) (gives_move (x := .tmp 10) (by kernel_rfl) (Eq.trans (off_eval 10 (by kernel_rfl)) (by kernel_rfl)) ⟨Ex.refl _, rfl⟩)) ?_
                      refine req_cons (.val (.pointer (some ⟨g3, 0, none⟩))) (by kernel_rfl) (fun vs w1 he hd => StepG.on (g := 25) (d := 126) (x := false) (v := vs 25) (by kernel_rfl) (by kernel_rfl) (at_tmps 126 25 (by kernel_rfl) (by kernel_rfl)) (hd 25 (.val (.bool false)) (by kernel_rfl) (by kernel_rfl)) (gives_indexE (x := .tmp 127) (y := .const (.int .i64 0)) (by kernel_rfl) (Eq.trans (b := vs 26) (at_eval 127 26 (by kernel_rfl) (by kernel_rfl)) (hd 26 (.val (.slice (some ⟨g3, 0, none⟩) 1 1)) (by kernel_rfl) (by kernel_rfl))) (by kernel_rfl) ⟨Ex.refl _, rfl⟩)) ?_
                      refine req_cons (.val (.pointer (some ⟨g3, 2, none⟩))) (by kernel_rfl) (fun vs w1 he hd => StepG.on (g := 25) (d := 126) (x := false) (v := vs 25) (by kernel_rfl) (by kernel_rfl) (at_tmps 126 25 (by kernel_rfl) (by kernel_rfl)) (hd 25 (.val (.bool false)) (by kernel_rfl) (by kernel_rfl)) (gives_fieldE2 (x := .tmp 128) (by kernel_rfl) (Eq.trans (b := vs 27) (at_eval 128 27 (by kernel_rfl) (by kernel_rfl)) (hd 27 (.val (.pointer (some ⟨g3, 0, none⟩))) (by kernel_rfl) (by kernel_rfl))) ⟨Ex.refl _, rfl⟩)) ?_
                      refine req_cons (.val (.slice ya z yc)) (by kernel_rfl) (fun vs w1 he hd => StepG.on (g := 25) (d := 126) (x := false) (v := vs 25) (by kernel_rfl) (by kernel_rfl) (at_tmps 126 25 (by kernel_rfl) (by kernel_rfl)) (hd 25 (.val (.bool false)) (by kernel_rfl) (by kernel_rfl)) (gives_ldb (x := .tmp 129) (by kernel_rfl) (Eq.trans (b := vs 28) (at_eval 129 28 (by kernel_rfl) (by kernel_rfl)) (hd 28 (.val (.pointer (some ⟨g3, 2, none⟩))) (by kernel_rfl) (by kernel_rfl))) (cell_ex G5C.out he) ⟨Ex.refl _, rfl⟩)) ?_
                      refine req_cons (.val (.string ⟨(List.toArray B)⟩)) (by kernel_rfl) (fun vs w1 he hd => StepG.on (g := 25) (d := 126) (x := false) (v := vs 25) (by kernel_rfl) (by kernel_rfl) (at_tmps 126 25 (by kernel_rfl) (by kernel_rfl)) (hd 25 (.val (.bool false)) (by kernel_rfl) (by kernel_rfl)) (gives_str (x := .tmp 130) (v := (.slice ya z yc)) (xs := B) (by kernel_rfl) (Eq.trans (b := vs 29) (at_eval 130 29 (by kernel_rfl) (by kernel_rfl)) (hd 29 (.val (.slice ya z yc)) (by kernel_rfl) (by kernel_rfl))) (G3B.out.fresh he) ⟨Ex.refl _, rfl⟩)) ?_
                      refine req_cons (.val (.slice ba z bc)) (by kernel_rfl) (fun vs w1 he hd => StepG.on (g := 25) (d := 126) (x := false) (v := vs 25) (by kernel_rfl) (by kernel_rfl) (at_tmps 126 25 (by kernel_rfl) (by kernel_rfl)) (hd 25 (.val (.bool false)) (by kernel_rfl) (by kernel_rfl)) (gives_move (x := .tmp 8) (by kernel_rfl) (Eq.trans (off_eval 8 (by kernel_rfl)) (by kernel_rfl)) ⟨Ex.refl _, rfl⟩)) ?_
                      refine req_cons (.val (.string ⟨(List.toArray B)⟩)) (by kernel_rfl) (fun vs w1 he hd => StepG.on (g := 25) (d := 126) (x := false) (v := vs 25) (by kernel_rfl) (by kernel_rfl) (at_tmps 126 25 (by kernel_rfl) (by kernel_rfl)) (hd 25 (.val (.bool false)) (by kernel_rfl) (by kernel_rfl)) (gives_str (x := .tmp 132) (v := (.slice ba z bc)) (xs := B) (by kernel_rfl) (Eq.trans (b := vs 31) (at_eval 132 31 (by kernel_rfl) (by kernel_rfl)) (hd 31 (.val (.slice ba z bc)) (by kernel_rfl) (by kernel_rfl))) (HBw.out.fresh he) ⟨Ex.refl _, rfl⟩)) ?_
                      refine req_cons (.val (.bool false)) (by kernel_rfl) (fun vs w1 he hd => StepG.on (g := 25) (d := 126) (x := false) (v := vs 25) (by kernel_rfl) (by kernel_rfl) (at_tmps 126 25 (by kernel_rfl) (by kernel_rfl)) (hd 25 (.val (.bool false)) (by kernel_rfl) (by kernel_rfl)) (gives_neS (x := .tmp 131) (y := .tmp 133) (xs := B) (ys := B) (r := false) (by kernel_rfl) (Eq.trans (b := vs 30) (at_eval 131 30 (by kernel_rfl) (by kernel_rfl)) (hd 30 (.val (.string ⟨(List.toArray B)⟩)) (by kernel_rfl) (by kernel_rfl))) (Eq.trans (b := vs 32) (at_eval 133 32 (by kernel_rfl) (by kernel_rfl)) (hd 32 (.val (.string ⟨(List.toArray B)⟩)) (by kernel_rfl) (by kernel_rfl))) (by simp) ⟨Ex.refl _, rfl⟩)) ?_
                      refine req_cons (.val (.bool false)) (by kernel_rfl) (fun vs w1 he hd => StepG.on (g := 14) (d := 115) (x := true) (v := vs 14) (by kernel_rfl) (by kernel_rfl) (at_tmps 115 14 (by kernel_rfl) (by kernel_rfl)) (hd 14 (.val (.bool true)) (by kernel_rfl) (by kernel_rfl)) (gives_pick_f (x := .tmp 126) (y := .const (.bool true)) (z := .tmp 134) (v := .bool false) (by kernel_rfl) (Eq.trans (b := vs 25) (at_eval 126 25 (by kernel_rfl) (by kernel_rfl)) (hd 25 (.val (.bool false)) (by kernel_rfl) (by kernel_rfl))) (Eq.trans (b := vs 33) (at_eval 134 33 (by kernel_rfl) (by kernel_rfl)) (hd 33 (.val (.bool false)) (by kernel_rfl) (by kernel_rfl))) ⟨Ex.refl _, rfl⟩)) ?_
                      refine req_cons (.val (.bool false)) (by kernel_rfl) (fun vs w1 he hd => StepG.on (g := 10) (d := 111) (x := false) (v := vs 10) (by kernel_rfl) (by kernel_rfl) (at_tmps 111 10 (by kernel_rfl) (by kernel_rfl)) (hd 10 (.val (.bool false)) (by kernel_rfl) (by kernel_rfl)) (gives_pick_t (x := .tmp 115) (y := .tmp 135) (z := .const (.bool false)) (v := .bool false) (by kernel_rfl) (Eq.trans (b := vs 14) (at_eval 115 14 (by kernel_rfl) (by kernel_rfl)) (hd 14 (.val (.bool true)) (by kernel_rfl) (by kernel_rfl))) (Eq.trans (b := vs 34) (at_eval 135 34 (by kernel_rfl) (by kernel_rfl)) (hd 34 (.val (.bool false)) (by kernel_rfl) (by kernel_rfl))) ⟨Ex.refl _, rfl⟩)) ?_
                      refine req_cons (.val (.bool false)) (by kernel_rfl) (fun vs w1 he hd => StepG.plain (by kernel_rfl) (gives_pick_f (x := .tmp 111) (y := .const (.bool true)) (z := .tmp 136) (v := .bool false) (by kernel_rfl) (Eq.trans (b := vs 10) (at_eval 111 10 (by kernel_rfl) (by kernel_rfl)) (hd 10 (.val (.bool false)) (by kernel_rfl) (by kernel_rfl))) (Eq.trans (b := vs 35) (at_eval 136 35 (by kernel_rfl) (by kernel_rfl)) (hd 35 (.val (.bool false)) (by kernel_rfl) (by kernel_rfl))) ⟨Ex.refl _, rfl⟩)) ?_
                      refine req_cons (.val (.bool false)) (by kernel_rfl) (fun vs w1 he hd => StepG.plain (by kernel_rfl) (gives_move (x := .tmp 137) (by kernel_rfl) (Eq.trans (b := vs 36) (at_eval 137 36 (by kernel_rfl) (by kernel_rfl)) (hd 36 (.val (.bool false)) (by kernel_rfl) (by kernel_rfl))) ⟨Ex.refl _, rfl⟩)) ?_
                      refine req_cons (.val (.slice ba z bc)) (by kernel_rfl) (fun vs w1 he hd => StepG.on (g := 37) (d := 138) (x := false) (v := vs 37) (by kernel_rfl) (by kernel_rfl) (at_tmps 138 37 (by kernel_rfl) (by kernel_rfl)) (hd 37 (.val (.bool false)) (by kernel_rfl) (by kernel_rfl)) (gives_move (x := .tmp 8) (by kernel_rfl) (Eq.trans (off_eval 8 (by kernel_rfl)) (by kernel_rfl)) ⟨Ex.refl _, rfl⟩)) ?_
                      refine req_cons (.val (.int .i64 (z : Int))) (by kernel_rfl) (fun vs w1 he hd => StepG.on (g := 37) (d := 138) (x := false) (v := vs 37) (by kernel_rfl) (by kernel_rfl) (at_tmps 138 37 (by kernel_rfl) (by kernel_rfl)) (hd 37 (.val (.bool false)) (by kernel_rfl) (by kernel_rfl)) (gives_len (ty := 30) (x := .tmp 139) (n := z) (by kernel_rfl) (Eq.trans (b := vs 38) (at_eval 139 38 (by kernel_rfl) (by kernel_rfl)) (hd 38 (.val (.slice ba z bc)) (by kernel_rfl) (by kernel_rfl))) ⟨_, Try.underlying30⟩ ⟨Ex.refl _, rfl⟩)) ?_
                      refine req_cons (.val (.bool false)) (by kernel_rfl) (fun vs w1 he hd => StepG.on (g := 37) (d := 138) (x := false) (v := vs 37) (by kernel_rfl) (by kernel_rfl) (at_tmps 138 37 (by kernel_rfl) (by kernel_rfl)) (hd 37 (.val (.bool false)) (by kernel_rfl) (by kernel_rfl)) (gives_eqI (t := 3) (k := .i64) (a := (z : Int)) (b := 0) (r := false) (x := .tmp 140) (y := .const (.int .i64 0)) (by kernel_rfl) (Eq.trans (b := vs 39) (at_eval 140 39 (by kernel_rfl) (by kernel_rfl)) (hd 39 (.val (.int .i64 (z : Int))) (by kernel_rfl) (by kernel_rfl))) (by kernel_rfl) (by simp; omega) ⟨Ex.refl _, rfl⟩)) ?_
                      refine req_cons (.val (.bool false)) (by kernel_rfl) (fun vs w1 he hd => StepG.on (g := 37) (d := 138) (x := false) (v := vs 37) (by kernel_rfl) (by kernel_rfl) (at_tmps 138 37 (by kernel_rfl) (by kernel_rfl)) (hd 37 (.val (.bool false)) (by kernel_rfl) (by kernel_rfl)) (gives_move (x := .tmp 141) (by kernel_rfl) (Eq.trans (b := vs 40) (at_eval 141 40 (by kernel_rfl) (by kernel_rfl)) (hd 40 (.val (.bool false)) (by kernel_rfl) (by kernel_rfl))) ⟨Ex.refl _, rfl⟩)) ?_
                      refine req_cons (.val undef) (by kernel_rfl) (fun vs w1 he hd => StepG.off (g := 41) (d := 142) (x := true) (v := vs 41) (by kernel_rfl) (by kernel_rfl) (at_tmps 142 41 (by kernel_rfl) (by kernel_rfl)) (.inl (hd 41 (.val (.bool false)) (by kernel_rfl) (by kernel_rfl))) ⟨Ex.refl _, rfl⟩) ?_
                      refine req_cons (.val undef) (by kernel_rfl) (fun vs w1 he hd => StepG.off (g := 41) (d := 142) (x := true) (v := vs 41) (by kernel_rfl) (by kernel_rfl) (at_tmps 142 41 (by kernel_rfl) (by kernel_rfl)) (.inl (hd 41 (.val (.bool false)) (by kernel_rfl) (by kernel_rfl))) ⟨Ex.refl _, rfl⟩) ?_
                      refine req_cons (.val undef) (by kernel_rfl) (fun vs w1 he hd => StepG.off (g := 41) (d := 142) (x := true) (v := vs 41) (by kernel_rfl) (by kernel_rfl) (at_tmps 142 41 (by kernel_rfl) (by kernel_rfl)) (.inl (hd 41 (.val (.bool false)) (by kernel_rfl) (by kernel_rfl))) ⟨Ex.refl _, rfl⟩) ?_
                      refine req_cons (.val (.bool false)) (by kernel_rfl) (fun vs w1 he hd => StepG.on (g := 37) (d := 138) (x := false) (v := vs 37) (by kernel_rfl) (by kernel_rfl) (at_tmps 138 37 (by kernel_rfl) (by kernel_rfl)) (hd 37 (.val (.bool false)) (by kernel_rfl) (by kernel_rfl)) (gives_pick_f (x := .tmp 142) (y := .tmp 145) (z := .const (.bool false)) (v := .bool false) (by kernel_rfl) (Eq.trans (b := vs 41) (at_eval 142 41 (by kernel_rfl) (by kernel_rfl)) (hd 41 (.val (.bool false)) (by kernel_rfl) (by kernel_rfl))) (by kernel_rfl) ⟨Ex.refl _, rfl⟩)) ?_
                      refine req_cons (.val (.bool false)) (by kernel_rfl) (fun vs w1 he hd => StepG.plain (by kernel_rfl) (gives_pick_f (x := .tmp 138) (y := .const (.bool true)) (z := .tmp 146) (v := .bool false) (by kernel_rfl) (Eq.trans (b := vs 37) (at_eval 138 37 (by kernel_rfl) (by kernel_rfl)) (hd 37 (.val (.bool false)) (by kernel_rfl) (by kernel_rfl))) (Eq.trans (b := vs 45) (at_eval 146 45 (by kernel_rfl) (by kernel_rfl)) (hd 45 (.val (.bool false)) (by kernel_rfl) (by kernel_rfl))) ⟨Ex.refl _, rfl⟩)) req_nil
                    · intro vs w7 he hF
                      have hz46 : vs 46 = .bool false := told_at hF 46 (.val (.bool false)) (by decide) (by kernel_rfl)
                      have HI7 := hidden (HIw.out.fresh he)
                      simp only [List.length_cons, List.length_nil, Nat.zero_add, Nat.reduceAdd, actsTo, if_true, dstOf, List.getElem?_toArray, List.getElem?_cons_succ, List.getElem?_cons_zero, Option.bind_some, Act.put, List.setIfInBounds_toArray, List.set_cons_zero, List.set_cons_succ]
                      rw [hz46]
                      clear hF he hz46 HIw
                      go_wp2_with fail
                      go_roundw
                      case rel => exact ⟨j + 1, l', by omega, by go_num, rfl, hl1', hl2', HI7.out⟩
                      case measure => simp [intOf]; omega
        · have i2 : ¬ (j : Int) < 20 := by omega
          go_wp2_with fail
          refine (HK.out _).mono ?_
          rintro e w7 ⟨rfl, hb7⟩
          have HB7 := hidden (HI.out.below.trans (hb7.mono HI.out.below.size))
          clear hb7
          go_wp2_with fail
          go_ret
          exact ⟨rfl, HB7.out⟩
      · have i3 : ¬ (j : Int) < (zs.length : Int) := by omega
        go_wp2_with fail
        refine (HK.out _).mono ?_
        rintro e w7 ⟨rfl, hb7⟩
        have HB7 := hidden (HI.out.below.trans (hb7.mono HI.out.below.size))
        clear hb7
        go_wp2_with fail
        go_ret
        exact ⟨rfl, HB7.out⟩
    · have i1 : ¬ (j : Int) < (ps.length : Int) := by omega
      go_wp2_with fail
      refine (HK.out _).mono ?_
      rintro e w7 ⟨rfl, hb7⟩
      have HB7 := hidden (HI.out.below.trans (hb7.mono HI.out.below.size))
      clear hb7
      go_wp2_with fail
      go_ret
      exact ⟨rfl, HB7.out⟩
end Go.Proofs.Ytnimdbjbkoggdaa
