/- The walk of ChansFlows: what is sent goes, byte for byte, in its order, in pieces that the other side lets by. -/
import Derived.Test.YtnimdbjbkoggdaaCnZb
namespace Go.Proofs.Ytnimdbjbkoggdaa
open Go Go.RowKit

set_option maxHeartbeats 6400000 in
set_option maxRecDepth 100000 in
theorem chansFlows_c (wn ms : Int) (u : Value) (ps : List (List UInt8)) (v : Value) (zs : List Int) (w : World) (hu : LSl w u ps) (hv : IntS w v zs) :
    Calls Try.prog 3 #[.int .i64 wn, .int .i64 ms, u, v] w fun e w' => e = .returned (.bool true) ∧ Below w.heap.size w w' := by
  have HA := hidden hu
  have HZ := hidden hv
  obtain ⟨ua, uc, rfl, huc, hum, _⟩ := id hu
  obtain ⟨va, vc, rfl, hvc, hvm, _⟩ := id hv
  unfold maxLen at hum hvm
  have HK : Hid (∀ w1, Calls Try.prog 19 #[] w1 fun e w' => e = .returned (.bool true) ∧ Below w1.heap.size w1 w') := hidden known_c
  clear hu hv
  go_enter Try.func3, Try.ntmps3
  go_wp2_with fail
  refine (within_c wn 500 (by omega) w).mono ?_
  rintro e w0 ⟨win, rfl, hwin, rfl⟩
  go_wp2_with fail
  refine (within_c ms 99 (by omega) w0).mono ?_
  rintro e w0 ⟨m1, rfl, hm1, rfl⟩
  go_wp2_with fail
  rw [show (1 : Int) + (m1 : Int) = ((1 + m1 : Nat) : Int) by omega]
  obtain ⟨most, hmo⟩ : ∃ most, most = 1 + m1 := ⟨_, rfl⟩
  rw [← hmo]
  have hm2 : 1 ≤ most := by omega
  have hm3 : most ≤ 100 := by omega
  clear hmo hm1
  refine (New_c w0).mono ?_
  rintro e w1 ⟨rfl, hn1, hb1⟩
  obtain ⟨a, ha⟩ : ∃ a, a = w0.heap.size := ⟨_, rfl⟩
  rw [← ha] at hn1 ⊢
  have HI0 : Hid (MI w0 w1 (fun _ => False) a newM) := hidden ⟨hn1, by omega, fun k h => h.elim, hb1⟩
  clear hn1 hb1 ha
  have HB0 : Hid (∀ x : World, BSl (x.alloc (.cells #[.int .u8 90] 5)) (.slice (some ⟨x.heap.size, 0, none⟩) 1 1) [90]) := hidden fun x => BSl.ofBlock (xs := [90]) (heap_alloc_new x _) (by simp)
  go_wp2_with fail
  have hal : Below w1.heap.size w1 (w1.alloc (.cells #[.int .u8 90] 5)) := (Below.refl _ _).alloc (Nat.le_refl _) _
  have HI1 := hidden (HI0.out.fresh hal)
  refine (rtext_c ⟨#[115, 101, 115, 115, 105, 111, 110]⟩ (by decide) _ [90] _ (HB0.out w1) (by decide)).mono ?_
  clear hal HI0
  generalize w1.alloc (.cells #[.int .u8 90] 5) = w2 at *
  rintro e w3 ⟨v3, rfl, ho3, hb3⟩
  have HI3 := hidden (HI1.out.fresh hb3)
  have HB3 := hidden (BSl.ofRow ho3)
  clear ho3 hb3 HI1
  go_wp2_with fail
  have hal : Below w3.heap.size w3 (w3.alloc (.cells #[.int .u32 5, .int .u32 win, .int .u32 most] 33)) := (Below.refl _ _).alloc (Nat.le_refl _) _
  have hns : NSl (w3.alloc (.cells #[.int .u32 5, .int .u32 win, .int .u32 most] 33)) (.slice (some ⟨w3.heap.size, 0, none⟩) 3 3) [5, win, most] := ⟨_, rfl, heap_alloc_new w3 _⟩
  have HI4 := hidden (HI3.out.fresh hal)
  have HB4 := hidden (HB3.out.fresh hal)
  clear hal HI3 HB3
  generalize w3.alloc (.cells #[.int .u32 5, .int .u32 win, .int .u32 most] 33) = w4 at *
  refine (lu32_c v3 _ _ [5, win, most] w4 HB4.out hns (by intro j hj; match j, hj with | 0, _ => exact (by decide : (5 : Nat) ≤ 4294967295) | 1, _ => exact (by omega : win ≤ 4294967295) | 2, _ => exact (by omega : most ≤ 4294967295)) (by simp) (by simp) (by decide)).mono ?_
  rintro e w5 ⟨v5, rfl, ho5, hb5⟩
  have HI5 := hidden (HI4.out.fresh hb5)
  have hbs5 := BSl.ofRow ho5
  have hlen5 : ([90] ++ textBytes (⟨#[115, 101, 115, 115, 105, 111, 110]⟩ : ByteArray).data.toList ++ numsL [5, win, most]).length ≤ 1000000 := by simp [numsL_len, textBytes, be_length]
  have HDO := hidden (Do_c v5 _ w5 HI5.out.m (okM_new 0) (by omega) hbs5 hlen5)
  rw [show [90] ++ textBytes (⟨#[115, 101, 115, 115, 105, 111, 110]⟩ : ByteArray).data.toList ++ numsL [5, win, most] = openP sesB 5 win most from rfl, take_flow_open win most hwin hm2 hm3] at HDO
  clear ho5 hb5 hbs5 hlen5 hns HI4 HB4
  go_wp2_with fail
  refine HDO.out.mono ?_
  rintro e w6 ⟨u1, u2, rfl, _, _, hm6, hk6⟩
  have HI6 := hidden (HI5.out.done hm6 hk6)
  clear hm6 hk6 HDO HI5
  go_wp2_with fail
  go_loopw [10, 11, 12, 13] (fun tl ts tg ti wr => ∃ (j wl : Nat) (G W : List UInt8) (P : Nat → Prop), j ≤ ps.length ∧ ti = .int .i64 (j : Int) ∧ tl = .int .i64 (wl : Int) ∧ ts = .string (strB (G ++ W)) ∧ tg = .string (strB G) ∧ wl ≤ 500 + 300 * j ∧ (G ++ W).length ≤ 200 * j ∧ j ≤ 10 ∧ MI w0 wr P a (fS wl most W)) (fun _ _ _ ti _ => ps.length - (intOf ti).toNat)
  case atStart => exact ⟨0, win, [], [], _, by omega, rfl, rfl, rfl, rfl, by omega, by simp, by omega, HI6.out⟩
  case round =>
    obtain ⟨j, wl, G, W, P, hj, rfl, rfl, rfl, rfl, hwl, hGW, hj10, hmi⟩ := hrel
    have HI := hidden hmi
    clear hmi HI6
    by_cases hlt : j < ps.length
    · have i1 : (j : Int) < (ps.length : Int) := by omega
      by_cases h10 : j < 10
      · have i2 : (j : Int) < 10 := by omega
        obtain ⟨bp, op, xv, rfl, kp0, hb0⟩ := HA.out.at j hlt
        have kp := (Keeps.ofFresh (S := fun _ => False) HI.out.below).cell kp0 (fun h => h)
        have hbs := hb0.fresh HI.out.below
        have HOW := hidden (fun hx => hb0.ltE hx)
        generalize ps.getD j [] = X at hb0 hbs HOW
        obtain ⟨xa, xc, exv⟩ := hbs.len
        subst exv
        have HBS := hidden hbs
        clear kp0 hb0 hbs
        go_wp2_with fail
        refine (cut_c 200 (by omega) _ X wr HBS.out).mono ?_
        rintro e wc ⟨bv, rfl, hbc, hbo, rfl⟩
        have HBO := hidden hbo
        have hbl : (X.take 200).length ≤ 200 := by rw [List.length_take]; omega
        have HOX : Hid (X.take 200 ≠ [] → ∀ k, bv.ownBlock = some k → k < w0.heap.size) := hidden fun hx k e => HOW.out (fun e2 => hx (by rw [e2]; rfl)) k (HBO.out ▸ e)
        generalize X.take 200 = b at hbc hbl HOX
        obtain ⟨ba, bc, ebv⟩ := hbc.len
        subst ebv
        have hWl : W.length ≤ 2000 := by rw [List.length_append] at hGW; omega
        obtain ⟨qs, hsq, hfl⟩ := send_flow wl most W b hm2
        have HSE := hidden (Send_c 0 _ b wc HI.out.m (fS_ok 2000 wl most W hWl (by omega) hm2 (by omega)) (by omega) hbc (fun _ => by omega))
        rw [hsq] at HSE
        have hst := step_send hfl
        generalize List.take (min (W ++ b).length wl) (W ++ b) = Y at hst
        generalize List.drop (min (W ++ b).length wl) (W ++ b) = V at hst HSE
        generalize wl - min (W ++ b).length wl = wl1 at hst HSE
        have hll : qs.length ≤ 2200 := by
          have h1 := hst.fl.count
          have h2 := congrArg List.length hst.all
          simp only [List.length_append] at h2
          omega
        have HST := hidden hst
        have HBC := hidden hbc
        clear hbc hsq hfl hbo HBO HOW HBS kp hst
        go_wp2_with fail
        refine HSE.out.mono ?_
        rintro e w7 ⟨uo, P1, B1, rfl, hB1, hls, hm7, hP1, hPB, hk7⟩
        dsimp only at hls hm7
        have HI7 := hidden (HI.out.sent hm7 hP1 hk7)
        have HB7 := hidden (HBC.out.keepE hk7 (fun hx k e hs => by
          have h1 := HOX.out hx k e
          rcases hs with h2 | h2
          · have := HI.out.ge; omega
          · have := HI.out.pg k h2; omega))
        have hrun : (convert 30 9 (.slice ba b.length bc)).run Try.prog w7 = .ok (.string (strB b)) w7 := run_string HB7.out
        have ha7 := HI7.out.m.aLt
        have haB : a < B1 := Nat.lt_of_lt_of_le HI.out.m.aLt hB1
        have HLS := hidden hls
        have HPB := hidden hPB
        obtain ⟨uoa, uoc, euo⟩ := hls.shape
        subst euo
        rw [List.length_map] at HLS ⊢
        dsimp only
        rw [show ((0 : Nat) : Int) = 0 from rfl]
        clear hls hm7 hP1 hPB hk7 HSE HBC HOX HI
        have hcat : ¬ (9223372036854775807 < (strB (G ++ W)).size + (strB b).size) := by rw [strB_size, strB_size]; omega
        go_upto_if 74 with fail
        rw [strB_app, List.append_assoc]
        clear hcat hrun
        go_cut [10, 15, 17, 18, 19] from 71 to 95 (fun tl tu _ _ _ wx => ∃ (wl2 L : Nat) (Y2 V2 : List UInt8) (rs : List (List UInt8)) (P2 : Nat → Prop), tl = .int .i64 (L : Int) ∧ L ≤ wl + 300 ∧ Step most (W ++ b) Y2 V2 L wl2 rs ∧ LSl wx tu (rs.map (datL 5)) ∧ MI w0 wx P2 a (fS wl2 most V2))
        case first =>
          by_cases hlz : j < zs.length
          · have i3 : (j : Int) < (zs.length : Int) := by omega
            obtain ⟨bq, oq, rfl, kq⟩ := HZ.out.at HI7.out.below j hlz
            generalize zs[j] = zz at kq
            go_wp2_with fail
            refine (within_c zz 300 (by omega) w7).mono ?_
            rintro e wz ⟨nm, rfl, hnm, rfl⟩
            have HB9 : Hid (∀ x : World, BSl (x.alloc (.cells #[.int .u8 93] 5)) (.slice (some ⟨x.heap.size, 0, none⟩) 1 1) [93]) := hidden fun x => BSl.ofBlock (xs := [93]) (heap_alloc_new x _) (by simp)
            go_wp2_with fail
            have hal : Below wz.heap.size wz (wz.alloc (.cells #[.int .u8 93] 5)) := (Below.refl _ _).alloc (Nat.le_refl _) _
            have hb9 := HB9.out wz
            obtain ⟨g9, hg9⟩ : ∃ g, g = wz.heap.size := ⟨_, rfl⟩
            rw [← hg9] at hb9 ⊢
            have hs9 : (wz.alloc (.cells #[.int .u8 93] 5)).heap.size = g9 + 1 := by rw [hg9]; simp
            rw [← hs9]
            have hI8 := HI7.out.fresh hal
            have hl8 := HLS.out.keep (Keeps.ofFresh (S := fun _ => False) hal) (fun _ h => h.elim)
            have HI7 := HI7.out
            clear hs9 hg9 hal HLS HB9
            generalize wz.alloc (.cells #[.int .u8 93] 5) = w8 at *
            have hal : Below w8.heap.size w8 (w8.alloc (.cells #[.int .u32 0, .int .u32 nm] 33)) := (Below.refl _ _).alloc (Nat.le_refl _) _
            have hns : NSl (w8.alloc (.cells #[.int .u32 0, .int .u32 nm] 33)) (.slice (some ⟨w8.heap.size, 0, none⟩) 2 2) [0, nm] := ⟨_, rfl, heap_alloc_new w8 _⟩
            have HI9 := hidden (hI8.fresh hal)
            have HL9 := hidden (hl8.keep (Keeps.ofFresh (S := fun _ => False) hal) (fun _ h => h.elim))
            have HB9 := hidden (hb9.fresh hal)
            clear hal hI8 hl8 hb9
            generalize w8.alloc (.cells #[.int .u32 0, .int .u32 nm] 33) = w9 at *
            refine (lu32_c _ _ [93] [0, nm] w9 HB9.out hns (by intro j hj; match j, hj with | 0, _ => exact (by decide : (0 : Nat) ≤ 4294967295) | 1, _ => exact (by omega : nm ≤ 4294967295)) (by simp) (by simp) (by simp)).mono ?_
            rintro e wt ⟨vt, rfl, hot, hbt⟩
            have HIt := hidden (HI9.out.fresh hbt)
            have HLt := hidden (HL9.out.keep (Keeps.ofFresh (S := fun _ => False) hbt) (fun _ h => h.elim))
            have hbst := BSl.ofRow hot
            have hV : V.length ≤ 2200 := by
              have h2 := congrArg List.length HST.out.all
              simp only [List.length_append] at h2
              rw [List.length_append] at hGW
              omega
            have hwl1 : wl1 ≤ wl := by have := HST.out.left; omega
            have HDO := hidden (Do_c vt _ wt HIt.out.m (fS_ok 3000 wl1 most V (by omega) (by omega) hm2 (by omega)) (by omega) hbst (by simp [numsL_len]))
            obtain ⟨qr, hmq, hfr⟩ := more_flow wl1 most V nm hm2 (by omega)
            rw [show [93] ++ numsL [0, nm] = mP nm from rfl, hmq] at HDO
            have HS2 := hidden (step_more HST.out hfr)
            clear hot hbt hbst hns HI9 HL9 HB9 hmq hfr
            go_wp2_with fail
            refine HDO.out.mono ?_
            rintro e wd ⟨uy, uz, rfl, hly, _, hmd, hkd⟩
            dsimp only at hly hmd
            have hlu := HLt.out.keep hkd (fun k e => by rw [e]; exact haB)
            have hId := HIt.out.done hmd hkd
            have hB0 : w0.heap.size ≤ B1 := by have := HI7.ge; omega
            have hcnt : (qs.map (datL 5)).length + (qr.map (datL 5)).length ≤ 100000 := by
              have h1 := HS2.out.fl.count
              have h2 := congrArg List.length HS2.out.all
              simp only [List.length_append, List.length_map] at h1 h2 ⊢
              rw [List.length_append] at hGW
              omega
            obtain ⟨va2, wa2, hra, hla, hka⟩ := append_lst (hlu.mono hB0) hly hId.below.size (fun k e => (HLt.out.lt k e).2) hcnt 22
            have HIa := hidden (hId.turned hka (fun k e => by
              have h1 := (hlu.lt k e).1
              refine ⟨by omega, by omega, fun hp => ?_⟩
              have := HPB.out k hp
              omega))
            have HLA := hidden hla
            have HRA := hidden hra
            obtain ⟨ya, yc, eya⟩ := hly.shape
            subst eya
            rw [List.length_map] at HRA ⊢
            clear hlu hly hmd hkd hId hra hla hka hcnt HLt HIt HDO HPB
            go_wp2_with (at_builtin; refine wpList_append_run rfl (.tmp 93) (.tmp 94) 22 22 rfl _ _ _ wa2 rfl rfl HRA.out ?_)
            go_meet
            case rel => exact ⟨_, wl + nm, _, _, qs ++ qr, P1, by go_num, by omega, HS2.out, by rw [List.map_append]; exact HLA.out, HIa.out⟩
          · have i3 : ¬ (j : Int) < (zs.length : Int) := by omega
            go_wp2_with fail
            go_meet
            case rel => exact ⟨wl1, wl, Y, V, qs, P1, rfl, by omega, HST.out, HLS.out.lsl, HI7.out⟩
        case rest =>
          obtain ⟨wl2, L, Y2, V2, rs, P2, rfl, hL, hst2, hls2, hmi2⟩ := hcut
          have HST2 := hidden hst2
          have HLS2 := hidden hls2
          have HM2 := hidden hmi2
          obtain ⟨oa, oc, eou, hoc1, hoc2⟩ := hls2.shape
          subst eou
          rw [List.length_map] at HLS2 hoc1 ⊢
          unfold maxLen at hoc2
          have hrs : rs.length ≤ 2200 := by
            have h1 := hst2.fl.count
            have h2 := congrArg List.length hst2.all
            simp only [List.length_append] at h2
            rw [List.length_append] at hGW
            omega
          clear hst2 hls2 hmi2 HST HLS HI7 HPB HB7
          go_wp2_with fail
          go_loopw [10, 12, 20] (fun tl tg tk wr => ∃ k : Nat, k ≤ rs.length ∧ tk = .int .i64 (k : Int) ∧ tl = .int .i64 ((L - (rs.take k).flatten.length : Nat) : Int) ∧ tg = .string (strB (G ++ (rs.take k).flatten)) ∧ Below wc.heap.size wc wr) (fun _ _ tk _ => rs.length - (intOf tk).toNat)
          case atStart => exact ⟨0, by omega, rfl, by simp, by simp, Below.refl _ _⟩
          case round =>
            obtain ⟨k, hk, rfl, rfl, rfl, hbl⟩ := hrel
            have HBL := hidden hbl
            clear hbl
            by_cases hkn : k < rs.length
            · have i3 : (k : Int) < (rs.length : Int) := by omega
              obtain ⟨bo, oo, x, rfl, kc0, hbx0⟩ := HLS2.out.at k (by rw [List.length_map]; exact hkn)
              have kc := (Keeps.ofFresh (S := fun _ => False) HBL.out).cell kc0 (fun h => h)
              have hbx := hbx0.fresh HBL.out
              have hgq : (rs.map (datL 5)).getD k [] = datL 5 rs[k] := by simp [hkn]
              rw [hgq] at hbx
              obtain ⟨hq0, hqm⟩ := HST2.out.fl.2 rs[k] (List.getElem_mem hkn)
              have hfn := flat_next rs k hkn
              have hfl1 := flat_le rs (k + 1)
              rw [HST2.out.fl.1, hfn, List.length_append] at hfl1
              have hfl2 : Y2.length ≤ L := by have := HST2.out.left; omega
              have hfl3 := congrArg List.length HST2.out.all
              simp only [List.length_append] at hfl3
              generalize rs[k] = q at hbx hgq hq0 hqm hfn hfl1
              generalize hF : (rs.take k).flatten = F at hfn hfl1
              obtain ⟨nq, hnq⟩ : ∃ nq, nq = q.length := ⟨_, rfl⟩
              have hqs : (strB q).size = nq := by rw [hnq]; exact strB_size q
              obtain ⟨lk, hlk⟩ : ∃ lk, lk = L - F.length := ⟨_, rfl⟩
              have hql : nq ≤ lk := by omega
              have hfl4 : F.length ≤ 2200 := by rw [List.length_append] at hGW; omega
              rw [← hlk]
              have t0 : ¬ nq = 0 := by omega
              have t1 : (((nq : Nat) : Int) == 0) = false := by simp; omega
              have t2 : ¬ lk < nq := by omega
              have HLK : Hid (((lk - nq : Nat) : Int) = ((L - (F ++ q).length : Nat) : Int)) := hidden (by rw [List.length_append]; congr 1; omega)
              have HNQ := hidden hnq
              have hlkm : lk ≤ 10000 := by omega
              have hcat : ¬ (9223372036854775807 < (strB (G ++ F)).size + nq) := by rw [strB_size, List.length_append]; rw [List.length_append] at hGW; omega
              have HFN := hidden hfn
              clear hlk hfn hnq
              obtain ⟨r1, r2, r3, r4⟩ := dat_read q most hqm (by omega)
              have hdl := datL_len 5 q
              have hqo := hbx.ltE (fun h => by rw [h] at hdl; simp at hdl; omega)
              generalize hM : datL 5 q = M at *
              obtain ⟨xa, xc, ex⟩ := hbx.len
              subst ex
              obtain ⟨ml, hml⟩ : ∃ ml, ml = M.length := ⟨_, rfl⟩
              rw [← hml] at r3 r4 hbx hqo kc
              have HQ0 := hidden (QR.make hbx (by omega) hqo)
              have hbox : Below wc.heap.size wc (wr.alloc (.cells #[.slice xa ml xc, .int .i64 0, .bool false, .int .i64 0, .int .i64 0] 40)) := HBL.out.alloc HBL.out.size _
              have HBX := hidden hbox
              have hc5 := HBL.out.size
              clear hM hgq hdl hbx0 kc0 hbx hqo hml hbox hfl1 hfl3 hq0 hqm
              go_wp2_with fail
              generalize hcb : wr.heap.size = c at *
              generalize wr.alloc (.cells #[.slice xa ml xc, .int .i64 0, .bool false, .int .i64 0, .int .i64 0] 40) = wb at *
              clear hcb kc HBL
              generalize (Value.slice xa ml xc).ownBlock = go at *
              refine (qbyte_c wb HQ0.out).mono ?_
              rintro e w10 ⟨rfl, hq6⟩
              rw [r1] at hq6 ⊢
              have HQ1 := hidden hq6.state
              have HB1 := hidden (HBX.out.trans (Keeps.below hq6.keeps HBX.out.size (fun k e => by rw [e]; exact hc5)))
              clear hq6 HQ0 HBX
              dsimp only at HQ1
              rw [show val [94] = 94 by kernel_rfl]
              go_wp2_with fail
              refine (qu32_c w10 HQ1.out).mono ?_
              rintro e w11 ⟨rfl, hq6⟩
              rw [r2] at hq6 ⊢
              have HQ2 := hidden hq6.state
              have HB2 := hidden (HB1.out.trans (Keeps.below hq6.keeps HB1.out.size (fun k e => by rw [e]; exact hc5)))
              clear hq6 HQ1 HB1
              dsimp only at HQ2
              rw [show val [0, 0, 0, 5] = 5 by kernel_rfl]
              go_wp2_with fail
              refine (qtext_c most (by omega) (by omega) w11 HQ2.out).mono ?_
              rintro e w12 ⟨rfl, hq6⟩
              rw [r3] at hq6 ⊢
              have HQ3 := hidden hq6.state
              have HB3 := hidden (HB2.out.trans (Keeps.below hq6.keeps HB2.out.size (fun k e => by rw [e]; exact hc5)))
              clear hq6 HQ2 HB2
              dsimp only at HQ3
              have HFI := hidden (qfine_c w12 HQ3.out)
              rw [r4] at HFI
              rw [show (⟨q.toArray⟩ : ByteArray) = strB q from rfl]
              clear r1 r2 r3 r4 HQ3
              go_wp2_with fail
              refine HFI.out.mono ?_
              rintro e w13 ⟨rfl, hk9⟩
              have HB4 := hidden (HB3.out.trans (Keeps.below hk9 HB3.out.size (fun _ h => h.elim)))
              clear hk9 HFI HB3
              go_wp2_with fail
              go_roundw
              case rel => exact ⟨k + 1, by omega, by go_num, by rw [HFN.out, ← HLK.out]; go_num, by rw [HFN.out, strB_app, List.append_assoc], HB4.out⟩
              case measure => simp [intOf]; omega
            · have i3 : ¬ (k : Int) < (rs.length : Int) := by omega
              obtain rfl : k = rs.length := by omega
              have hfr : (rs.take rs.length).flatten = Y2 := by rw [List.take_length]; exact HST2.out.fl.1
              have hlw : L - Y2.length = wl2 := by have := HST2.out.left; omega
              have hal2 : G ++ (W ++ b) = (G ++ Y2) ++ V2 := by rw [HST2.out.all, List.append_assoc]
              have hlG : ((G ++ Y2) ++ V2).length ≤ 200 * (j + 1) := by rw [← hal2]; simp only [List.length_append] at hGW ⊢; omega
              have hwl2 : wl2 ≤ 500 + 300 * (j + 1) := by omega
              rw [hfr, hlw, hal2]
              clear hfr hlw hal2
              generalize G ++ Y2 = G2 at hlG
              have HHG := hidden hlG
              rw [List.length_append] at hlG
              obtain ⟨SG, hSG⟩ : ∃ SG, SG = strB G2 := ⟨_, rfl⟩
              obtain ⟨SS, hSS⟩ : ∃ SS, SS = strB (G2 ++ V2) := ⟨_, rfl⟩
              obtain ⟨gl, hgl⟩ : ∃ gl, gl = G2.length := ⟨_, rfl⟩
              obtain ⟨vl, hvl⟩ : ∃ vl, vl = V2.length := ⟨_, rfl⟩
              have s1 : SG.size = gl := by rw [hSG, hgl]; exact strB_size G2
              have s2 : SS.size = gl + vl := by rw [hSS, hgl, hvl, strB_size, List.length_append]
              have s3 : SS.extract 0 gl = SG := by rw [hSS, hSG, hgl]; exact strB_head G2 V2
              have t3 : ¬ gl + vl < gl := by omega
              have s4 : (gl : Int) ≤ (gl : Int) + (vl : Int) := by omega
              have s5 : (gl : Int) + (vl : Int) - (gl : Int) = (vl : Int) := by omega
              have hgv : gl + vl ≤ 2200 := by omega
              have HWA := hidden fun (x : World) (hx : Below wr.heap.size wr x) => Waits_c 0 x ((HM2.out.fresh HBL.out).fresh hx).m rfl
              have hwv : waitsO (fS wl2 most V2) 0 = vl := by rw [hvl]; rfl
              rw [hwv] at HWA
              have HN := hidden (fun h : 0 < wl2 => by rw [hvl, HST2.out.none h]; rfl : 0 < wl2 → vl = 0)
              have HSG := hidden hSG
              have HSS := hidden hSS
              rw [← hSG, ← hSS]
              have HMe := hidden (HM2.out.fresh HBL.out)
              clear hSG hSS hgl hvl hwv hlG
              go_wp2_with fail
              refine (HWA.out wr (Below.refl _ _)).mono ?_
              rintro e wq ⟨rfl, rfl⟩
              by_cases hp : 0 < wl2
              · have hv0 := HN.out hp
                subst hv0
                have hpi : (0 : Int) < (wl2 : Int) := by omega
                go_wp2_with fail
                refine (HWA.out wq (Below.refl _ _)).mono ?_
                rintro e wq2 ⟨rfl, rfl⟩
                go_wp2_with fail
                go_roundw
                case rel => exact ⟨j + 1, wl2, G2, V2, P2, by omega, by go_num, rfl, by rw [HSS.out], by rw [HSG.out], hwl2, HHG.out, by omega, HMe.out⟩
                case measure => simp [intOf]; omega
              · have hpi : ¬ (0 : Int) < (wl2 : Int) := by omega
                go_wp2_with fail
                go_roundw
                case rel => exact ⟨j + 1, wl2, G2, V2, P2, by omega, by go_num, rfl, by rw [HSS.out], by rw [HSG.out], hwl2, HHG.out, by omega, HMe.out⟩
                case measure => simp [intOf]; omega
      · have i2 : ¬ (j : Int) < 10 := by omega
        go_wp2_with fail
        refine (Dead_c _ HI.out.m).mono ?_
        rintro e w20 ⟨rfl, rfl⟩
        rw [show (fS wl most W).dead = false from rfl]
        go_wp2_with fail
        refine (HK.out _).mono ?_
        rintro e w21 ⟨rfl, hb21⟩
        have HB21 := hidden (HI.out.below.trans (hb21.mono HI.out.below.size))
        clear hb21
        go_wp2_with fail
        go_ret
        exact ⟨rfl, HB21.out⟩
    · have i1 : ¬ (j : Int) < (ps.length : Int) := by omega
      go_wp2_with fail
      refine (Dead_c _ HI.out.m).mono ?_
      rintro e w20 ⟨rfl, rfl⟩
      rw [show (fS wl most W).dead = false from rfl]
      go_wp2_with fail
      refine (HK.out _).mono ?_
      rintro e w21 ⟨rfl, hb21⟩
      have HB21 := hidden (HI.out.below.trans (hb21.mono HI.out.below.size))
      clear hb21
      go_wp2_with fail
      go_ret
      exact ⟨rfl, HB21.out⟩
end Go.Proofs.Ytnimdbjbkoggdaa
