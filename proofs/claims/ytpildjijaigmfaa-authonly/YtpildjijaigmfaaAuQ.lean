/- The walk of AuthOnly: nobody comes in who did not say a name and its pass. -/
import Derived.Test.YtpildjijaigmfaaAuP
namespace Go.Proofs.Ytpildjijaigmfaa
open Go Go.RowKit

/-- How the law's counts and the Gate stand to one another. -/
structure Cnt (s : GS) : Prop where
  st : s.st = 1 ∨ s.st = 2
  gone : s.gone = decide (s.tr = 5)
  tr : s.tr ≤ 5
  alive : s.st = 2 → s.tr ≤ 4
theorem cnt_out : Cnt outG := ⟨.inl rfl, rfl, by show 0 ≤ 5; omega, fun h => by cases h⟩
/-- What stands in the law's round: the gate, the users and the ask in its box. -/
structure OI (w wr : World) (a B : Nat) (U : List Usr) (s : GS) (ul : Value) (us ps nm : ByteArray) (b : Value) : Prop where
  gi : GI w wr a U s
  usl : USl wr ul U
  box : AskAt wr B 2 0 us ps nm b
theorem OI.still {w wr w1 : World} {a B : Nat} {U : List Usr} {s : GS} {ul : Value} {us ps nm : ByteArray} {b : Value} (h : OI w wr a B U s ul us ps nm b) (hk : Keeps (fun _ => False) wr w1) : OI w w1 a B U s ul us ps nm b :=
  ⟨h.gi.still hk, h.usl.still hk, (hk.block B (lt_of_block h.box) (fun h => h)).trans h.box⟩
theorem len_one (x : List UInt8) (h : x ≠ []) : (x.length : Int) ≠ 0 := by
  intro e
  exact h (List.eq_nil_of_length_eq_zero (by omega))
theorem failL_cons : ∃ r, failL = 51 :: r := ⟨_, rfl⟩
theorem byeL_cons (r : Nat) : ∃ l, byeL r = 1 :: l := ⟨_, rfl⟩

set_option maxHeartbeats 6400000 in
set_option maxRecDepth 100000 in
theorem authOnly_c (v u : Value) (L : List Usr) (qs : List AskD) (w : World) (hv : USl w v L) (hu : ASl w u qs) :
    Calls Try.prog 6 #[v, u] w fun e w' => e = .returned (.bool true) ∧ Below w.heap.size w w' := by
  have HU := hidden (ub_users L)
  have HA := hidden hu
  have HUS := hidden (users_c v L w hv)
  generalize usersL L 5 = U at HU HUS
  obtain ⟨ua, uc, rfl, huc, hum, _⟩ := id hu
  obtain ⟨va, vc, rfl, _⟩ := id hv
  unfold maxLen at hum
  clear hu hv
  have HK := hidden known_c
  have HP1 : Hid (∀ w1 : World, Calls Try.prog 8 #[.agg #[.int .i64 1, .int .i64 0, .string ⟨#[]⟩, .string ⟨#[]⟩, .string ⟨#[]⟩, .slice none 0 0]] w1 fun e w' => PayPost w1 (.slice none 0 0) [] k1L e w') := hidden fun w1 => payload_c 1 0 ⟨#[]⟩ ⟨#[]⟩ ⟨#[]⟩ (.slice none 0 0) [] w1 (bsl_none w1)
  have HKL : Hid (k1L.length ≤ 300) := hidden (payL_len 1 0 ⟨#[]⟩ ⟨#[]⟩ ⟨#[]⟩ [])
  go_enter Try.func6, Try.ntmps6
  go_wp2_with fail
  refine HUS.out.mono ?_
  rintro e w1 ⟨v1, rfl, ho1, hb1⟩
  have hl1 := hidden (USl.ofRow ho1)
  have HOB := hidden (fun k e => (ho1.lt k e).2)
  obtain ⟨a1, c1, rfl⟩ := ownsRow_shape ho1
  have HB1 := hidden hb1
  clear ho1 hb1 HUS
  go_wp2_with fail
  refine (New_c _ U w1 hl1.out HU.out).mono ?_
  rintro e w2 ⟨a, rfl, hg, ha, hb⟩
  have HG : Hid (GI w w2 a U newG) := hidden ⟨hg, alive_new, Nat.le_trans HB1.out.size ha, HB1.out.trans (hb.mono HB1.out.size)⟩
  have HL2 := hidden (hl1.out.fresh hb)
  have HOA : Hid (∀ k, (Value.slice a1 U.length c1).ownBlock = some k → k < a) := hidden fun k e => Nat.lt_of_lt_of_le (HOB.out k e) ha
  clear hg ha hb hl1 HB1 HOB
  go_wp2_with fail
  refine (HP1.out _).mono ?_
  rintro e w3 ⟨v3, rfl, hb3, _, hbl3⟩
  have HI3 := hidden (HG.out.fresh hbl3)
  have HL3 := hidden (HL2.out.fresh hbl3)
  have HV3 := hidden hb3
  clear hb3 hbl3 HG HL2 HP1
  go_wp2_with fail
  refine (gi_do v3 k1L HU.out HI3.out HV3.out HKL.out).mono ?_
  rintro e w4 ⟨v4, rfl, _, hi4, hk4⟩
  rw [only1] at hi4
  have HI4 := hidden hi4
  have HL4 := hidden (HL3.out.keep hk4 (fun k e h => by have := HOA.out k e; omega))
  clear hi4 hk4 HI3 HL3 HV3 HKL
  go_wp2_with fail
  go_loopw [7, 8, 9] (fun sd tr i wr => ∃ (j : Nat) (s : GS), j ≤ qs.length ∧ j ≤ 20 ∧ i = .int .i64 (j : Int) ∧ sd = .bool (decide (s.st = 2)) ∧ tr = .int .i64 (s.tr : Int) ∧ Cnt s ∧ GI w wr a U s ∧ USl wr (.slice a1 U.length c1) U) (fun _ _ i _ => 20 - (intOf i).toNat)
  case atStart => exact ⟨0, outG, by omega, by omega, rfl, rfl, rfl, cnt_out, HI4.out, HL4.out⟩
  case round =>
    obtain ⟨j, s, hj, hj20, rfl, rfl, rfl, hcnt, hgi, husl⟩ := hrel
    have HI := hidden hgi
    have HC := hidden hcnt
    have HUL := hidden husl
    clear hgi hcnt husl HI4 HL4
    by_cases hlt : j < qs.length
    · have i1 : (j : Int) < (qs.length : Int) := by omega
      by_cases hlt20 : j < 20
      · have i2 : (j : Int) < 20 := by omega
        obtain ⟨b, o, rfl, ⟨k0, k1, k2, k3, k4, k5⟩, hbs⟩ := (HA.out.fresh HI.out.below).at j hlt
        have HR0 := hidden (HA.out.row j hlt)
        obtain ⟨ba, bc, eb⟩ := hbs.len
        have HBS := hidden hbs
        generalize qs[j].b = qb at *
        generalize qs[j].bs = qbs at *
        generalize qs[j].k = qk at *
        generalize qs[j].n = qn at *
        generalize qs[j].us = qus at *
        generalize qs[j].ps = qps at *
        generalize qs[j].nm = qnm at *
        subst eb
        clear hbs
        have HH1 : Hid (∀ w1, Calls Try.prog 17 #[.string qus, .int .i64 64] w1 fun e w' => e = .returned (.string (qus.extract 0 64)) ∧ w' = w1) := hidden (head_c qus 64 (by omega))
        have HH2 : Hid (∀ w1, Calls Try.prog 17 #[.string qps, .int .i64 64] w1 fun e w' => e = .returned (.string (qps.extract 0 64)) ∧ w' = w1) := hidden (head_c qps 64 (by omega))
        have HZ1 := hidden (ex64 qus)
        have HZ2 := hidden (ex64 qps)
        generalize qus.extract 0 64 = us at HH1 HZ1
        generalize qps.extract 0 64 = ps at HH2 HZ2
        obtain ⟨st0, hst0⟩ : ∃ b, b = decide (s.st = 2) := ⟨_, rfl⟩
        rw [← hst0]
        have HST := hidden hst0
        clear hst0
        go_wp2_with fail
        refine (HH1.out _).mono ?_
        rintro e w5 ⟨rfl, rfl⟩
        go_wp2_with fail
        refine (HH2.out _).mono ?_
        rintro e w5 ⟨rfl, rfl⟩
        go_wp2_with fail
        have HBX : Hid (AskAt (wr.alloc (.cells #[.int .i64 2, .int .i64 0, .string us, .string ps, .string qnm, .slice ba qbs.length bc] 28)) wr.heap.size 2 0 us ps qnm (.slice ba qbs.length bc)) := hidden (heap_alloc_new wr _)
        have HI5 := hidden (HI.out.still ((Keeps.refl _ _).alloc (.cells #[.int .i64 2, .int .i64 0, .string us, .string ps, .string qnm, .slice ba qbs.length bc] 28)))
        have HU5 := hidden (HUL.out.still ((Keeps.refl _ _).alloc (.cells #[.int .i64 2, .int .i64 0, .string us, .string ps, .string qnm, .slice ba qbs.length bc] 28)))
        have HBS5 := hidden (HBS.out.alloc (.cells #[.int .i64 2, .int .i64 0, .string us, .string ps, .string qnm, .slice ba qbs.length bc] 28))
        have halt := HI.out.g.lt
        clear HI HUL HBS k0 k1 k2 k3 k4 k5 HH1 HH2
        obtain ⟨B, hB⟩ : ∃ B, B = wr.heap.size := ⟨_, rfl⟩
        rw [← hB] at HBX halt ⊢
        clear hB
        generalize wr.alloc (.cells #[.int .i64 2, .int .i64 0, .string us, .string ps, .string qnm, .slice ba qbs.length bc] 28) = w5 at HBX HI5 HU5 HBS5 ⊢
        have HPC := hidden (payload_c 2 0 us ps qnm _ qbs w5 HBS5.out)
        rw [pay_pw us ps qnm qbs HZ1.out HZ2.out] at HPC
        unfold askV at HPC
        refine HPC.out.mono ?_
        rintro e w6 ⟨v6, rfl, hb6, _, hbl6⟩
        have HI6 := hidden (HI5.out.fresh hbl6)
        have HU6 := hidden (HU5.out.fresh hbl6)
        have HBX6 : Hid (AskAt w6 B 2 0 us ps qnm (.slice ba qbs.length bc)) := hidden ((hbl6.block B (lt_of_block HBX.out)).trans HBX.out)
        have HV6 := hidden hb6
        have HPL : Hid ((pwL us ps).length ≤ 300) := hidden (by rw [← pay_pw us ps qnm qbs HZ1.out HZ2.out]; exact payL_len _ _ _ _ _ _)
        clear hb6 hbl6 HI5 HU5 HBX HPC HBS5
        go_wp2_with fail
        refine (gi_do v6 (pwL us ps) HU.out HI6.out HV6.out HPL.out).mono ?_
        rintro e w7 ⟨v7, rfl, ha7, hi7, hk7⟩
        rw [pw_do U s us ps HZ1.out HZ2.out] at ha7 hi7
        have HO7 : Hid (OI w w7 a B U _ (.slice a1 U.length c1) us ps qnm (.slice ba qbs.length bc)) := hidden ⟨hi7, HU6.out.keep hk7 (fun k e h => by have := HOA.out k e; omega), (hk7.block B (lt_of_block HBX6.out) (by omega)).trans HBX6.out⟩
        have HA7 := hidden ha7
        clear ha7 hi7 hk7 HI6 HU6 HBX6 HV6 HPL
        obtain ⟨R, hR⟩ : ∃ R, R = (if s.gone = true then (s, []) else if s.st = 0 then endO s 2 else if s.st = 1 then (if knowsB U us ps = true then (⟨2, us, s.tr, s.gone⟩, [[52]]) else tryO s) else (s, [])) := ⟨_, rfl⟩
        rw [← hR] at HO7 HA7
        have HRE := hidden hR
        clear hR
        obtain ⟨ao7, n7, c7, e7⟩ : ∃ ao n c, v7 = .slice ao n c := by
          rcases HA7.out with ⟨_, h⟩ | ⟨x, g, u, _, h, _⟩
          · exact ⟨_, _, _, h⟩
          · exact ⟨_, _, _, h⟩
        subst e7
        have hUl := HU.out.few
        generalize qbs.length = ql at *
        go_wp2_with fail
        obtain ⟨wo, hwo⟩ : ∃ x, x = wr := ⟨wr, rfl⟩
        subst hwo
        go_loopw [12, 13] (fun rt i wr => ∃ (k : Nat), k ≤ U.length ∧ i = .int .i64 (k : Int) ∧ rt = .bool (knowsB (U.take k) us ps) ∧ Keeps (fun _ => False) w7 wr) (fun _ i _ => U.length - (intOf i).toNat)
        case atStart => exact ⟨0, by omega, rfl, rfl, Keeps.refl _ _⟩
        case round =>
          obtain ⟨k, hk, rfl, rfl, hkp⟩ := hrel
          have HO8 := hidden (HO7.out.still hkp)
          have HKP := hidden hkp
          clear hkp
          by_cases hku : k < U.length
          · have i3 : (k : Int) < (U.length : Int) := by omega
            obtain ⟨ub, uo, e1, m1, m2⟩ := HO8.out.usl.at k hku
            subst e1
            obtain ⟨d0, d1, d2, d3, d4, d5, df⟩ := cells6 HO8.out.box
            have HN := hidden (knowsB_next U us ps k hku)
            generalize U[k] = u at m1 m2 HN
            obtain ⟨un, up⟩ := u
            dsimp only at m1 m2 HN
            generalize knowsB (U.take k) us ps = kb at HN ⊢
            cases kb
            · cases hd1 : decide (un = us)
              · have hs1 : (un.toList == us.toList) = false := by rw [str_dec]; exact hd1
                rw [hd1] at HN
                clear hd1
                go_wp2_with fail
                go_quiet (fail)
                go_wp2_with fail
                go_roundw
                case rel => exact ⟨k + 1, by omega, by go_num, by rw [HN.out]; rfl, HKP.out.drewN nq⟩
                case measure => simp [intOf]; omega
              · have hs1 : (un.toList == us.toList) = true := by rw [str_dec]; exact hd1
                cases hd2 : decide (up = ps)
                · have hs2 : (up.toList == ps.toList) = false := by rw [str_dec]; exact hd2
                  rw [hd1, hd2] at HN
                  clear hd1 hd2
                  go_wp2_with fail
                  go_quiet (fail)
                  go_wp2_with fail
                  go_roundw
                  case rel => exact ⟨k + 1, by omega, by go_num, by rw [HN.out]; rfl, HKP.out.drewN nq⟩
                  case measure => simp [intOf]; omega
                · have hs2 : (up.toList == ps.toList) = true := by rw [str_dec]; exact hd2
                  rw [hd1, hd2] at HN
                  clear hd1 hd2
                  go_wp2_with fail
                  go_quiet (fail)
                  go_wp2_with fail
                  go_roundw
                  case rel => exact ⟨k + 1, by omega, by go_num, by rw [HN.out]; rfl, HKP.out.drewN nq⟩
                  case measure => simp [intOf]; omega
            · have HN2 : Hid (knowsB (U.take (k + 1)) us ps = true) := hidden (by have := HN.out; simpa using this)
              go_wp2_with fail
              go_quiet (fail)
              go_wp2_with fail
              go_roundw
              case rel => exact ⟨k + 1, by omega, by go_num, by rw [HN2.out], HKP.out.drewN nq⟩
              case measure => simp [intOf]; omega
          · have i3 : ¬ (k : Int) < (U.length : Int) := by omega
            have HKE : Hid (knowsB (U.take k) us ps = knowsB U us ps) := hidden (by rw [List.take_of_length_le (by omega)])
            rw [HKE.out]
            clear HKE
            obtain ⟨kb, hkb⟩ : ∃ b, b = knowsB U us ps := ⟨_, rfl⟩
            rw [← hkb]
            have HKB := hidden hkb
            clear hkb
            have HA8 := hidden (HA7.out.keep HKP.out (fun _ h => h.elim))
            go_wp2_with fail
            refine (User_c wr HO8.out.gi.g).mono ?_
            rintro e w9 ⟨rfl, hk9⟩
            have HO9 := hidden (HO8.out.still hk9)
            have HA9 := hidden (HA8.out.keep hk9 (fun _ h => h.elim))
            clear hk9 HO8 HA8 HKP HO7 HA7
            have HDD := hidden (Dead_c w9 HO9.out.gi.g)
            rcases HC.out.st with h1 | h2
            · have hso : st0 = false := by rw [HST.out, h1]; rfl
              subst hso
              by_cases h5 : s.tr = 5
              · have hgo : s.gone = true := by rw [HC.out.gone, h5]; rfl
                have hRR : R = (s, []) := by rw [HRE.out, if_pos hgo]
                subst hRR
                dsimp only at HO9 HA9 HDD ⊢
                rw [hgo] at HDD
                have e9 := HA9.out.zero
                cases e9
                have HS1 := hidden h1
                have HS5 := hidden h5
                rw [h1, h5]
                rw [show (((1 : Nat) : Int) == 2) = false from rfl]
                rw [show (((5 : Nat) : Int)) = 5 from rfl]
                clear h1 h5 hgo
                go_wp2_with (go_at_call 19; refine HDD.out.mono ?_; rintro e w10 ⟨rfl, rfl⟩)
                go_roundw
                case rel => exact ⟨j + 1, _, by omega, by omega, by go_num, by rw [HS1.out]; rfl, by rw [HS5.out]; rfl, HC.out, HO9.out.gi, HO9.out.usl⟩
                case measure => simp [intOf]; omega
              · have hgo : s.gone = false := by rw [HC.out.gone]; simpa using h5
                have htr := HC.out.tr
                cases kb
                · have hRR : R = tryO s := by rw [HRE.out, hgo, if_neg (by decide), if_neg (by omega), if_pos h1, ← HKB.out, if_neg (by decide)]
                  by_cases h4 : s.tr = 4
                  · have hR2 : R = (⟨1, s.nm, 5, true⟩, [byeL 14]) := by rw [hRR]; unfold tryO; rw [if_pos (by omega), h1, h4]
                    subst hR2
                    dsimp only at HO9 HA9 HDD ⊢
                    obtain ⟨g9, u9, e9, q1, q2, _⟩ := HA9.out.get
                    cases e9
                    have c9 := cell_of_one q1
                    obtain ⟨rb, hrb⟩ := byeL_cons 14
                    rw [hrb] at q2
                    obtain ⟨b9, o9, cp9, e9, _⟩ := q2.cons
                    subst e9
                    have c10 := q2.headN
                    have hz9 : (((1 :: rb).length : Int) == 0) = false := beq_false_of_ne (by simp only [List.length_cons]; omega)
                    have hz8 : 0 < (1 :: rb).length := by simp
                    generalize (1 :: rb).length = n9 at *
                    have HS4 := hidden h4
                    rw [h4]
                    rw [show (((1 : Nat) : Int) == 2) = false from rfl]
                    rw [show (((4 : Nat) : Int)) = 4 from rfl]
                    rw [show (((1 : UInt8).toNat : Nat) : Int) = 1 from rfl] at c10
                    clear h1 h4 h5 hgo hRR q1 q2 hrb htr
                    go_wp2_with (go_at_call 19; refine HDD.out.mono ?_; rintro e w10 ⟨rfl, rfl⟩)
                    go_roundw
                    case rel => exact ⟨j + 1, _, by omega, by omega, by go_num, rfl, rfl, ⟨.inl rfl, rfl, by show 5 ≤ 5; omega, fun h => by cases h⟩, HO9.out.gi, HO9.out.usl⟩
                    case measure => simp [intOf]; omega
                  · have hR2 : R = (⟨1, s.nm, s.tr + 1, false⟩, [failL]) := by rw [hRR]; unfold tryO; rw [if_neg (by omega), h1, hgo]
                    subst hR2
                    dsimp only at HO9 HA9 HDD ⊢
                    obtain ⟨g9, u9, e9, q1, q2, _⟩ := HA9.out.get
                    cases e9
                    have c9 := cell_of_one q1
                    obtain ⟨rb, hrb⟩ := failL_cons
                    rw [hrb] at q2
                    obtain ⟨b9, o9, cp9, e9, _⟩ := q2.cons
                    subst e9
                    have c10 := q2.headN
                    have hz9 : (((51 :: rb).length : Int) == 0) = false := beq_false_of_ne (by simp only [List.length_cons]; omega)
                    have hz8 : 0 < (51 :: rb).length := by simp
                    generalize (51 :: rb).length = n9 at *
                    rw [show (((1 : Nat) : Int) == 2) = false from rfl]
                    rw [show (((51 : UInt8).toNat : Nat) : Int) = 51 from rfl] at c10
                    have t5 : ¬ (5 : Int) ≤ (s.tr : Int) := by omega
                    have t6 : ¬ (5 : Int) ≤ (s.tr : Int) + 1 := by omega
                    have HT3 : Hid (s.tr ≤ 3) := hidden (by omega)
                    clear h1 h4 hgo hRR q1 q2 hrb h5
                    go_wp2_with (go_at_call 19; refine HDD.out.mono ?_; rintro e w10 ⟨rfl, rfl⟩)
                    go_roundw
                    case rel => exact ⟨j + 1, _, by omega, by omega, by go_num, rfl, rfl, ⟨.inl rfl, by simp; have := HT3.out; omega, by have := HT3.out; show s.tr + 1 ≤ 5; omega, fun h => by cases h⟩, HO9.out.gi, HO9.out.usl⟩
                    case measure => simp [intOf]; omega
                · have hR2 : R = (⟨2, us, s.tr, false⟩, [[52]]) := by rw [HRE.out, hgo, if_neg (by decide), if_neg (by omega), if_pos h1, ← HKB.out, if_pos rfl]
                  subst hR2
                  dsimp only at HO9 HA9 HDD ⊢
                  obtain ⟨g9, u9, e9, q1, q2, _⟩ := HA9.out.get
                  cases e9
                  have c9 := cell_of_one q1
                  obtain ⟨b9, o9, cp9, e9, _⟩ := q2.cons
                  subst e9
                  have c10 := q2.headN
                  rw [show (((2 : Nat) : Int) == 2) = true from rfl]
                  rw [show (((52 : UInt8).toNat : Nat) : Int) = 52 from rfl] at c10
                  rw [show ([52] : List UInt8).length = 1 from rfl] at c9
                  have t5 : ¬ (5 : Int) ≤ (s.tr : Int) := by omega
                  have HT4 : Hid (s.tr ≤ 4) := hidden (by omega)
                  have hsu : (us.toList == us.toList) = true := by rw [str_dec]; simp
                  obtain ⟨d0, d1, d2, d3, d4, d5, df⟩ := cells6 HO9.out.box
                  clear h1 hgo q1 q2 h5
                  go_wp2_with (go_at_call 19; refine HDD.out.mono ?_; rintro e w10 ⟨rfl, rfl⟩)
                  go_roundw
                  case rel => exact ⟨j + 1, ⟨2, us, s.tr, false⟩, by omega, by omega, by go_num, rfl, rfl, ⟨.inr rfl, by simp; have := HT4.out; omega, by have := HT4.out; show s.tr ≤ 5; omega, fun _ => HT4.out⟩, HO9.out.gi, HO9.out.usl⟩
                  case measure => simp [intOf]; omega
            · have hso : st0 = true := by rw [HST.out, h2]; rfl
              subst hso
              have h4 := HC.out.alive h2
              have hgo : s.gone = false := by rw [HC.out.gone]; simp; omega
              have hRR : R = (s, []) := by rw [HRE.out, hgo, if_neg (by decide), if_neg (by omega), if_neg (by omega)]
              subst hRR
              dsimp only at HO9 HA9 HDD ⊢
              rw [hgo] at HDD
              have e9 := HA9.out.zero
              cases e9
              have HS2 := hidden h2
              rw [h2]
              rw [show (((2 : Nat) : Int) == 2) = true from rfl]
              have t5 : ¬ (5 : Int) ≤ (s.tr : Int) := by omega
              clear h2 hgo h4
              go_wp2_with (go_at_call 19; refine HDD.out.mono ?_; rintro e w10 ⟨rfl, rfl⟩)
              go_roundw
              case rel => exact ⟨j + 1, _, by omega, by omega, by go_num, by rw [HS2.out]; rfl, rfl, HC.out, HO9.out.gi, HO9.out.usl⟩
              case measure => simp [intOf]; omega
      · have i2 : ¬ (j : Int) < 20 := by omega
        go_wp2_with fail
        refine (HK.out wr).mono ?_
        rintro e w3 ⟨rfl, hb3⟩
        have HB3 := hidden (HI.out.below.trans (hb3.mono HI.out.below.size))
        clear hb3 HI
        go_wp2_with fail
        go_ret
        exact ⟨rfl, HB3.out⟩
    · have i1 : ¬ (j : Int) < (qs.length : Int) := by omega
      go_wp2_with fail
      refine (HK.out wr).mono ?_
      rintro e w3 ⟨rfl, hb3⟩
      have HB3 := hidden (HI.out.below.trans (hb3.mono HI.out.below.size))
      clear hb3 HI
      go_wp2_with fail
      go_ret
      exact ⟨rfl, HB3.out⟩

end Go.Proofs.Ytpildjijaigmfaa
