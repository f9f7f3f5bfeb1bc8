/- What the document's Gate asks: reading on is as reading the rest anew. -/
import Derived.Test.YtpildjijaigmfaaAuR
namespace Go.Proofs.Ytpildjijaigmfaa
open Go Go.RowKit

theorem and_not {d c : Bool} (h : true = (d && !c)) : d = true ∧ c = false := by
  cases d <;> cases c <;> first | exact ⟨rfl, rfl⟩ | cases h
theorem tk_shift (bs : List UInt8) (q p : Nat) (hq : q ≤ bs.length) (why : Int) (n : Nat) : tk bs (q + p) why n = ((tk (bs.drop q) p why n).1, q + (tk (bs.drop q) p why n).2.1, (tk (bs.drop q) p why n).2.2) := by
  unfold tk
  by_cases hw : why = 0
  · rw [if_pos hw, if_pos hw]
    by_cases hl : bs.length - (q + p) < n
    · rw [if_pos hl, if_pos (by rw [List.length_drop]; omega)]
      simp
      omega
    · rw [if_neg hl, if_neg (by rw [List.length_drop]; omega)]
      simp [List.drop_drop]
      omega
  · rw [if_neg hw, if_neg hw]
theorem tx_shift (bs : List UInt8) (q p : Nat) (hq : q ≤ bs.length) (why : Int) (m : Int) : tx bs (q + p) why m = ((tx (bs.drop q) p why m).1, q + (tx (bs.drop q) p why m).2.1, (tx (bs.drop q) p why m).2.2) := by
  unfold tx
  rw [tk_shift bs q p hq]
  dsimp only
  by_cases h : m.toNat < val (tk (bs.drop q) p why 4).1
  · rw [if_pos h, if_pos h]
  · rw [if_neg h, if_neg h, tk_shift bs q _ hq]
theorem whole_shift (bs : List UInt8) (q p : Nat) (hq : q ≤ bs.length) (why : Int) : wholeB bs (q + p) why = wholeB (bs.drop q) p why := by
  unfold wholeB ends
  by_cases hw : why = 0
  · rw [if_pos hw, if_pos hw]
    by_cases h : q + p < bs.length
    · rw [if_pos h, if_pos (by rw [List.length_drop]; omega)]
    · rw [if_neg h, if_neg (by rw [List.length_drop]; omega)]
  · rw [if_neg hw, if_neg hw]
/-- What is read of the rest where one stands. -/
def passAt (bs : List UInt8) (q : Nat) : List UInt8 × Bool :=
  let b := tk bs q 0 1
  let t := tx bs b.2.1 b.2.2 64
  (t.1, wholeB bs t.2.1 t.2.2 && !(((val b.1 : Nat) : Int) != 0))
theorem passAt_eq (bs : List UInt8) (q : Nat) (hq : q ≤ bs.length) : passAt bs q = passOf (bs.drop q) := by
  have h1 := tk_shift bs q 0 hq 0 1
  rw [Nat.add_zero] at h1
  unfold passAt passOf
  rw [h1]
  dsimp only
  rw [tx_shift bs q _ hq]
  dsimp only
  rw [whole_shift bs q _ hq]
theorem tk_le (bs : List UInt8) (p : Nat) (why : Int) (n : Nat) (h : p ≤ bs.length) : (tk bs p why n).2.1 ≤ bs.length := by
  unfold tk
  split
  · split <;> dsimp only <;> omega
  · exact h
theorem tx_le (bs : List UInt8) (p : Nat) (why : Int) (m : Int) (h : p ≤ bs.length) : (tx bs p why m).2.1 ≤ bs.length := by
  unfold tx
  split
  · exact h
  · exact tk_le _ _ _ _ (tk_le _ _ _ _ h)

set_option maxHeartbeats 400000 in
theorem fine_c (w : World) {c : Nat} {g : Option Nat} {bs : List UInt8} {p : Nat} {why : Int} (h : QR w c g bs p why) :
    Calls Try.prog 37 #[.pointer (some ⟨c, 0, none⟩)] w fun e w' => e = .returned (.bool (wholeB bs p why)) ∧ Keeps (fun _ => False) w w' := by
  have HN := hidden (qend_c w h)
  unfold wholeB
  generalize ends bs p why = r at *
  clear h
  go_enter Try.func37, Try.ntmps37
  go_wp2_with fail
  refine HN.out.mono ?_
  rintro e w1 ⟨rfl, ht⟩
  go_wp2
  go_ret
  exact ⟨rfl, ht⟩

/-- What the document's ask does. -/
def askO (U : List Usr) (s : GS) (bs : List UInt8) (p : Nat) (why : Int) : GS × List (List UInt8) :=
  if (tx3 bs p why).2.2 = 0 ∧ s.st ≠ 0 then
    if s.st = 2 then (s, []) else logO U s (tx bs p why 64).1 (tx2 bs p why).1 (tx3 bs p why).1 (restOf bs p why)
  else endO s 2

/-- The Gate and the Reader beside it. -/
structure QI (W w : World) (a rb : Nat) (g : Option Nat) (H : Nat) (U : List Usr) (s : GS) (bs : List UInt8) (p : Nat) (why : Int) : Prop where
  gt : QG w a H U s
  r : QR w rb g bs p why
  keep : Keeps (fun k => k = a ∨ k = rb) W w
  lt : a < rb
theorem QI.took {W w w1 : World} {a rb : Nat} {g : Option Nat} {H : Nat} {U : List Usr} {s : GS} {bs : List UInt8} {p q : Nat} {why y : Int} (h : QI W w a rb g H U s bs p why) (t : QTook rb g bs q y w w1) : QI W w1 a rb g H U s bs q y :=
  ⟨h.gt.keep t.keeps (fun k h1 h2 => by have := h.lt; omega), t.state, h.keep.trans (t.keeps.mono (fun k _ h => Or.inr h)), h.lt⟩
theorem QI.still {W w w1 : World} {a rb : Nat} {g : Option Nat} {H : Nat} {U : List Usr} {s : GS} {bs : List UInt8} {p : Nat} {why : Int} (h : QI W w a rb g H U s bs p why) (k : Keeps (fun _ => False) w w1) : QI W w1 a rb g H U s bs p why :=
  ⟨h.gt.still k, h.r.same k, h.keep.trans (k.mono (fun _ _ h => h.elim)), h.lt⟩

set_option maxHeartbeats 3200000 in
set_option maxRecDepth 100000 in
theorem ask_c (w : World) {a rb : Nat} {H : Nat} {U : List Usr} {s : GS} {g : Option Nat} {bs : List UInt8} {p : Nat} {why : Int} (hU : UB U) (h : QG w a H U s) (ht : s.tr ≤ 4) (hr : QR w rb g bs p why) (har : a < rb) (hp : p ≤ bs.length) :
    Calls Try.prog 39 #[.pointer (some ⟨a, 0, none⟩), .pointer (some ⟨rb, 0, none⟩)] w fun e w' => QGPost (fun k => k = a ∨ k = rb) w a H U (askO U s bs p why) e w' := by
  have HI0 : Hid (QI w w a rb g H U s bs p why) := hidden ⟨h, hr, Keeps.refl _ _, har⟩
  obtain ⟨r1, e1⟩ : ∃ r, r = tx bs p why 64 := ⟨_, rfl⟩
  obtain ⟨r2, e2⟩ : ∃ r, r = tx bs r1.2.1 r1.2.2 64 := ⟨_, rfl⟩
  obtain ⟨r3, e3⟩ : ∃ r, r = tx bs r2.2.1 r2.2.2 64 := ⟨_, rfl⟩
  have q2 : tx2 bs p why = r2 := by rw [e2, e1]; rfl
  have q3 : tx3 bs p why = r3 := by rw [e3, ← q2]; rfl
  have hle : r3.2.1 ≤ bs.length := by rw [e3]; refine tx_le _ _ _ _ ?_; rw [e2]; refine tx_le _ _ _ _ ?_; rw [e1]; exact tx_le _ _ _ _ hp
  have HQ4 : Hid (r3.2.2 = 0 → passOf (restOf bs p why) = passAt bs r3.2.1) := hidden fun hz => by
    unfold restOf
    rw [q3, if_pos hz, passAt_eq bs _ hle]
  unfold askO
  rw [q2, q3, ← e1]
  generalize restOf bs p why = re at *
  have E1 := hidden e1
  have E2 := hidden e2
  have E3 := hidden e3
  clear e1 e2 e3 q2 q3 h hr hle
  obtain ⟨S1, hS1⟩ : ∃ S, S = strB r1.1 := ⟨_, rfl⟩
  obtain ⟨S2, hS2⟩ : ∃ S, S = strB r2.1 := ⟨_, rfl⟩
  obtain ⟨S3, hS3⟩ : ∃ S, S = strB r3.1 := ⟨_, rfl⟩
  have HS1 := hidden hS1
  have HS2 := hidden hS2
  have HS3 := hidden hS3
  have HT1 : Hid (∀ w1, QR w1 rb g bs p why → Calls Try.prog 36 #[.pointer (some ⟨rb, 0, none⟩), .int .i64 64] w1 fun e w' => e = .returned (.string S1) ∧ QTook rb g bs r1.2.1 r1.2.2 w1 w') := hidden fun w1 hq => by
    have := qtext_c 64 (by omega) (by omega) w1 hq
    rw [← E1.out] at this
    rw [hS1]
    exact this
  have HT2 : Hid (∀ w1, QR w1 rb g bs r1.2.1 r1.2.2 → Calls Try.prog 36 #[.pointer (some ⟨rb, 0, none⟩), .int .i64 64] w1 fun e w' => e = .returned (.string S2) ∧ QTook rb g bs r2.2.1 r2.2.2 w1 w') := hidden fun w1 hq => by
    have := qtext_c 64 (by omega) (by omega) w1 hq
    rw [← E2.out] at this
    rw [hS2]
    exact this
  have HT3 : Hid (∀ w1, QR w1 rb g bs r2.2.1 r2.2.2 → Calls Try.prog 36 #[.pointer (some ⟨rb, 0, none⟩), .int .i64 64] w1 fun e w' => e = .returned (.string S3) ∧ QTook rb g bs r3.2.1 r3.2.2 w1 w') := hidden fun w1 hq => by
    have := qtext_c 64 (by omega) (by omega) w1 hq
    rw [← E3.out] at this
    rw [hS3]
    exact this
  obtain ⟨R, hR⟩ : ∃ R, R = (if r3.2.2 = 0 ∧ s.st ≠ 0 then if s.st = 2 then (s, []) else logO U s r1.1 r2.1 r3.1 re else endO s 2) := ⟨_, rfl⟩
  rw [← hR]
  have HR := hidden hR
  clear hS1 hS2 hS3 hR
  go_enter Try.func39, Try.ntmps39
  go_wp2_with fail
  refine (HT1.out w HI0.out.r).mono ?_
  rintro e w1 ⟨rfl, t1⟩
  have HI1 := hidden (HI0.out.took t1)
  clear t1 HI0
  go_wp2_with fail
  refine (HT2.out w1 HI1.out.r).mono ?_
  rintro e w2 ⟨rfl, t2⟩
  have HI2 := hidden (HI1.out.took t2)
  clear t2 HI1
  go_wp2_with fail
  refine (HT3.out w2 HI2.out.r).mono ?_
  rintro e w3 ⟨rfl, t3⟩
  have HI3 := hidden (HI2.out.took t3)
  clear t3 HI2 HT1 HT2 HT3
  obtain ⟨q, rf, m1, m2, hq0, hq1⟩ := HI3.out.r.cell2
  obtain ⟨v, h1, h2, h3, h4, h5⟩ := HI3.out.gt
  obtain ⟨c0, c1, c2, c3, c4, c5, hf⟩ := cells6q h1
  have HUSL := hidden h2
  have HV3 := hidden h3
  have HBL := hidden h1
  clear h1 h2 h3 h5
  by_cases hz : r3.2.2 = 0
  · obtain ⟨rfl, _⟩ := hq0 hz
    by_cases hs0 : s.st = 0
    · have hd : decide (s.st ≠ 0) = false := by simpa using hs0
      rw [hd] at c1
      have HRE : Hid (R = endO s 2) := hidden (by rw [HR.out, if_neg (by rintro ⟨_, h⟩; exact h hs0)])
      clear hq0 hq1 hz hs0 hd HR
      go_wp2_with fail
      refine (rbye_c 2 (by omega) w3 HI3.out.gt).mono ?_
      rintro e w4 hp4
      rw [← HRE.out] at hp4
      have HP := hidden (QGPost.after HI3.out.keep (hp4.mono (fun k _ h => Or.inl h)))
      obtain ⟨v4, rfl, _⟩ := hp4
      clear HI3
      go_wp2_with fail
      go_ret
      exact HP.out
    · have hd : decide (s.st ≠ 0) = true := by simpa using hs0
      rw [hd] at c1
      by_cases hs2 : s.st = 2
      · have hd2 : decide (s.st = 2) = true := by simpa using hs2
        rw [hd2] at c2
        have HRE : Hid (R = (s, [])) := hidden (by rw [HR.out, if_pos ⟨hz, hs0⟩, if_pos hs2])
        clear hq0 hq1 hz hs0 hd HR hd2 hs2
        go_wp2_with fail
        go_ret
        exact ⟨_, rfl, by rw [HRE.out]; exact Ans.nil' _ _, by rw [HRE.out]; exact HI3.out.gt, HI3.out.keep⟩
      · have hd2 : decide (s.st = 2) = false := by simpa using hs2
        rw [hd2] at c2
        have HRE : Hid (R = logO U s r1.1 r2.1 r3.1 re) := hidden (by rw [HR.out, if_pos ⟨hz, hs0⟩, if_neg hs2])
        have HPA := hidden (HQ4.out hz)
        have HS01 : Hid (s.st = 1) := hidden (by omega)
        have HZ := hidden hz
        clear hq0 hq1 hz hs0 hd HR hd2 hs2
        have hi3 := HI3.out
        rw [HZ.out] at hi3
        have HI3' := hidden hi3
        clear hi3 HI3
        by_cases hc : S2 = connB
        · have hst : (S2.toList == [115, 115, 104, 45, 99, 111, 110, 110, 101, 99, 116, 105, 111, 110]) = true := by rw [str_lit]; simpa [connB] using hc
          by_cases hm : S3 = passB
          · have hst2 : (S3.toList == [112, 97, 115, 115, 119, 111, 114, 100]) = true := by rw [str_lit]; simpa [passB] using hm
            obtain ⟨B, hB⟩ : ∃ B, B = tk bs r3.2.1 0 1 := ⟨_, rfl⟩
            obtain ⟨T, hT⟩ : ∃ T, T = tx bs B.2.1 B.2.2 64 := ⟨_, rfl⟩
            obtain ⟨d, hd⟩ : ∃ d, d = wholeB bs T.2.1 T.2.2 := ⟨_, rfl⟩
            obtain ⟨cb, hcb⟩ : ∃ c, c = (((val B.1 : Nat) : Int) != 0) := ⟨_, rfl⟩
            obtain ⟨PS, hPS⟩ : ∃ S, S = strB T.1 := ⟨_, rfl⟩
            have HRE2 : Hid (R = if (d && !cb) = true then (if knowsB U S1 PS = true then (⟨2, S1, s.tr, s.gone⟩, [[52]]) else tryO s) else endO s 2) := hidden (by
              have hpa : passOf re = (T.1, d && !cb) := by rw [HPA.out]; unfold passAt; rw [← hB]; dsimp only; rw [← hT, ← hd, ← hcb]
              rw [HRE.out]
              unfold logO
              rw [← HS2.out, ← HS3.out, ← HS1.out, if_pos hc, if_pos hm, hpa]
              dsimp only
              rw [← hPS])
            have HB1 := hidden (qbool_c w3 HI3'.out.r)
            rw [← hB, ← hcb] at HB1
            have HT1 : Hid (∀ w1, QR w1 rb g bs B.2.1 B.2.2 → Calls Try.prog 36 #[.pointer (some ⟨rb, 0, none⟩), .int .i64 64] w1 fun e w' => e = .returned (.string PS) ∧ QTook rb g bs T.2.1 T.2.2 w1 w') := hidden fun w1 hq => by
              have := qtext_c 64 (by omega) (by omega) w1 hq
              rw [← hT] at this
              rw [hPS]
              exact this
            have HF1 : Hid (∀ w1, QR w1 rb g bs T.2.1 T.2.2 → Calls Try.prog 37 #[.pointer (some ⟨rb, 0, none⟩)] w1 fun e w' => e = .returned (.bool d) ∧ Keeps (fun _ => False) w1 w') := hidden fun w1 hq => by
              rw [hd]
              exact fine_c w1 hq
            clear hc hm hB hT hd hcb hPS HRE HPA
            go_wp2_with fail
            refine HB1.out.mono ?_
            rintro e w4 ⟨rfl, t4⟩
            have HI4 := hidden (HI3'.out.took t4)
            clear t4 HI3' HB1
            go_wp2_with fail
            refine (HT1.out w4 HI4.out.r).mono ?_
            rintro e w5 ⟨rfl, t5⟩
            have HI5 := hidden (HI4.out.took t5)
            clear t5 HI4 HT1
            go_wp2_with fail
            refine (HF1.out w5 HI5.out.r).mono ?_
            rintro e w6 ⟨rfl, t6⟩
            have HI6 := hidden (HI5.out.still t6)
            clear t6 HI5 HF1
            clear m1 m2 c0 c1 c2 c3 c4 c5 hf HUSL HV3 HBL
            obtain ⟨x, hx⟩ : ∃ x, x = (d && !cb) := ⟨_, rfl⟩
            rw [← hx] at HRE2
            cases x
            · have HRE3 : Hid (R = endO s 2) := hidden (by have := HRE2.out; rw [if_neg (by decide)] at this; exact this)
              have HX := hidden hx
              clear HRE2 hx
              have fin : ∀ w7, QI w w7 a rb g H U s bs T.2.1 T.2.2 → Calls Try.prog 38 #[.pointer (some ⟨a, 0, none⟩), .int .u32 2] w7 fun e w' => QGPost (fun k => k = a ∨ k = rb) w a H U R e w' := fun w7 hi => by
                refine (rbye_c 2 (by omega) w7 hi.gt).mono ?_
                rintro e w8 hp8
                rw [← HRE3.out] at hp8
                exact QGPost.after hi.keep (hp8.mono (fun k _ h => Or.inl h))
              have FIN := hidden fin
              clear fin
              cases d
              · go_wp2_with fail
                refine (FIN.out w6 HI6.out).mono ?_
                rintro e w8 hp8
                have HP := hidden hp8
                obtain ⟨v8, rfl, _⟩ := hp8
                clear HI6 FIN
                go_wp2_with fail
                go_ret
                exact HP.out
              · cases cb
                · exact absurd HX.out (by decide)
                · go_wp2_with fail
                  refine (FIN.out w6 HI6.out).mono ?_
                  rintro e w8 hp8
                  have HP := hidden hp8
                  obtain ⟨v8, rfl, _⟩ := hp8
                  clear HI6 FIN
                  go_wp2_with fail
                  go_ret
                  exact HP.out
            · have hdc := and_not hx
              obtain ⟨rfl, rfl⟩ := hdc
              have HRE3 : Hid (R = if knowsB U S1 PS = true then (⟨2, S1, s.tr, s.gone⟩, [[52]]) else tryO s) := hidden (by have := HRE2.out; rw [if_pos rfl] at this; exact this)
              clear HRE2 hx
              obtain ⟨v, h1, h2, h3, h4, h5⟩ := HI6.out.gt
              obtain ⟨va, vc, rfl, hv1, hv2, hv3⟩ := id h2
              obtain ⟨c0, c1, c2, c3, c4, c5, hf⟩ := cells6q h1
              have HUSL := hidden h2
              have HV3 := hidden h3
              have HBL := hidden h1
              have HS5 := hidden h5
              have hfew := hU.few
              clear h1 h2 h3 h5 hv3
              go_wp2_with fail
              go_loop [10] (fun i => ∃ k : Nat, k ≤ U.length ∧ i = .int .i64 (k : Int) ∧ knowsB (U.take k) S1 PS = false) (fun i => U.length - (intOf i).toNat)
              case atStart => exact ⟨0, by omega, rfl, rfl⟩
              case round =>
                obtain ⟨k, hk, rfl, hkn⟩ := hrel
                by_cases hku : k < U.length
                · have i3 : (k : Int) < (U.length : Int) := by omega
                  obtain ⟨ub, uo, e1, g1, g2⟩ := HUSL.out.at k hku
                  subst e1
                  have HN := hidden (knowsB_next U S1 PS k hku)
                  rw [hkn] at HN
                  have HM : Hid (∀ u, u ∈ U → (decide (u.1 = S1) && decide (u.2 = PS)) = true → knowsB U S1 PS = true) := hidden fun u hu h => List.any_eq_true.2 ⟨u, hu, h⟩
                  have HIN := hidden (HM.out U[k] (List.getElem_mem hku))
                  clear hkn HM
                  generalize U[k] = u at g1 g2 HN HIN
                  obtain ⟨un, up⟩ := u
                  dsimp only at g1 g2 HN HIN
                  cases hd1 : decide (un = S1)
                  · have hs1 : (un.toList == S1.toList) = false := by rw [str_dec]; exact hd1
                    rw [hd1] at HN
                    clear hd1 HIN
                    go_wp2_with fail
                    go_round
                    case rel => exact ⟨k + 1, by omega, by go_num, by rw [HN.out]; rfl⟩
                    case measure => simp [intOf]; omega
                  · have hs1 : (un.toList == S1.toList) = true := by rw [str_dec]; exact hd1
                    cases hd2 : decide (up = PS)
                    · have hs2 : (up.toList == PS.toList) = false := by rw [str_dec]; exact hd2
                      rw [hd1, hd2] at HN
                      clear hd1 hd2 HIN
                      go_wp2_with fail
                      go_round
                      case rel => exact ⟨k + 1, by omega, by go_num, by rw [HN.out]; rfl⟩
                      case measure => simp [intOf]; omega
                    · have hs2 : (up.toList == PS.toList) = true := by rw [str_dec]; exact hd2
                      have HRR : Hid (R = (⟨2, S1, s.tr, s.gone⟩, [[52]])) := hidden (by rw [HRE3.out, if_pos (HIN.out (by rw [hd1, hd2]; rfl))])
                      clear hd1 hd2 HIN HN HRE3
                      have hset := (set6i (set6i HBL.out (.bool true)).2.1 (.string S1)).2.2.1
                      rw [show decide (s.st ≠ 0) = true by rw [HS01.out]; rfl] at hset
                      have hk7 : Keeps (fun k => k = a) w6 ((w6.setCell ⟨a, 2, none⟩ (.bool true)).setCell ⟨a, 3, none⟩ (.string S1)) := (keepsSet w6 a 2 (.bool true)).trans (keepsSet _ a 3 (.string S1))
                      have HG7 : Hid (QG ((w6.setCell ⟨a, 2, none⟩ (.bool true)).setCell ⟨a, 3, none⟩ (.string S1)) a H U R.1) := hidden (by rw [HRR.out]; exact ⟨_, hset, HUSL.out.keep hk7 (fun k e h => by have := HV3.out k e; omega), HV3.out, by show 2 ≤ 2; omega, HS5.out⟩)
                      have HK7 := hidden (HI6.out.keep.trans (hk7.mono (fun k _ h => Or.inl h)))
                      have hsz7 : ((w6.setCell ⟨a, 2, none⟩ (.bool true)).setCell ⟨a, 3, none⟩ (.string S1)).heap.size = w6.heap.size := by simp
                      clear hset hk7
                      go_wp2_with fail
                      generalize (w6.setCell ⟨a, 2, none⟩ (.bool true)).setCell ⟨a, 3, none⟩ (.string S1) = w7 at HG7 HK7 hsz7 ⊢
                      rw [← hsz7]
                      have hle7 := HK7.out.size
                      clear hsz7
                      go_ret
                      refine ⟨_, rfl, ?_, HG7.out.still (((Keeps.refl _ _).alloc _).alloc _), (HK7.out.alloc _).alloc _⟩
                      rw [HRR.out]
                      have hb7 : BSl (w7.alloc (.cells #[.int .u8 52] 5)) (.slice (some ⟨w7.heap.size, 0, none⟩) 1 1) [52] := bsl_lit w7 [52] (by simp)
                      have hn7 := heap_alloc_new (w7.alloc (.cells #[.int .u8 52] 5)) (.cells #[.slice (some ⟨w7.heap.size, 0, none⟩) 1 1] 25)
                      rw [show (w7.alloc (.cells #[.int .u8 52] 5)).heap.size = w7.heap.size + 1 by simp] at hn7
                      exact .inr ⟨[52], w7.heap.size + 1, _, rfl, rfl, hn7, hb7.alloc _, by omega, fun k e => by simp [Value.ownBlock] at e; omega⟩
                · have i3 : ¬ (k : Int) < (U.length : Int) := by omega
                  have HRR : Hid (R = tryO s) := hidden (by rw [HRE3.out, ← List.take_of_length_le (show U.length ≤ k by omega), hkn, if_neg (by decide)])
                  clear hkn
                  go_wp2_with fail
                  refine (rtry_c w6 HI6.out.gt ht).mono ?_
                  rintro e w8 hp8
                  rw [← HRR.out] at hp8
                  have HP := hidden (QGPost.after HI6.out.keep (hp8.mono (fun k _ h => Or.inl h)))
                  obtain ⟨v8, rfl, _⟩ := hp8
                  clear HI6
                  go_wp2_with fail
                  go_ret
                  exact HP.out
          · have hst2 : (S3.toList == [112, 97, 115, 115, 119, 111, 114, 100]) = false := by rw [str_lit]; simpa [passB] using hm
            have HRE3 : Hid (R = tryO s) := hidden (by rw [HRE.out]; unfold logO; rw [← HS2.out, ← HS3.out, if_pos hc, if_neg hm])
            clear hc hm HRE
            go_wp2_with fail
            refine (rtry_c w3 HI3'.out.gt ht).mono ?_
            rintro e w8 hp8
            rw [← HRE3.out] at hp8
            have HP := hidden (QGPost.after HI3'.out.keep (hp8.mono (fun k _ h => Or.inl h)))
            obtain ⟨v8, rfl, _⟩ := hp8
            clear HI3'
            go_wp2_with fail
            go_ret
            exact HP.out
        · have hst : (S2.toList == [115, 115, 104, 45, 99, 111, 110, 110, 101, 99, 116, 105, 111, 110]) = false := by rw [str_lit]; simpa [connB] using hc
          have HRE3 : Hid (R = endO s 7) := hidden (by rw [HRE.out]; unfold logO; rw [← HS2.out, if_neg hc])
          clear hc HRE
          go_wp2_with fail
          refine (rbye_c 7 (by omega) w3 HI3'.out.gt).mono ?_
          rintro e w8 hp8
          rw [← HRE3.out] at hp8
          have HP := hidden (QGPost.after HI3'.out.keep (hp8.mono (fun k _ h => Or.inl h)))
          obtain ⟨v8, rfl, _⟩ := hp8
          clear HI3'
          go_wp2_with fail
          go_ret
          exact HP.out
  · have hrf := hq1 hz
    subst hrf
    have HRE : Hid (R = endO s 2) := hidden (by rw [HR.out, if_neg (by rintro ⟨h, _⟩; exact hz h)])
    clear hq0 hq1 hz HR
    go_wp2_with fail
    refine (rbye_c 2 (by omega) w3 HI3.out.gt).mono ?_
    rintro e w4 hp4
    rw [← HRE.out] at hp4
    have HP := hidden (QGPost.after HI3.out.keep (hp4.mono (fun k _ h => Or.inl h)))
    obtain ⟨v4, rfl, _⟩ := hp4
    clear HI3
    go_wp2_with fail
    go_ret
    exact HP.out

end Go.Proofs.Ytpildjijaigmfaa
