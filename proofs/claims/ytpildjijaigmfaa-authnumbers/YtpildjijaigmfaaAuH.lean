/- What a Gate's login does. -/
import Derived.Test.YtpildjijaigmfaaAuG
namespace Go.Proofs.Ytpildjijaigmfaa
open Go Go.RowKit

/-- What a login does whose texts were read: n the name, sv the service, m the method, re the rest. -/
def logO (U : List Usr) (s : GS) (n sv m : List UInt8) (re : List UInt8) : GS × List (List UInt8) :=
  if strB sv = connB then
    if strB m = passB then
      if (passOf re).2 = true then
        if knowsB U (strB n) (strB (passOf re).1) = true then (⟨2, strB n, s.tr, s.gone⟩, [[52]]) else tryO s
      else endO s 2
    else tryO s
  else endO s 7
def loginO (U : List Usr) (s : GS) (bs : List UInt8) (p : Nat) (why : Int) : GS × List (List UInt8) :=
  if (tx3 bs p why).2.2 = 0 then logO U s (tx bs p why 64).1 (tx2 bs p why).1 (tx3 bs p why).1 (restOf bs p why) else endO s 2

/-- A Gate, and a login in the box B. -/
structure GL (W w : World) (a rb B : Nat) (U : List Usr) (s : GS) (n sv m : List UInt8) (v : Value) (re : List UInt8) : Prop where
  g : GW w a U s
  box : LoginAt w B n sv m v
  rest : BSl w v re
  keep : Keeps (fun k => k = a ∨ k = rb) W w
  lt : a < B
  ne : v.ownBlock ≠ some a
theorem GL.fresh {W w w1 : World} {a rb B : Nat} {U : List Usr} {s : GS} {n sv m : List UInt8} {v : Value} {re : List UInt8} (h : GL W w a rb B U s n sv m v re) (hb : Below w.heap.size w w1) : GL W w1 a rb B U s n sv m v re :=
  ⟨h.g.fresh hb, (hb.block B (lt_of_block h.box)).trans h.box, h.rest.fresh hb, h.keep.trans (Keeps.ofFresh hb), h.lt, h.ne⟩

set_option maxHeartbeats 1600000 in
set_option maxRecDepth 100000 in
theorem login_c (w : World) {a rb : Nat} {U : List Usr} {s : GS} {g : Option Nat} {bs : List UInt8} {p : Nat} {why : Int} (hU : UB U) (h : GW w a U s) (ht : s.tr ≤ 4) (hr : WR w rb g bs p why) (hne : bs ≠ []) (har : a < rb) (hl : bs.length ≤ 1000000) :
    Calls Try.prog 44 #[.pointer (some ⟨a, 0, none⟩), .pointer (some ⟨rb, 0, none⟩)] w fun e w' => GPost (fun k => k = a ∨ k = rb) w a U (loginO U s bs p why) e w' := by
  have HS := hidden (readLogin_c w hr hne)
  have HG := hidden h
  have HRL : Hid ((restOf bs p why).length ≤ 1000000) := hidden (by unfold restOf; split <;> simp; omega)
  have halt := h.lt
  unfold loginV at HS
  unfold loginO
  generalize tx bs p why 64 = t1 at HS ⊢
  generalize tx2 bs p why = t2 at HS ⊢
  generalize tx3 bs p why = t3 at HS ⊢
  generalize restOf bs p why = re at HS HRL ⊢
  clear h hr hne
  by_cases hz : t3.2.2 = 0
  · rw [if_pos hz]
    have hd : decide (t3.2.2 = 0) = true := by simpa using hz
    rw [hd] at HS
    clear hz hd
    generalize t3.1 = m at *
    generalize t2.1 = sv at *
    generalize t1.1 = n at *
    have HL0 : Hid (∀ w1 v1, BSl w1 v1 re → (∀ k, v1.ownBlock = some k → w.heap.size ≤ k) → Keeps (fun k => k = rb) w w1 → GL w (w1.alloc (.cells #[.string (strB n), .string (strB sv), .string (strB m), v1] 94)) a rb w1.heap.size U s n sv m v1 re) := by
      refine hidden fun w1 v1 hb1 ho1 hk => ?_
      exact ⟨(HG.out.keep hk (fun k h1 h2 => by omega)).still ((Keeps.refl _ _).alloc _), heap_alloc_new w1 _, hb1.alloc _, (hk.mono (fun k _ h => Or.inr h)).alloc _, Nat.lt_of_lt_of_le halt hk.size, fun e => by have := ho1 a e; omega⟩
    unfold logO
    obtain ⟨SV, hSV⟩ : ∃ S, S = strB sv := ⟨_, rfl⟩
    obtain ⟨M, hM⟩ : ∃ S, S = strB m := ⟨_, rfl⟩
    obtain ⟨NM, hNM⟩ : ∃ S, S = strB n := ⟨_, rfl⟩
    rw [← hSV, ← hM, ← hNM] at HS HL0 ⊢
    have HSV := hidden hSV
    have HM := hidden hM
    have HNM := hidden hNM
    clear hSV hM hNM
    by_cases hc : SV = connB
    · rw [if_pos hc]
      have hst : (SV.toList == [115, 115, 104, 45, 99, 111, 110, 110, 101, 99, 116, 105, 111, 110]) = true := by rw [str_lit]; simpa [connB] using hc
      clear hc
      by_cases hm : M = passB
      · rw [if_pos hm]
        have hst2 : (M.toList == [112, 97, 115, 115, 119, 111, 114, 100]) = true := by rw [str_lit]; simpa [passB] using hm
        clear hm
        obtain ⟨Q, hQ⟩ : ∃ Q, Q = passOf re := ⟨_, rfl⟩
        have HQ := hidden hQ
        rw [← hQ]
        clear hQ
        obtain ⟨ps, ok⟩ := Q
        dsimp only
        obtain ⟨PS, hPS⟩ : ∃ S, S = strB ps := ⟨_, rfl⟩
        rw [← hPS]
        have HPS := hidden hPS
        clear hPS
        have HPL : Hid (PS.size ≤ 64) := hidden (by
          have h1 : (passOf re).1.length ≤ 64 := tx_len _ _ _ _
          rw [← HQ.out] at h1
          rw [HPS.out]
          simpa [strB, ByteArray.size] using h1)
        have HRP : Hid (∀ v1 w1, BSl w1 v1 re → Calls Try.prog 59 #[v1] w1 fun e w' => e = .returned (.tuple #[.string PS, .bool ok]) ∧ Below w1.heap.size w1 w') := hidden fun v1 w1 hb => by
          have := readPass_c v1 re w1 hb HRL.out
          rw [← HQ.out] at this
          dsimp only at this
          rw [← HPS.out] at this
          exact this
        have HKN : Hid (∀ w1, GW w1 a U s → Calls Try.prog 60 #[.pointer (some ⟨a, 0, none⟩), .string NM, .string PS] w1 fun e w' => e = .returned (.bool (knowsB U NM PS)) ∧ Below w1.heap.size w1 w') := hidden fun w1 hg => knows_c NM PS HPL.out w1 hU hg
        generalize hkb : knowsB U NM PS = kb at HKN ⊢
        clear hkb
        cases ok
        · rw [if_neg (by decide)]
          go_enter Try.func44, Try.ntmps44
          go_wp2_with fail
          refine HS.out.mono ?_
          rintro e w1 ⟨v1, rfl, hb1, ho1, hk⟩
          have HL1 := hidden (HL0.out w1 v1 hb1 ho1 hk)
          obtain ⟨ao, cp, rfl⟩ := hb1.len
          clear hk HS hb1 ho1 HL0
          generalize re.length = rl at *
          go_wp2_with fail
          refine (HRP.out _ _ HL1.out.rest).mono ?_
          rintro e w2 ⟨rfl, hb2⟩
          have HL2 := hidden (HL1.out.fresh hb2)
          clear HL1 hb2
          go_wp2_with fail
          refine (end_c 2 (by omega) _ HL2.out.g).mono ?_
          rintro e w3 hp
          have HP := hidden (GPost.after HL2.out.keep (hp.mono (fun k _ h => Or.inl h)))
          obtain ⟨v2, rfl, _⟩ := hp
          go_wp2_with fail
          go_ret
          exact HP.out
        · rw [if_pos rfl]
          cases kb
          · rw [if_neg (by decide)]
            go_enter Try.func44, Try.ntmps44
            go_wp2_with fail
            refine HS.out.mono ?_
            rintro e w1 ⟨v1, rfl, hb1, ho1, hk⟩
            have HL1 := hidden (HL0.out w1 v1 hb1 ho1 hk)
            obtain ⟨ao, cp, rfl⟩ := hb1.len
            clear hk HS hb1 ho1 HL0
            generalize re.length = rl at *
            go_wp2_with fail
            refine (HRP.out _ _ HL1.out.rest).mono ?_
            rintro e w2 ⟨rfl, hb2⟩
            have HL2 := hidden (HL1.out.fresh hb2)
            clear HL1 hb2
            have hbx := HL2.out.box
            unfold LoginAt at hbx
            rw [← HNM.out, ← HSV.out, ← HM.out] at hbx
            obtain ⟨k0, k1, k2, k3, kf⟩ := cells4 hbx
            clear hbx
            go_wp2_with fail
            refine (HKN.out _ HL2.out.g).mono ?_
            rintro e w3 ⟨rfl, hb3⟩
            have HL3 := hidden (HL2.out.fresh hb3)
            clear HL2 hb3 k0 k1 k2 k3 kf
            go_wp2_with fail
            refine (wrong_c _ HL3.out.g ht).mono ?_
            rintro e w4 hp
            have HP := hidden (GPost.after HL3.out.keep (hp.mono (fun k _ h => Or.inl h)))
            obtain ⟨v2, rfl, _⟩ := hp
            go_wp2_with fail
            go_ret
            exact HP.out
          · rw [if_pos rfl]
            obtain ⟨R, hR⟩ : ∃ R : GS × List (List UInt8), R = (⟨2, NM, s.tr, s.gone⟩, [[52]]) := ⟨_, rfl⟩
            rw [← hR]
            have HR := hidden hR
            clear hR
            go_enter Try.func44, Try.ntmps44
            go_wp2_with fail
            refine HS.out.mono ?_
            rintro e w1 ⟨v1, rfl, hb1, ho1, hk⟩
            have HL1 := hidden (HL0.out w1 v1 hb1 ho1 hk)
            obtain ⟨ao, cp, rfl⟩ := hb1.len
            clear hk HS hb1 ho1 HL0
            generalize re.length = rl at *
            go_wp2_with fail
            refine (HRP.out _ _ HL1.out.rest).mono ?_
            rintro e w2 ⟨rfl, hb2⟩
            have HL2 := hidden (HL1.out.fresh hb2)
            clear HL1 hb2
            have hbx := HL2.out.box
            unfold LoginAt at hbx
            rw [← HNM.out, ← HSV.out, ← HM.out] at hbx
            obtain ⟨k0, k1, k2, k3, kf⟩ := cells4 hbx
            clear hbx
            go_wp2_with fail
            refine (HKN.out _ HL2.out.g).mono ?_
            rintro e w3 ⟨rfl, hb3⟩
            have HL3 := hidden (HL2.out.fresh hb3)
            clear HL2 hb3 k0 k1 k2 k3 kf
            have hbx := HL3.out.box
            unfold LoginAt at hbx
            rw [← HNM.out, ← HSV.out, ← HM.out] at hbx
            obtain ⟨k0, k1, k2, k3, kf⟩ := cells4 hbx
            obtain ⟨v, h1, h2, h3, h4, h5⟩ := HL3.out.g
            obtain ⟨c0, c1, c2, c3, c4, hf⟩ := cells5 h1
            have hnb : a ≠ w1.heap.size := by have := HL3.out.lt; omega
            have HA := hidden h1
            have HB := hidden h2
            have HC := hidden h3
            have HD := hidden h5
            clear h1 h2 h3 h4 h5 hbx
            go_wp2_with fail
            go_region
            have hset := (set5i (set5i HA.out (.int .i64 2)).1 (.string NM)).2.1
            have hk4 : Keeps (fun k => k = a) w3 ((w3.setCell ⟨a, 1, none⟩ (.int .i64 2)).setCell ⟨a, 2, none⟩ (.string NM)).drew := ((keepsSet w3 a 1 (.int .i64 2)).trans (keepsSet _ a 2 (.string NM))).drew
            have HG4 : Hid (GW ((w3.setCell ⟨a, 1, none⟩ (.int .i64 2)).setCell ⟨a, 2, none⟩ (.string NM)).drew a U R.1) := hidden (by rw [HR.out]; exact ⟨v, hset, HB.out.keep hk4 (fun k e h => by have := HC.out k e; omega), HC.out, by show 2 ≤ 2; omega, HD.out⟩)
            have HK4 := hidden (HL3.out.keep.trans (hk4.mono (fun k _ h => Or.inl h)))
            clear hset hk4 HA HB HC HD HL3 k0 k1 k2 k3 kf c0 c1 c2 c3 c4 hf
            generalize ((w3.setCell ⟨a, 1, none⟩ (.int .i64 2)).setCell ⟨a, 2, none⟩ (.string NM)).drew = w4 at HG4 HK4 ⊢
            go_wp2_with fail
            refine (success_c w4).mono ?_
            rintro e w5 ⟨v5, rfl, ho, hb⟩
            obtain ⟨ao5, cp5, rfl⟩ := ownsRow_shape ho
            have HP : Hid (GPost (fun k => k = a ∨ k = rb) w a U R (.returned (.slice (some ⟨w5.heap.size, 0, none⟩) 1 1)) (w5.alloc (.cells #[.slice ao5 1 cp5] 25))) := by
              refine hidden ⟨_, rfl, ?_, ?_, ?_⟩
              · rw [HR.out]
                exact Ans.one ho HK4.out.size hb.size
              · exact (HG4.out.fresh hb).still ((Keeps.refl _ _).alloc _)
              · exact (HK4.out.trans (Keeps.ofFresh hb)).alloc _
            clear ho hb HG4 HK4 HR
            go_wp2_with fail
            go_ret
            exact HP.out
      · rw [if_neg hm]
        have hst2 : (M.toList == [112, 97, 115, 115, 119, 111, 114, 100]) = false := by rw [str_lit]; simpa [passB] using hm
        clear hm
        go_enter Try.func44, Try.ntmps44
        go_wp2_with fail
        refine HS.out.mono ?_
        rintro e w1 ⟨v1, rfl, hb1, ho1, hk⟩
        have HL1 := hidden (HL0.out w1 v1 hb1 ho1 hk)
        obtain ⟨ao, cp, rfl⟩ := hb1.len
        clear hk HS hb1 ho1 HL0
        generalize re.length = rl at *
        go_wp2_with fail
        refine (wrong_c _ HL1.out.g ht).mono ?_
        rintro e w2 hp
        have HP := hidden (GPost.after HL1.out.keep (hp.mono (fun k _ h => Or.inl h)))
        obtain ⟨v2, rfl, _⟩ := hp
        go_wp2_with fail
        go_ret
        exact HP.out
    · rw [if_neg hc]
      have hst : (SV.toList == [115, 115, 104, 45, 99, 111, 110, 110, 101, 99, 116, 105, 111, 110]) = false := by rw [str_lit]; simpa [connB] using hc
      clear hc
      go_enter Try.func44, Try.ntmps44
      go_wp2_with fail
      refine HS.out.mono ?_
      rintro e w1 ⟨v1, rfl, hb1, ho1, hk⟩
      have HL1 := hidden (HL0.out w1 v1 hb1 ho1 hk)
      obtain ⟨ao, cp, rfl⟩ := hb1.len
      clear hk HS hb1 ho1 HL0
      generalize re.length = rl at *
      go_wp2_with fail
      refine (end_c 7 (by omega) _ HL1.out.g).mono ?_
      rintro e w2 hp
      have HP := hidden (GPost.after HL1.out.keep (hp.mono (fun k _ h => Or.inl h)))
      obtain ⟨v2, rfl, _⟩ := hp
      go_wp2_with fail
      go_ret
      exact HP.out
  · rw [if_neg hz]
    have hd : decide (t3.2.2 = 0) = false := by simpa using hz
    rw [hd] at HS
    clear hz hd
    go_enter Try.func44, Try.ntmps44
    go_wp2_with fail
    refine HS.out.mono ?_
    rintro e w1 ⟨v1, rfl, hb1, ho1, hk⟩
    obtain ⟨ao, cp, rfl⟩ := hb1.len
    have HG1 := hidden (HG.out.keep hk (fun k h1 h2 => by omega))
    have HK := hidden hk
    clear HG hk HS hb1 ho1
    generalize re.length = n at *
    go_wp2_with fail
    refine (end_c 2 (by omega) _ (HG1.out.still ((Keeps.refl _ _).alloc _))).mono ?_
    rintro e w2 hp
    have HP := hidden (GPost.after ((HK.out.mono (fun k _ h => Or.inr h)).alloc _) (hp.mono (fun k _ h => Or.inl h)))
    obtain ⟨v2, rfl, _⟩ := hp
    go_wp2_with fail
    go_ret
    exact HP.out

end Go.Proofs.Ytpildjijaigmfaa
