/- What a Gate's step, Do, User and Dead do, and New. -/
import Derived.Test.YtpildjijaigmfaaAuH
namespace Go.Proofs.Ytpildjijaigmfaa
open Go Go.RowKit

def stepO (U : List Usr) (s : GS) (k : Nat) (bs : List UInt8) (p : Nat) (why : Int) : GS × List (List UInt8) :=
  if s.st = 0 then (if k = 5 then servO s bs p why else endO s 2)
  else if s.st = 1 then (if k = 50 then loginO U s bs p why else endO s 2)
  else (if k = 50 then lateO s bs p why else endO s 2)

set_option maxHeartbeats 1600000 in
set_option maxRecDepth 100000 in
theorem step_c (k : Nat) (w : World) {a rb : Nat} {U : List Usr} {s : GS} {g : Option Nat} {bs : List UInt8} {p : Nat} {why : Int} (hU : UB U) (h : GW w a U s) (ht : s.tr ≤ 4) (hr : WR w rb g bs p why) (hne : bs ≠ []) (har : a < rb) (hl : bs.length ≤ 1000000) :
    Calls Try.prog 33 #[.pointer (some ⟨a, 0, none⟩), .int .i64 k, .pointer (some ⟨rb, 0, none⟩)] w fun e w' => GPost (fun k => k = a ∨ k = rb) w a U (stepO U s k bs p why) e w' := by
  have H2 := hidden (service_c w h hr har)
  have H3 := hidden (login_c w hU h ht hr hne har hl)
  have H4 := hidden (lateLogin_c w h hr hne har)
  have H5 := hidden (end_c 2 (by omega) w h)
  obtain ⟨v, h1, h2, h3, h4, h5⟩ := h
  obtain ⟨c0, c1, c2, c3, c4, hf⟩ := cells5 h1
  unfold stepO
  clear h1 h2 h3 h5
  obtain ⟨st, nm, tr, gone⟩ := s
  dsimp only at *
  have hst : st = 0 ∨ st = 1 ∨ st = 2 := by omega
  rcases hst with rfl | rfl | rfl
  · by_cases h5 : k = 5
    · rw [if_pos rfl, if_pos h5]
      have hb : ((k : Int) == 5) = true := by simp; omega
      clear h5
      generalize servO _ bs p why = R at *
      go_enter Try.func33, Try.ntmps33
      go_wp2_with fail
      refine H2.out.mono ?_
      rintro e w2 hp
      have HP := hidden hp
      obtain ⟨v2, rfl, _⟩ := hp
      clear H2 H3 H4 H5
      go_wp2_with fail
      go_ret
      exact HP.out
    · rw [if_pos rfl, if_neg h5]
      have hb : ((k : Int) == 5) = false := by simp; omega
      clear h5
      generalize endO _ 2 = R at *
      go_enter Try.func33, Try.ntmps33
      go_wp2_with fail
      refine H5.out.mono ?_
      rintro e w2 hp
      have HP := hidden (hp.mono (S' := fun k => k = a ∨ k = rb) (fun k _ h => Or.inl h))
      obtain ⟨v2, rfl, _⟩ := hp
      clear H2 H3 H4 H5
      go_wp2_with fail
      go_ret
      exact HP.out
  · by_cases h5 : k = 50
    · rw [if_neg (by decide), if_pos rfl, if_pos h5]
      have hb : ((k : Int) == 50) = true := by simp; omega
      clear h5
      generalize loginO U _ bs p why = R at *
      go_enter Try.func33, Try.ntmps33
      go_wp2_with fail
      refine H3.out.mono ?_
      rintro e w2 hp
      have HP := hidden hp
      obtain ⟨v2, rfl, _⟩ := hp
      clear H2 H3 H4 H5
      go_wp2_with fail
      go_ret
      exact HP.out
    · rw [if_neg (by decide), if_pos rfl, if_neg h5]
      have hb : ((k : Int) == 50) = false := by simp; omega
      clear h5
      generalize endO _ 2 = R at *
      go_enter Try.func33, Try.ntmps33
      go_wp2_with fail
      refine H5.out.mono ?_
      rintro e w2 hp
      have HP := hidden (hp.mono (S' := fun k => k = a ∨ k = rb) (fun k _ h => Or.inl h))
      obtain ⟨v2, rfl, _⟩ := hp
      clear H2 H3 H4 H5
      go_wp2_with fail
      go_ret
      exact HP.out
  · by_cases h5 : k = 50
    · rw [if_neg (by decide), if_neg (by decide), if_pos h5]
      have hb : ((k : Int) == 50) = true := by simp; omega
      clear h5
      generalize lateO _ bs p why = R at *
      go_enter Try.func33, Try.ntmps33
      go_wp2_with fail
      refine H4.out.mono ?_
      rintro e w2 hp
      have HP := hidden hp
      obtain ⟨v2, rfl, _⟩ := hp
      clear H2 H3 H4 H5
      go_wp2_with fail
      go_ret
      exact HP.out
    · rw [if_neg (by decide), if_neg (by decide), if_neg h5]
      have hb : ((k : Int) == 50) = false := by simp; omega
      clear h5
      generalize endO _ 2 = R at *
      go_enter Try.func33, Try.ntmps33
      go_wp2_with fail
      refine H5.out.mono ?_
      rintro e w2 hp
      have HP := hidden (hp.mono (S' := fun k => k = a ∨ k = rb) (fun k _ h => Or.inl h))
      obtain ⟨v2, rfl, _⟩ := hp
      clear H2 H3 H4 H5
      go_wp2_with fail
      go_ret
      exact HP.out

/-- What a Gate at s does with the payload bs. -/
def doO (U : List Usr) (s : GS) (bs : List UInt8) : GS × List (List UInt8) :=
  match bs with
  | [] => (s, [])
  | x :: r => if s.gone = true then (s, []) else if x.toNat = 1 then (⟨s.st, s.nm, s.tr, true⟩, []) else if x.toNat = 2 ∨ x.toNat = 3 ∨ x.toNat = 4 then (s, []) else stepO U s x.toNat (x :: r) 1 0

theorem val_one (x : UInt8) : val [x] = x.toNat := by simp [val, valFrom]
theorem tk_head (x : UInt8) (r : List UInt8) : tk (x :: r) 0 0 1 = ([x], 1, 0) := by
  unfold tk
  rw [if_pos rfl, if_neg (by simp)]
  simp

set_option maxHeartbeats 1600000 in
set_option maxRecDepth 100000 in
theorem do_c (v : Value) (bs : List UInt8) (w : World) (hv : BSl w v bs) (hl : bs.length ≤ 1000000) {a : Nat} {U : List Usr} {s : GS} (hU : UB U) (h : GW w a U s) (ht : s.gone = false → s.tr ≤ 4) :
    Calls Try.prog 16 #[.pointer (some ⟨a, 0, none⟩), v] w fun e w' => GPost (fun k => k = a) w a U (doO U s bs) e w' := by
  have HG := hidden h
  have halt := h.lt
  have HV := hidden hv
  obtain ⟨u, h1, h2, h3, h4, h5⟩ := h
  obtain ⟨c0, c1, c2, c3, c4, hf⟩ := cells5 h1
  clear h2 h3 h4 h5
  have HA := hidden h1
  clear h1
  obtain ⟨ao, cap, rfl⟩ := hv.len
  cases bs with
  | nil =>
    unfold doO
    clear hv
    go_enter Try.func16, Try.ntmps16
    cases hgo : s.gone
    · rw [hgo] at c4
      go_wp2_with fail
      go_ret
      exact ⟨_, rfl, Ans.nil' _ _, HG.out, Keeps.refl _ _⟩
    · rw [hgo] at c4
      go_wp2_with fail
      go_ret
      exact ⟨_, rfl, Ans.nil' _ _, HG.out, Keeps.refl _ _⟩
  | cons x r =>
    unfold doO
    obtain ⟨b, hgo⟩ : ∃ b, b = s.gone := ⟨_, rfl⟩
    rw [← hgo] at c4
    dsimp only
    rw [← hgo]
    cases b
    · rw [if_neg (by decide)]
      have HT := hidden (ht hgo.symm)
      clear ht hgo
      have HN := hidden (newReader_c _ (x :: r) w HV.out (by omega))
      have hxl := x.toNat_lt
      obtain ⟨k, hk⟩ : ∃ k, k = x.toNat := ⟨_, rfl⟩
      have HB : Hid (∀ w1 rb g, WR w1 rb g (x :: r) 0 0 → Calls Try.prog 32 #[.pointer (some ⟨rb, 0, none⟩)] w1 fun e w' => e = .returned (.int .i64 (k : Int)) ∧ Took rb g (x :: r) 1 0 w1 w') := hidden fun w1 rb g hr => by
        have := byte_r w1 hr
        rw [tk_head] at this
        refine this.mono ?_
        rintro e w2 ⟨rfl, ht⟩
        exact ⟨by rw [hk, val_one], ht⟩
      have hk255 : k ≤ 255 := by omega
      rw [← hk]
      clear hk hv
      have HE : Hid ((x :: r) ≠ []) := hidden (by simp)
      generalize (x :: r) = bs at *
      have HLL := hidden hl
      have hb0 : ((bs.length : Int) == 0) = false := by
        have := HE.out
        have : bs.length ≠ 0 := fun e => this (List.eq_nil_of_length_eq_zero e)
        simp; omega
      clear hl hxl
      by_cases k1 : k = 1
      · rw [if_pos k1]
        have t1 : ((k : Int) == 1) = true := by simp; omega
        clear k1
        go_enter Try.func16, Try.ntmps16
        go_wp2_with fail
        refine HN.out.mono ?_
        rintro e w1 ⟨rb, g, rfl, hr, hrb, hg, hb⟩
        have HR1 := hidden hr
        have HG1 := hidden (HG.out.fresh hb)
        have HK1 : Hid (Keeps (fun k => k = a) w w1) := hidden (Keeps.ofFresh hb)
        clear HN hr hg hb
        go_wp2_with fail
        refine (HB.out w1 rb g HR1.out).mono ?_
        rintro e w2 ⟨rfl, ht⟩
        have har : a < rb := by omega
        have HR2 := hidden ht.state
        have HG2 := hidden (HG1.out.keep ht.keeps (fun k h1 h2 => by omega))
        have HK2 : Hid (Keeps (fun k => k = a) w w2) := hidden ⟨ht.keeps.os.trans HK1.out.os, ht.keeps.tape.trans HK1.out.tape, ht.keeps.output.trans HK1.out.output, Nat.le_trans HK1.out.size ht.keeps.size, fun j j1 j2 => (ht.keeps.block j (Nat.lt_of_lt_of_le j1 HK1.out.size) (by omega)).trans (HK1.out.block j j1 j2)⟩
        clear ht HR1 HG1 HK1 HB
        obtain ⟨u2, h1, h2, h3, h4, h5⟩ := HG2.out
        obtain ⟨d0, d1, d2, d3, d4, df⟩ := cells5 h1
        have HG3 : Hid (GW (w2.setCell ⟨a, 4, none⟩ (.bool true)) a U ⟨s.st, s.nm, s.tr, true⟩) := hidden (GW.set (s' := ⟨s.st, s.nm, s.tr, true⟩) h2 h3 h4 h5 (set5i h1 _).2.2.2)
        have HK3 := hidden (HK2.out.trans (keepsSet w2 a 4 (.bool true)))
        clear h1 h2 h3 h4 h5 c0 c1 c2 c3 c4 hf HA HG
        go_wp2_with fail
        go_ret
        exact ⟨_, rfl, Ans.nil' _ _, HG3.out, HK3.out⟩
      · rw [if_neg k1]
        have t1 : ((k : Int) == 1) = false := by simp; omega
        by_cases k2 : k = 2 ∨ k = 3 ∨ k = 4
        · rw [if_pos k2]
          rcases k2 with k2 | k2 | k2
          · have t2 : ((k : Int) == 2) = true := by simp; omega
            clear k1 k2
            go_enter Try.func16, Try.ntmps16
            go_wp2_with fail
            refine HN.out.mono ?_
            rintro e w1 ⟨rb, g, rfl, hr, hrb, hg, hb⟩
            have HR1 := hidden hr
            have HG1 := hidden (HG.out.fresh hb)
            have HK1 : Hid (Keeps (fun k => k = a) w w1) := hidden (Keeps.ofFresh hb)
            clear HN hr hg hb
            go_wp2_with fail
            refine (HB.out w1 rb g HR1.out).mono ?_
            rintro e w2 ⟨rfl, ht⟩
            have har : a < rb := by omega
            have HR2 := hidden ht.state
            have HG2 := hidden (HG1.out.keep ht.keeps (fun k h1 h2 => by omega))
            have HK2 : Hid (Keeps (fun k => k = a) w w2) := hidden ⟨ht.keeps.os.trans HK1.out.os, ht.keeps.tape.trans HK1.out.tape, ht.keeps.output.trans HK1.out.output, Nat.le_trans HK1.out.size ht.keeps.size, fun j j1 j2 => (ht.keeps.block j (Nat.lt_of_lt_of_le j1 HK1.out.size) (by omega)).trans (HK1.out.block j j1 j2)⟩
            clear ht HR1 HG1 HK1 HB
            clear c0 c1 c2 c3 c4 hf HA HG HR2
            go_wp2_with fail
            go_ret
            exact ⟨_, rfl, Ans.nil' _ _, HG2.out, HK2.out⟩
          · have t2 : ((k : Int) == 2) = false := by simp; omega
            have t3 : ((k : Int) == 3) = true := by simp; omega
            clear k1 k2
            go_enter Try.func16, Try.ntmps16
            go_wp2_with fail
            refine HN.out.mono ?_
            rintro e w1 ⟨rb, g, rfl, hr, hrb, hg, hb⟩
            have HR1 := hidden hr
            have HG1 := hidden (HG.out.fresh hb)
            have HK1 : Hid (Keeps (fun k => k = a) w w1) := hidden (Keeps.ofFresh hb)
            clear HN hr hg hb
            go_wp2_with fail
            refine (HB.out w1 rb g HR1.out).mono ?_
            rintro e w2 ⟨rfl, ht⟩
            have har : a < rb := by omega
            have HR2 := hidden ht.state
            have HG2 := hidden (HG1.out.keep ht.keeps (fun k h1 h2 => by omega))
            have HK2 : Hid (Keeps (fun k => k = a) w w2) := hidden ⟨ht.keeps.os.trans HK1.out.os, ht.keeps.tape.trans HK1.out.tape, ht.keeps.output.trans HK1.out.output, Nat.le_trans HK1.out.size ht.keeps.size, fun j j1 j2 => (ht.keeps.block j (Nat.lt_of_lt_of_le j1 HK1.out.size) (by omega)).trans (HK1.out.block j j1 j2)⟩
            clear ht HR1 HG1 HK1 HB
            clear c0 c1 c2 c3 c4 hf HA HG HR2
            go_wp2_with fail
            go_ret
            exact ⟨_, rfl, Ans.nil' _ _, HG2.out, HK2.out⟩
          · have t2 : ((k : Int) == 2) = false := by simp; omega
            have t3 : ((k : Int) == 3) = false := by simp; omega
            have t4 : ((k : Int) == 4) = true := by simp; omega
            clear k1 k2
            go_enter Try.func16, Try.ntmps16
            go_wp2_with fail
            refine HN.out.mono ?_
            rintro e w1 ⟨rb, g, rfl, hr, hrb, hg, hb⟩
            have HR1 := hidden hr
            have HG1 := hidden (HG.out.fresh hb)
            have HK1 : Hid (Keeps (fun k => k = a) w w1) := hidden (Keeps.ofFresh hb)
            clear HN hr hg hb
            go_wp2_with fail
            refine (HB.out w1 rb g HR1.out).mono ?_
            rintro e w2 ⟨rfl, ht⟩
            have har : a < rb := by omega
            have HR2 := hidden ht.state
            have HG2 := hidden (HG1.out.keep ht.keeps (fun k h1 h2 => by omega))
            have HK2 : Hid (Keeps (fun k => k = a) w w2) := hidden ⟨ht.keeps.os.trans HK1.out.os, ht.keeps.tape.trans HK1.out.tape, ht.keeps.output.trans HK1.out.output, Nat.le_trans HK1.out.size ht.keeps.size, fun j j1 j2 => (ht.keeps.block j (Nat.lt_of_lt_of_le j1 HK1.out.size) (by omega)).trans (HK1.out.block j j1 j2)⟩
            clear ht HR1 HG1 HK1 HB
            clear c0 c1 c2 c3 c4 hf HA HG HR2
            go_wp2_with fail
            go_ret
            exact ⟨_, rfl, Ans.nil' _ _, HG2.out, HK2.out⟩
        · rw [if_neg k2]
          have t2 : ((k : Int) == 2) = false := by simp; omega
          have t3 : ((k : Int) == 3) = false := by simp; omega
          have t4 : ((k : Int) == 4) = false := by simp; omega
          clear k1 k2
          have HS : Hid (∀ w2 rb g, a < rb → GW w2 a U s → WR w2 rb g bs 1 0 → Calls Try.prog 33 #[.pointer (some ⟨a, 0, none⟩), .int .i64 (k : Int), .pointer (some ⟨rb, 0, none⟩)] w2 fun e w' => GPost (fun j => j = a ∨ j = rb) w2 a U (stepO U s k bs 1 0) e w') := hidden fun w2 rb g j1 j2 j3 => step_c k w2 hU j2 HT.out j3 HE.out j1 HLL.out
          generalize stepO U s k bs 1 0 = R at *
          go_enter Try.func16, Try.ntmps16
          go_wp2_with fail
          refine HN.out.mono ?_
          rintro e w1 ⟨rb, g, rfl, hr, hrb, hg, hb⟩
          have HR1 := hidden hr
          have HG1 := hidden (HG.out.fresh hb)
          have HK1 : Hid (Keeps (fun k => k = a) w w1) := hidden (Keeps.ofFresh hb)
          clear HN hr hg hb
          go_wp2_with fail
          refine (HB.out w1 rb g HR1.out).mono ?_
          rintro e w2 ⟨rfl, ht⟩
          have har : a < rb := by omega
          have HR2 := hidden ht.state
          have HG2 := hidden (HG1.out.keep ht.keeps (fun k h1 h2 => by omega))
          have HK2 : Hid (Keeps (fun k => k = a) w w2) := hidden ⟨ht.keeps.os.trans HK1.out.os, ht.keeps.tape.trans HK1.out.tape, ht.keeps.output.trans HK1.out.output, Nat.le_trans HK1.out.size ht.keeps.size, fun j j1 j2 => (ht.keeps.block j (Nat.lt_of_lt_of_le j1 HK1.out.size) (by omega)).trans (HK1.out.block j j1 j2)⟩
          clear ht HR1 HG1 HK1 HB
          clear c0 c1 c2 c3 c4 hf HA HG
          go_wp2_with fail
          refine (HS.out w2 rb g har HG2.out HR2.out).mono ?_
          rintro e w3 hp
          have HP : Hid (GPost (fun k => k = a) w a U R e w3) := by
            obtain ⟨v3, q1, q2, q3, q4⟩ := hp
            have hsz := HK2.out.size
            exact hidden ⟨v3, q1, q2.mono HK2.out.size, q3, ⟨q4.os.trans HK2.out.os, q4.tape.trans HK2.out.tape, q4.output.trans HK2.out.output, Nat.le_trans HK2.out.size q4.size, fun j j1 j2 => (q4.block j (Nat.lt_of_lt_of_le j1 HK2.out.size) (by omega)).trans (HK2.out.block j j1 j2)⟩⟩
          obtain ⟨v3, rfl, _⟩ := hp
          clear HS HG2 HR2 HK2
          go_wp2_with fail
          go_ret
          exact HP.out
    · rw [if_pos rfl]
      clear ht hgo hv
      generalize (x :: r).length = bl at *
      go_enter Try.func16, Try.ntmps16
      go_wp2_with fail
      go_ret
      exact ⟨_, rfl, Ans.nil' _ _, HG.out, Keeps.refl _ _⟩

end Go.Proofs.Ytpildjijaigmfaa
