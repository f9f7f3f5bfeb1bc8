/- What the document's Gate does with a payload: what the program's does. -/
import Derived.Test.YtpildjijaigmfaaAuS
namespace Go.Proofs.Ytpildjijaigmfaa
open Go Go.RowKit

theorem ask_step (U : List Usr) (s : GS) (bs : List UInt8) (h : s.st ≤ 2) : askO U s bs 1 0 = stepO U s 50 bs 1 0 := by
  unfold askO stepO
  by_cases h0 : s.st = 0
  · rw [if_neg (by rintro ⟨_, h⟩; exact h h0), if_pos h0, if_neg (by decide)]
  · rw [if_neg h0]
    by_cases h1 : s.st = 1
    · rw [if_pos h1, if_pos rfl]
      unfold loginO
      by_cases hz : (tx3 bs 1 0).2.2 = 0
      · rw [if_pos ⟨hz, h0⟩, if_neg (by omega), if_pos hz]
      · rw [if_neg (by rintro ⟨h, _⟩; exact hz h), if_neg hz]
    · rw [if_neg h1, if_pos rfl]
      unfold lateO
      by_cases hz : (tx3 bs 1 0).2.2 = 0
      · rw [if_pos ⟨hz, h0⟩, if_pos (by omega), if_pos hz]
      · rw [if_neg (by rintro ⟨h, _⟩; exact hz h), if_neg hz]
theorem other_step (U : List Usr) (s : GS) (k : Nat) (bs : List UInt8) (h5 : k ≠ 5) (h50 : k ≠ 50) : stepO U s k bs 1 0 = endO s 2 := by
  unfold stepO
  rw [if_neg h5, if_neg h50, if_neg h50]
  split
  · rfl
  · split <;> rfl
/-- What the document does with a 5. -/
def servQ (s : GS) (t : List UInt8 × Nat × Int) (d : Bool) : GS × List (List UInt8) :=
  if d = true ∧ s.st = 0 then (if strB t.1 = userauthB then (⟨1, s.nm, s.tr, s.gone⟩, [accL t.1]) else endO s 7) else endO s 2
theorem serv_step (U : List Usr) (s : GS) (bs : List UInt8) : servQ s (tx bs 1 0 64) (wholeB bs (tx bs 1 0 64).2.1 (tx bs 1 0 64).2.2) = stepO U s 5 bs 1 0 := by
  unfold servQ stepO
  by_cases h0 : s.st = 0
  · rw [if_pos h0, if_pos rfl]
    unfold servO
    by_cases hz : wholeB bs (tx bs 1 0 64).2.1 (tx bs 1 0 64).2.2 = true
    · rw [if_pos ⟨hz, h0⟩, if_pos hz]
    · rw [if_neg (by rintro ⟨h, _⟩; exact hz h), if_neg hz]
  · rw [if_neg (by rintro ⟨_, h⟩; exact h0 h), if_neg h0]
    split
    · rw [if_neg (by decide)]
    · rw [if_neg (by decide)]

theorem QI.post {W w w1 : World} {a rb : Nat} {H : Nat} {U : List Usr} {r : GS × List (List UInt8)} {e : Ending} (hrb : W.heap.size ≤ rb) (h : QGPost (fun k => k = a ∨ k = rb) W a H U r e w1) (_ : W = w) : QGPost (fun k => k = a) W a H U r e w1 := by
  obtain ⟨v, h1, h2, h3, h4⟩ := h
  exact ⟨v, h1, h2, h3, h4.mono (fun k hk h => by rcases h with h | h <;> omega)⟩

set_option maxHeartbeats 3200000 in
set_option maxRecDepth 100000 in
theorem rdo_c (v : Value) (bs : List UInt8) (w : World) (hv : BSl w v bs) (hl : bs.length ≤ 1000000) {a : Nat} {H : Nat} {U : List Usr} {s : GS} (hU : UB U) (h : QG w a H U s) (ht : s.gone = false → s.tr ≤ 4) :
    Calls Try.prog 22 #[.pointer (some ⟨a, 0, none⟩), v] w fun e w' => QGPost (fun k => k = a) w a H U (doO U s bs) e w' := by
  have HG := hidden h
  have halt := h.lt
  have HV := hidden hv
  obtain ⟨u, h1, h2, h3, h4, h5⟩ := h
  obtain ⟨c0, c1, c2, c3, c4, c5, hf⟩ := cells6q h1
  have HST := hidden h4
  clear h1 h2 h3 h4 h5
  obtain ⟨ao, cap, rfl⟩ := hv.len
  cases bs with
  | nil =>
    unfold doO
    clear hv
    go_enter Try.func22, Try.ntmps22
    cases hgo : s.gone
    · rw [hgo] at c5
      go_wp2_with fail
      go_ret
      exact ⟨_, rfl, Ans.nil' _ _, HG.out, Keeps.refl _ _⟩
    · rw [hgo] at c5
      go_wp2_with fail
      go_ret
      exact ⟨_, rfl, Ans.nil' _ _, HG.out, Keeps.refl _ _⟩
  | cons x r =>
    have hown : ∀ k, (Value.slice ao (x :: r).length cap).ownBlock = some k → k < w.heap.size := hv.blockLt
    have HQ0 : Hid (QI w (w.alloc (.cells #[.slice ao (x :: r).length cap, .int .i64 0, .bool false, .int .i64 0, .int .i64 0] 68)) a w.heap.size ((Value.slice ao (x :: r).length cap).ownBlock) H U s (x :: r) 0 0) := by
      refine hidden ⟨HG.out.still ((Keeps.refl _ _).alloc _), ⟨_, 0, false, 0, 0, heap_alloc_new w _, HV.out.alloc _, rfl, fun e => ?_, by omega, by omega, .inl ⟨rfl, rfl, rfl⟩⟩, (Keeps.refl _ _).alloc _, halt⟩
      have := hown _ e
      omega
    unfold doO
    obtain ⟨b, hgo⟩ : ∃ b, b = s.gone := ⟨_, rfl⟩
    rw [← hgo] at c5
    dsimp only
    rw [← hgo]
    cases b
    · rw [if_neg (by decide)]
      have HT := hidden (ht hgo.symm)
      clear ht hgo hown
      have hxl := x.toNat_lt
      obtain ⟨k, hk⟩ : ∃ k, k = x.toNat := ⟨_, rfl⟩
      have HB : Hid (∀ w1 rb g, QR w1 rb g (x :: r) 0 0 → Calls Try.prog 35 #[.pointer (some ⟨rb, 0, none⟩)] w1 fun e w' => e = .returned (.int .i64 (k : Int)) ∧ QTook rb g (x :: r) 1 0 w1 w') := hidden fun w1 rb g hr => by
        have := qbyte_c w1 hr
        rw [tk_head] at this
        refine this.mono ?_
        rintro e w2 ⟨rfl, ht⟩
        exact ⟨by rw [hk, val_one], ht⟩
      have hk255 : k ≤ 255 := by omega
      rw [← hk]
      clear hk hv
      have H1L : Hid (1 ≤ (x :: r).length) := hidden (by simp)
      generalize (x :: r) = bs at *
      have hb0 : ((bs.length : Int) == 0) = false := beq_false_of_ne (by have := H1L.out; omega)
      have HBN : Hid (bs.length = bs.length) := hidden rfl
      clear hxl HV hl HBN
      obtain ⟨go, hgo⟩ : ∃ g, g = (Value.slice ao bs.length cap).ownBlock := ⟨_, rfl⟩
      rw [← hgo] at HQ0
      clear hgo
      generalize hbl : bs.length = bl at *
      have HBL := hidden hbl
      clear hbl
      by_cases k1 : k = 1
      · rw [if_pos k1]
        have t1 : ((k : Int) == 1) = true := by simp; omega
        clear k1
        go_enter Try.func22, Try.ntmps22
        go_wp2_with fail
        generalize w.alloc (.cells #[.slice ao bl cap, .int .i64 0, .bool false, .int .i64 0, .int .i64 0] 68) = w1 at HQ0 ⊢
        obtain ⟨rb, hrb⟩ : ∃ rb, rb = w.heap.size := ⟨_, rfl⟩
        rw [← hrb] at HQ0 ⊢
        have HRB := hidden hrb
        clear hrb
        refine (HB.out w1 rb go HQ0.out.r).mono ?_
        rintro e w2 ⟨rfl, t2⟩
        have HQ2 := hidden (HQ0.out.took t2)
        clear t2 HQ0 HB c0 c1 c2 c3 c4 c5 hf
        obtain ⟨u2, h1, h2, h3, h4, h5⟩ := HQ2.out.gt
        obtain ⟨d0, d1, d2, d3, d4, d5, df⟩ := cells6q h1
        have HG3 : Hid (QG (w2.setCell ⟨a, 5, none⟩ (.bool true)) a H U ⟨s.st, s.nm, s.tr, true⟩) := hidden (QG.set (s' := ⟨s.st, s.nm, s.tr, true⟩) h2 h3 h4 h5 (set6i h1 _).2.2.2.2)
        have HK3 : Hid (Keeps (fun k => k = a) w (w2.setCell ⟨a, 5, none⟩ (.bool true))) := hidden ((HQ2.out.keep.mono (fun k hk h => by have := HRB.out; rcases h with h | h <;> omega)).trans (keepsSet w2 a 5 (.bool true)))
        clear h1 h2 h3 h4 h5 HG
        go_wp2_with fail
        go_ret
        exact ⟨_, rfl, Ans.nil' _ _, HG3.out, HK3.out⟩
      · rw [if_neg k1]
        have t1 : ((k : Int) == 1) = false := by simp; omega
        by_cases k2 : k = 2 ∨ k = 3 ∨ k = 4
        · rw [if_pos k2]
          rcases k2 with k2 | k2 | k2
          · have t2 : ((k : Int) == 2) = true := by simp; omega
            clear k1 k2
            go_enter Try.func22, Try.ntmps22
            go_wp2_with fail
            generalize w.alloc (.cells #[.slice ao bl cap, .int .i64 0, .bool false, .int .i64 0, .int .i64 0] 68) = w1 at HQ0 ⊢
            obtain ⟨rb, hrb⟩ : ∃ rb, rb = w.heap.size := ⟨_, rfl⟩
            rw [← hrb] at HQ0 ⊢
            have HRB := hidden hrb
            clear hrb
            refine (HB.out w1 rb go HQ0.out.r).mono ?_
            rintro e w2 ⟨rfl, t2⟩
            have HQ2 := hidden (HQ0.out.took t2)
            clear t2 HQ0 HB c0 c1 c2 c3 c4 c5 hf
            go_wp2_with fail
            go_ret
            exact ⟨_, rfl, Ans.nil' _ _, HQ2.out.gt, HQ2.out.keep.mono (fun k hk h => by have := HRB.out; rcases h with h | h <;> omega)⟩
          · have t2 : ((k : Int) == 2) = false := by simp; omega
            have t3 : ((k : Int) == 3) = true := by simp; omega
            clear k1 k2
            go_enter Try.func22, Try.ntmps22
            go_wp2_with fail
            generalize w.alloc (.cells #[.slice ao bl cap, .int .i64 0, .bool false, .int .i64 0, .int .i64 0] 68) = w1 at HQ0 ⊢
            obtain ⟨rb, hrb⟩ : ∃ rb, rb = w.heap.size := ⟨_, rfl⟩
            rw [← hrb] at HQ0 ⊢
            have HRB := hidden hrb
            clear hrb
            refine (HB.out w1 rb go HQ0.out.r).mono ?_
            rintro e w2 ⟨rfl, t2⟩
            have HQ2 := hidden (HQ0.out.took t2)
            clear t2 HQ0 HB c0 c1 c2 c3 c4 c5 hf
            go_wp2_with fail
            go_ret
            exact ⟨_, rfl, Ans.nil' _ _, HQ2.out.gt, HQ2.out.keep.mono (fun k hk h => by have := HRB.out; rcases h with h | h <;> omega)⟩
          · have t2 : ((k : Int) == 2) = false := by simp; omega
            have t3 : ((k : Int) == 3) = false := by simp; omega
            have t4 : ((k : Int) == 4) = true := by simp; omega
            clear k1 k2
            go_enter Try.func22, Try.ntmps22
            go_wp2_with fail
            generalize w.alloc (.cells #[.slice ao bl cap, .int .i64 0, .bool false, .int .i64 0, .int .i64 0] 68) = w1 at HQ0 ⊢
            obtain ⟨rb, hrb⟩ : ∃ rb, rb = w.heap.size := ⟨_, rfl⟩
            rw [← hrb] at HQ0 ⊢
            have HRB := hidden hrb
            clear hrb
            refine (HB.out w1 rb go HQ0.out.r).mono ?_
            rintro e w2 ⟨rfl, t2⟩
            have HQ2 := hidden (HQ0.out.took t2)
            clear t2 HQ0 HB c0 c1 c2 c3 c4 c5 hf
            go_wp2_with fail
            go_ret
            exact ⟨_, rfl, Ans.nil' _ _, HQ2.out.gt, HQ2.out.keep.mono (fun k hk h => by have := HRB.out; rcases h with h | h <;> omega)⟩
        · rw [if_neg k2]
          have t2 : ((k : Int) == 2) = false := by simp; omega
          have t3 : ((k : Int) == 3) = false := by simp; omega
          have t4 : ((k : Int) == 4) = false := by simp; omega
          obtain ⟨R, hR⟩ : ∃ R, R = stepO U s k bs 1 0 := ⟨_, rfl⟩
          rw [← hR]
          have HR := hidden hR
          clear hR k1 k2
          by_cases k5 : k = 5
          · have t5 : ((k : Int) == 5) = true := by simp; omega
            obtain ⟨T, hT⟩ : ∃ T, T = tx bs 1 0 64 := ⟨_, rfl⟩
            obtain ⟨d, hd⟩ : ∃ d, d = wholeB bs T.2.1 T.2.2 := ⟨_, rfl⟩
            obtain ⟨S, hS⟩ : ∃ S, S = strB T.1 := ⟨_, rfl⟩
            have HRE : Hid (R = servQ s T d) := hidden (by rw [HR.out, k5, ← serv_step, ← hT, ← hd])
            have HSL : Hid (S.data.toList = T.1 ∧ S.size ≤ 64) := hidden (by
              have h1 : T.1.length ≤ 64 := by rw [hT]; exact tx_len _ _ _ _
              rw [hS]
              exact ⟨by simp [strB], by simpa [strB, ByteArray.size] using h1⟩)
            have HSS := hidden hS
            have HT1 : Hid (∀ w1 rb g, QR w1 rb g bs 1 0 → Calls Try.prog 36 #[.pointer (some ⟨rb, 0, none⟩), .int .i64 64] w1 fun e w' => e = .returned (.string S) ∧ QTook rb g bs T.2.1 T.2.2 w1 w') := hidden fun w1 rb g hq => by
              have := qtext_c 64 (by omega) (by omega) w1 hq
              rw [← hT] at this
              rw [hS]
              exact this
            have HF1 : Hid (∀ w1 rb g, QR w1 rb g bs T.2.1 T.2.2 → Calls Try.prog 37 #[.pointer (some ⟨rb, 0, none⟩)] w1 fun e w' => e = .returned (.bool d) ∧ Keeps (fun _ => False) w1 w') := hidden fun w1 rb g hq => by
              rw [hd]
              exact fine_c w1 hq
            clear k5 hT hd hS HR
            go_enter Try.func22, Try.ntmps22
            go_wp2_with fail
            generalize w.alloc (.cells #[.slice ao bl cap, .int .i64 0, .bool false, .int .i64 0, .int .i64 0] 68) = w1 at HQ0 ⊢
            obtain ⟨rb, hrb⟩ : ∃ rb, rb = w.heap.size := ⟨_, rfl⟩
            rw [← hrb] at HQ0 ⊢
            have HRB := hidden hrb
            clear hrb
            refine (HB.out w1 rb go HQ0.out.r).mono ?_
            rintro e w2 ⟨rfl, t2⟩
            have HQ2 := hidden (HQ0.out.took t2)
            clear t2 HQ0 HB c0 c1 c2 c3 c4 c5 hf
            go_wp2_with fail
            refine (HT1.out w2 rb go HQ2.out.r).mono ?_
            rintro e w3 ⟨rfl, t3⟩
            have HQ3 := hidden (HQ2.out.took t3)
            clear t3 HQ2 HT1
            go_wp2_with fail
            refine (HF1.out w3 rb go HQ3.out.r).mono ?_
            rintro e w4 ⟨rfl, hk4⟩
            have HQ4 := hidden (HQ3.out.still hk4)
            clear hk4 HQ3 HF1
            obtain ⟨u2, h1, h2, h3, h4, h5⟩ := HQ4.out.gt
            obtain ⟨d0, d1, d2, d3, d4, d5, df⟩ := cells6q h1
            have HA := hidden h1
            have HUS := hidden h2
            have HV3 := hidden h3
            have HS5 := hidden h5
            clear h1 h2 h3 h4 h5
            cases d
            · have HREQ : endO s 2 = R := by rw [HRE.out]; unfold servQ; rw [if_neg (by rintro ⟨h, _⟩; cases h)]
              have HREQ := hidden HREQ
              clear HRE
              go_wp2_with fail
              refine (rbye_c 2 (by omega) w4 HQ4.out.gt).mono ?_
              rintro e w8 hp8
              rw [HREQ.out] at hp8
              have HP : Hid (QGPost (fun k => k = a) w a H U R e w8) := hidden (QI.post (W := w) (w := w) (rb := rb) (by rw [HRB.out]; exact Nat.le_refl _) (QGPost.after HQ4.out.keep (hp8.mono (fun k _ h => Or.inl h))) rfl)
              obtain ⟨v8, rfl, _⟩ := hp8
              clear HQ4
              go_wp2_with fail
              go_ret
              exact HP.out
            · by_cases h0 : s.st = 0
              · have hd0 : decide (s.st ≠ 0) = false := by simpa using h0
                rw [hd0] at d1
                by_cases hu : S = userauthB
                · have hst : (S.toList == [115, 115, 104, 45, 117, 115, 101, 114, 97, 117, 116, 104]) = true := by rw [str_lit]; simpa [userauthB] using hu
                  have HREQ : Hid (R = (⟨1, s.nm, s.tr, s.gone⟩, [accL T.1])) := hidden (by rw [HRE.out]; unfold servQ; rw [if_pos ⟨rfl, h0⟩, ← HSS.out, if_pos hu])
                  have hset := (set6i HA.out (.bool true)).1
                  have hd2 : decide (s.st = 2) = false := by simp; omega
                  rw [hd2] at hset
                  have HG5 : Hid (QG (w4.setCell ⟨a, 1, none⟩ (.bool true)) a H U R.1) := hidden (by rw [HREQ.out]; exact QG.set (s' := ⟨1, s.nm, s.tr, s.gone⟩) HUS.out HV3.out (by show 1 ≤ 2; omega) HS5.out hset)
                  have HK5 : Hid (Keeps (fun k => k = a ∨ k = rb) w (w4.setCell ⟨a, 1, none⟩ (.bool true))) := hidden (HQ4.out.keep.trans ((keepsSet w4 a 1 (.bool true)).mono (fun k _ h => Or.inl h)))
                  have hsz : (w4.setCell ⟨a, 1, none⟩ (.bool true)).heap.size = w4.heap.size := by simp
                  clear HRE hu h0 hd0 hset hd2 HA HUS HV3 HS5 HQ4
                  go_wp2_with fail
                  rw [← hsz]
                  generalize w4.setCell ⟨a, 1, none⟩ (.bool true) = w5 at HG5 HK5 hsz ⊢
                  clear hsz d0 d1 d2 d3 d4 d5 df
                  have HB5 := hidden (bsl_lit w5 [6] (by simp))
                  have HBL5 := hidden ((Below.refl w5.heap.size w5).alloc (Nat.le_refl _) (.cells (bcells [6]).toArray 5))
                  refine (rtext_c S (by have := HSL.out.2; omega) _ [6] _ HB5.out (by have := HSL.out.2; simp; omega)).mono ?_
                  rintro e w6 ⟨v6, rfl, ho6, hb6⟩
                  obtain ⟨v7, e7, ho, hb⟩ := gave_of (xs := accL T.1) HBL5.out ho6 hb6 (by rw [HSL.out.1]; rfl)
                  cases e7
                  obtain ⟨ax, cx, ex⟩ := ownsRow_shape ho
                  subst ex
                  clear ho6 hb6 HB5 HBL5
                  have HP : Hid (QGPost (fun k => k = a) w a H U R (.returned (.slice (some ⟨w6.heap.size, 0, none⟩) 1 1)) (w6.alloc (.cells #[.slice ax (accL T.1).length cx] 25))) := by
                    refine hidden (QI.post (W := w) (w := w) (rb := rb) (by rw [HRB.out]; exact Nat.le_refl _) ⟨_, rfl, ?_, ?_, ?_⟩ rfl)
                    · rw [HREQ.out]
                      exact Ans.one ho HK5.out.size hb.size
                    · exact (HG5.out.fresh hb).still ((Keeps.refl _ _).alloc _)
                    · exact (HK5.out.trans (Keeps.ofFresh hb)).alloc _
                  clear ho hb HG5 HK5 HREQ
                  generalize (accL T.1).length = n at *
                  go_wp2_with fail
                  go_ret
                  exact HP.out
                · have hst : (S.toList == [115, 115, 104, 45, 117, 115, 101, 114, 97, 117, 116, 104]) = false := by rw [str_lit]; simpa [userauthB] using hu
                  have HREQ := hidden (show endO s 7 = R by rw [HRE.out]; unfold servQ; rw [if_pos ⟨rfl, h0⟩, ← HSS.out, if_neg hu])
                  clear HRE hu h0 hd0
                  go_wp2_with fail
                  refine (rbye_c 7 (by omega) w4 HQ4.out.gt).mono ?_
                  rintro e w8 hp8
                  rw [HREQ.out] at hp8
                  have HP : Hid (QGPost (fun k => k = a) w a H U R e w8) := hidden (QI.post (W := w) (w := w) (rb := rb) (by rw [HRB.out]; exact Nat.le_refl _) (QGPost.after HQ4.out.keep (hp8.mono (fun k _ h => Or.inl h))) rfl)
                  obtain ⟨v8, rfl, _⟩ := hp8
                  clear HQ4
                  go_wp2_with fail
                  go_ret
                  exact HP.out
              · have hd0 : decide (s.st ≠ 0) = true := by simpa using h0
                rw [hd0] at d1
                have HREQ := hidden (show endO s 2 = R by rw [HRE.out]; unfold servQ; rw [if_neg (by rintro ⟨_, h⟩; exact h0 h)])
                clear HRE h0 hd0
                go_wp2_with fail
                refine (rbye_c 2 (by omega) w4 HQ4.out.gt).mono ?_
                rintro e w8 hp8
                rw [HREQ.out] at hp8
                have HP : Hid (QGPost (fun k => k = a) w a H U R e w8) := hidden (QI.post (W := w) (w := w) (rb := rb) (by rw [HRB.out]; exact Nat.le_refl _) (QGPost.after HQ4.out.keep (hp8.mono (fun k _ h => Or.inl h))) rfl)
                obtain ⟨v8, rfl, _⟩ := hp8
                clear HQ4
                go_wp2_with fail
                go_ret
                exact HP.out
          · have t5 : ((k : Int) == 5) = false := by simp; omega
            by_cases k50 : k = 50
            · have t50 : ((k : Int) == 50) = true := by simp; omega
              have HREQ := hidden (show askO U s bs 1 0 = R by rw [HR.out, k50, ask_step U s bs HST.out])
              clear k5 k50 HR
              go_enter Try.func22, Try.ntmps22
              go_wp2_with fail
              generalize w.alloc (.cells #[.slice ao bl cap, .int .i64 0, .bool false, .int .i64 0, .int .i64 0] 68) = w1 at HQ0 ⊢
              obtain ⟨rb, hrb⟩ : ∃ rb, rb = w.heap.size := ⟨_, rfl⟩
              rw [← hrb] at HQ0 ⊢
              have HRB := hidden hrb
              clear hrb
              refine (HB.out w1 rb go HQ0.out.r).mono ?_
              rintro e w2 ⟨rfl, t2⟩
              have HQ2 := hidden (HQ0.out.took t2)
              clear t2 HQ0 HB c0 c1 c2 c3 c4 c5 hf
              go_wp2_with fail
              refine (ask_c w2 hU HQ2.out.gt HT.out HQ2.out.r HQ2.out.lt (by have := HBL.out; have := H1L.out; omega)).mono ?_
              rintro e w8 hp8
              rw [HREQ.out] at hp8
              have HP : Hid (QGPost (fun k => k = a) w a H U R e w8) := hidden (QI.post (W := w) (w := w) (rb := rb) (by rw [HRB.out]; exact Nat.le_refl _) (QGPost.after HQ2.out.keep hp8) rfl)
              obtain ⟨v8, rfl, _⟩ := hp8
              clear HQ2
              go_wp2_with fail
              go_ret
              exact HP.out
            · have t50 : ((k : Int) == 50) = false := by simp; omega
              have HREQ := hidden (show endO s 2 = R by rw [HR.out, other_step U s k bs k5 k50])
              clear k5 k50 HR
              go_enter Try.func22, Try.ntmps22
              go_wp2_with fail
              generalize w.alloc (.cells #[.slice ao bl cap, .int .i64 0, .bool false, .int .i64 0, .int .i64 0] 68) = w1 at HQ0 ⊢
              obtain ⟨rb, hrb⟩ : ∃ rb, rb = w.heap.size := ⟨_, rfl⟩
              rw [← hrb] at HQ0 ⊢
              have HRB := hidden hrb
              clear hrb
              refine (HB.out w1 rb go HQ0.out.r).mono ?_
              rintro e w2 ⟨rfl, t2⟩
              have HQ2 := hidden (HQ0.out.took t2)
              clear t2 HQ0 HB c0 c1 c2 c3 c4 c5 hf
              go_wp2_with fail
              refine (rbye_c 2 (by omega) w2 HQ2.out.gt).mono ?_
              rintro e w8 hp8
              rw [HREQ.out] at hp8
              have HP : Hid (QGPost (fun k => k = a) w a H U R e w8) := hidden (QI.post (W := w) (w := w) (rb := rb) (by rw [HRB.out]; exact Nat.le_refl _) (QGPost.after HQ2.out.keep (hp8.mono (fun k _ h => Or.inl h))) rfl)
              obtain ⟨v8, rfl, _⟩ := hp8
              clear HQ2
              go_wp2_with fail
              go_ret
              exact HP.out
    · rw [if_pos rfl]
      clear ht hgo hv hown HQ0
      generalize (x :: r).length = bl at *
      go_enter Try.func22, Try.ntmps22
      go_wp2_with fail
      go_ret
      exact ⟨_, rfl, Ans.nil' _ _, HG.out, Keeps.refl _ _⟩

end Go.Proofs.Ytpildjijaigmfaa
