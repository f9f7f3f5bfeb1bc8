/- What data, request and take do. -/
import Derived.Test.YtnimdbjbkoggdaaCnD
namespace Go.Proofs.Ytnimdbjbkoggdaa
open Go Go.RowKit

theorem refill_od (c : Ch) : (refillO c).1.od = c.od := by unfold refillO; split <;> rfl
theorem str_emp (X : ByteArray) (n : Nat) (h : X.size = n) : (X.toList == ([] : List UInt8)) = decide (n = 0) := by
  rw [Bool.eq_iff_iff, str_lit]
  simp only [decide_eq_true_eq]
  constructor
  · rintro rfl
    exact h.symm
  · intro e
    cases X with
    | mk d =>
      have : d.size = 0 := by rw [← e, ← h]; rfl
      have : d = #[] := Array.eq_empty_of_size_eq_zero this
      rw [this]

set_option maxHeartbeats 1600000 in
set_option maxRecDepth 100000 in
theorem data_c (w : World) {L a o i rb : Nat} {c : Ch} {v : Value} {A Z : List Value} {g : Option Nat} {bs : List UInt8} {p : Nat} {why : Int} (h : CX w a o i c v A Z) (hok : Ok L c) (hr : WR w rb g bs p why) (har : a < rb) (hvr : ∀ k, v.ownBlock = some k → k < rb) :
    Calls Try.prog 57 #[.pointer (some ⟨a, o, none⟩), .pointer (some ⟨rb, 0, none⟩)] w fun e w' => OutP w a rb i v A Z (dataO c i bs p why) e w' := by
  have hal := h.lt
  have HVL := hidden h.held.lt
  have hrl := hr.lt
  have HN := hidden (textS_r 32768 (by omega) (by omega) (boxO w) (hr.same (boxO_keeps w)))
  have HBX := hidden (boxO_at w)
  have HCX0 := hidden (h.still (boxO_keeps w))
  have HK0 := hidden (boxO_keeps w)
  have HSZ := hidden (boxO_size w)
  unfold dataO
  have hnl := tx_len bs p why 32768
  generalize tx bs p why 32768 = t at *
  obtain ⟨X, hX⟩ : ∃ X : ByteArray, X = ⟨t.1.toArray⟩ := ⟨_, rfl⟩
  have HXL : Hid (X.data.toList = t.1) := hidden (by rw [hX])
  have hXs : X.size = t.1.length := by rw [hX]; exact size_list _
  rw [← hX] at HN
  clear hX
  generalize hn : t.1.length = n at *
  generalize hd : wholeB bs t.2.1 t.2.2 = d at *
  have hn32 : n ≤ 32768 := hnl
  have hem := str_emp X n hXs
  have HW : Hid (∀ w', WR w' rb g bs t.2.1 t.2.2 → Calls Try.prog 68 #[.pointer (some ⟨rb, 0, none⟩)] w' fun e w'' => e = .returned (.bool d) ∧ Keeps (fun _ => False) w' w'') := hidden fun w' h' => by rw [← hd]; exact isWhole_c w' h'
  have HTN : Hid (t.1 ≠ [] ↔ n ≠ 0) := hidden (by rw [← hn]; exact ⟨fun h e => h (List.eq_nil_of_length_eq_zero e), fun h e => h (by rw [e]; rfl)⟩)
  clear h hr hd hnl hn
  unfold boxO at HN HBX HCX0 HK0 HSZ
  have hol := hok.ol
  by_cases hyes : n ≤ c.ol
  · have HA : Hid (∀ w', Calls Try.prog 65 #[.complex .f64 (nb c.ol) (nb 32768), .int .i64 (n : Int)] w' fun e w'' => e = .returned (.tuple #[.complex .f64 (nb (c.ol - n)) (nb 32768), .bool true]) ∧ w'' = w') := hidden fun w' => wtake_yes (Win.mk' c.ol 32768 (by omega) (by omega) (by omega)) n hyes w'
    cases d
    · rw [if_neg (by rintro ⟨h, _⟩; cases h)]
      go_enter Try.func57, Try.ntmps57
      go_wp2_with fail
      generalize w.alloc (.cells #[.slice none 0 0, .slice none 0 0, .bool false] 65) = w0 at *
      refine HN.out.mono ?_
      rintro e w1 ⟨rfl, ht⟩
      have HR1 := hidden ht.state
      have HK1 := hidden ((HK0.out.mono (S' := fun k => k = rb) (fun k _ h => h.elim)).trans ht.keeps)
      have HBX1 := hidden ((ht.keeps.block _ (lt_of_block HBX.out) (by omega)).trans HBX.out)
      have HCX1 := hidden (HCX0.out.keep ht.keeps (by omega) (fun k e e2 => by have := hvr k e; omega))
      have HS1 := hidden (Nat.le_trans (Nat.le_of_eq HSZ.out.symm) ht.keeps.size)
      clear ht HN HCX0 HBX HK0 HSZ
      obtain ⟨c0, c1, c2, c3, c4, c5, c6, c7, c8, cf⟩ := HCX1.out.cells
      go_wp2_with fail
      refine (HA.out _).mono ?_
      rintro e w2 ⟨rfl, rfl⟩
      clear HA
      go_wp2_with fail
      refine (HW.out _ HR1.out).mono ?_
      rintro e w3 ⟨rfl, hk3⟩
      have HBXw := hidden ((hk3.block _ (lt_of_block HBX1.out) (fun h => h)).trans HBX1.out)
      have HKw := hidden (HK1.out.trans (hk3.mono (S' := fun k => k = rb) (fun k _ h => h.elim)))
      have HCX3 := hidden (HCX1.out.still hk3)
      have HS3 := hidden (Nat.le_trans HS1.out hk3.size)
      clear hk3 HW HR1 HK1 HBX1 HCX1 HS1
      clear c0 c1 c2 c3 c4 c5 c6 c7 c8 cf
      have HP := hidden (OutP.wrong (i := i) (v := v) (A := A) (Z := Z) HKw.out (show a ≠ rb by omega) hal)
      obtain ⟨b0, b1, b2, bf⟩ := cells3i HBXw.out
      have hy := putO_at (.slice none 0 0) (.slice none 0 0) true HBXw.out
      unfold putO at HP hy
      go_wp2_with fail
      generalize ((w3.setCell ⟨w.heap.size, 0, none⟩ (.slice none 0 0)).setCell ⟨w.heap.size, 1, none⟩ (.slice none 0 0)).setCell ⟨w.heap.size, 2, none⟩ (.bool true) = wz at HP hy ⊢
      obtain ⟨y0, y1, y2, yf⟩ := cells3i hy
      refine bodyPost_ret (v := .agg #[.slice none 0 0, .slice none 0 0, .bool true]) (by simp [results, Try.results57, go_sem, y0, y1, y2]) rfl HP.out
    · cases hen : c.en
      · rw [if_pos ⟨rfl, hyes, rfl⟩]
        cases hod : c.od
        · rw [if_neg (by rintro ⟨h, _⟩; cases h)]
          have HRF := hidden (fun w' h' => refill_c w' (c := used c (c.ol - n)) (a := a) (o := o) (i := i) (v := v) (A := A) (Z := Z) h' hok.th (by show c.ol - n ≤ 65536; have := hok.ol; omega))
          have HOD := hidden (refill_od (used c (c.ol - n)))
          rw [show (used c (c.ol - n)).od = c.od from rfl, hod] at HOD
          unfold RPost at HRF
          generalize refillO (used c (c.ol - n)) = RR at *
          obtain ⟨rc, rl⟩ := RR
          dsimp only at HRF HOD ⊢
          go_enter Try.func57, Try.ntmps57
          go_wp2_with fail
          generalize w.alloc (.cells #[.slice none 0 0, .slice none 0 0, .bool false] 65) = w0 at *
          refine HN.out.mono ?_
          rintro e w1 ⟨rfl, ht⟩
          have HR1 := hidden ht.state
          have HK1 := hidden ((HK0.out.mono (S' := fun k => k = rb) (fun k _ h => h.elim)).trans ht.keeps)
          have HBX1 := hidden ((ht.keeps.block _ (lt_of_block HBX.out) (by omega)).trans HBX.out)
          have HCX1 := hidden (HCX0.out.keep ht.keeps (by omega) (fun k e e2 => by have := hvr k e; omega))
          have HS1 := hidden (Nat.le_trans (Nat.le_of_eq HSZ.out.symm) ht.keeps.size)
          clear ht HN HCX0 HBX HK0 HSZ
          obtain ⟨c0, c1, c2, c3, c4, c5, c6, c7, c8, cf⟩ := HCX1.out.cells
          go_wp2_with fail
          refine (HA.out _).mono ?_
          rintro e w2 ⟨rfl, rfl⟩
          clear HA
          go_wp2_with fail
          refine (HW.out _ HR1.out).mono ?_
          rintro e w3 ⟨rfl, hk3⟩
          have HBXw := hidden ((hk3.block _ (lt_of_block HBX1.out) (fun h => h)).trans HBX1.out)
          have HKw := hidden (HK1.out.trans (hk3.mono (S' := fun k => k = rb) (fun k _ h => h.elim)))
          have HCX3 := hidden (HCX1.out.still hk3)
          have HS3 := hidden (Nat.le_trans HS1.out hk3.size)
          clear hk3 HW HR1 HK1 HBX1 HCX1 HS1
          clear c0 c1 c2 c3 c4 c5 c6 c7 c8 cf
          obtain ⟨c0, c1, c2, c3, c4, c5, c6, c7, c8, cf⟩ := HCX3.out.cells
          rw [hen] at c2
          have hs7 := store_cx w3 ⟨a, o + 7, none⟩ (nb (c.ol - n)) (nb 32768) c7 (cf _)
          have HCX4 := hidden (HCX3.out.set 7 (by omega) (.complex .f64 (nb (c.ol - n)) (nb 32768)) (used c (c.ol - n)) v rfl HCX3.out.held (fun k e => e))
          have HK4 := hidden ((HKw.out.mono (S' := fun k => k = a ∨ k = rb) (fun k _ h => Or.inr h)).trans ((keepsSet w3 a (o + 7) (.complex .f64 (nb (c.ol - n)) (nb 32768))).mono (fun k _ h => Or.inl h)))
          have HS4 := hidden (Nat.le_trans HS3.out (keepsSet w3 a (o + 7) (.complex .f64 (nb (c.ol - n)) (nb 32768))).size)
          have HBX4 := hidden (((keepsSet w3 a (o + 7) (.complex .f64 (nb (c.ol - n)) (nb 32768))).block _ (lt_of_block HBXw.out) (by omega)).trans HBXw.out)
          clear HKw HS3 HBXw HCX3
          generalize nb c.ol = X1 at *
          generalize nb (c.ol - n) = X3 at *
          generalize nb 32768 = X2 at *
          go_wp2_with fail
          clear hs7 c0 c1 c2 c3 c4 c5 c6 c7 c8 cf
          generalize w3.setCell ⟨a, o + 7, none⟩ (.complex .f64 X3 X2) = w4 at *
          refine (HRF.out w4 HCX4.out).mono ?_
          rintro e w5 ⟨u5, rfl, hl5, hcx5, hk5⟩
          obtain ⟨a5, p5, e5⟩ := hl5.shape
          subst e5
          have HBX5 := hidden ((hk5.block _ (lt_of_block HBX4.out) (by omega)).trans HBX4.out)
          have HK5 := hidden (HK4.out.trans (hk5.mono (S' := fun k => k = a ∨ k = rb) (fun k _ h => Or.inl h)))
          have HS5 := hidden (Nat.le_trans HS4.out hk5.size)
          have HCX5 := hidden hcx5
          have HL5 := hidden (hl5.mono HS4.out)
          clear hl5 hcx5 hk5 HK4 HBX4 HCX4 HS4 HRF
          generalize hn5 : rl.length = n5 at *
          clear hn5
          have hk6 : Keeps (fun _ => False) w5 (w5.alloc (.cells #[.slice a5 n5 p5, .slice none 0 0, .bool false] 65)) := (Keeps.refl _ _).alloc _
          have HB6 := hidden (heap_alloc_new w5 (.cells #[.slice a5 n5 p5, .slice none 0 0, .bool false] 65))
          have HBX6 := hidden ((hk6.block _ (lt_of_block HBX5.out) (fun h => h)).trans HBX5.out)
          have HK6 := hidden (HK5.out.trans (hk6.mono (S' := fun k => k = a ∨ k = rb) (fun k _ h => h.elim)))
          have HCX6 := hidden (HCX5.out.still hk6)
          have HL6 := hidden (HL5.out.keep hk6 (fun _ h => h.elim))
          obtain ⟨b6, hb6⟩ : ∃ b6, b6 = w5.heap.size := ⟨_, rfl⟩
          have hb6a : w.heap.size < b6 := by rw [hb6]; exact HS5.out
          have HLB : Hid (∀ k, (Value.slice a5 n5 p5).ownBlock = some k → k ≠ b6) := hidden fun k e e2 => by have := (HL5.out.lt k e).2; omega
          have hb65 : w5.heap.size ≤ b6 := by omega
          rw [← hb6] at HB6
          obtain ⟨c0, c1, c2, c3, c4, c5, c6, c7, c8, cf⟩ := HCX6.out.cells
          rw [HOD.out] at c1
          have HF6 := hidden hk6
          clear hk6
          go_upto_if 49 with fail
          rw [← hb6]
          clear hb6
          generalize w5.alloc (.cells #[.slice a5 n5 p5, .slice none 0 0, .bool false] 65) = w6 at *
          have HBXw := HBX6
          have HP := hidden (OutP.right (w := w) (w1 := w6) (rb := rb) (v := v) (v' := v) (oc := some rc) (es := []) HK6.out hal HL6.out (Evs.nil' _ _ _) HCX6.out.blk (fun c e => by cases e; exact HCX6.out.held) (fun k e => e) HVL.out)
          obtain ⟨d0, d1, d2, df⟩ := cells3i HB6.out
          clear HBX6 HK6 HL6 HCX6 HLB HBX5 HK5 HCX5 HL5 HS5 HF6 c0 c1 c2 c3 c4 c5 c6 c7 c8 cf
          obtain ⟨b0, b1, b2, bf⟩ := cells3i HBXw.out
          have hy := putO_at (.slice a5 n5 p5) (.slice none 0 0) false HBXw.out
          unfold putO at HP hy
          go_wp2_with fail
          generalize ((w6.setCell ⟨w.heap.size, 0, none⟩ (.slice a5 n5 p5)).setCell ⟨w.heap.size, 1, none⟩ (.slice none 0 0)).setCell ⟨w.heap.size, 2, none⟩ (.bool false) = wz at HP hy ⊢
          obtain ⟨y0, y1, y2, yf⟩ := cells3i hy
          refine bodyPost_ret (v := .agg #[.slice a5 n5 p5, .slice none 0 0, .bool false]) (by simp [results, Try.results57, go_sem, y0, y1, y2]) rfl HP.out
        · by_cases hz : n = 0
          · rw [if_neg (by rintro ⟨_, h⟩; exact HTN.out.1 h hz)]
            rw [decide_eq_true hz] at hem
            clear hz
            have HRF := hidden (fun w' h' => refill_c w' (c := used c (c.ol - n)) (a := a) (o := o) (i := i) (v := v) (A := A) (Z := Z) h' hok.th (by show c.ol - n ≤ 65536; have := hok.ol; omega))
            have HOD := hidden (refill_od (used c (c.ol - n)))
            rw [show (used c (c.ol - n)).od = c.od from rfl, hod] at HOD
            unfold RPost at HRF
            generalize refillO (used c (c.ol - n)) = RR at *
            obtain ⟨rc, rl⟩ := RR
            dsimp only at HRF HOD ⊢
            go_enter Try.func57, Try.ntmps57
            go_wp2_with fail
            generalize w.alloc (.cells #[.slice none 0 0, .slice none 0 0, .bool false] 65) = w0 at *
            refine HN.out.mono ?_
            rintro e w1 ⟨rfl, ht⟩
            have HR1 := hidden ht.state
            have HK1 := hidden ((HK0.out.mono (S' := fun k => k = rb) (fun k _ h => h.elim)).trans ht.keeps)
            have HBX1 := hidden ((ht.keeps.block _ (lt_of_block HBX.out) (by omega)).trans HBX.out)
            have HCX1 := hidden (HCX0.out.keep ht.keeps (by omega) (fun k e e2 => by have := hvr k e; omega))
            have HS1 := hidden (Nat.le_trans (Nat.le_of_eq HSZ.out.symm) ht.keeps.size)
            clear ht HN HCX0 HBX HK0 HSZ
            obtain ⟨c0, c1, c2, c3, c4, c5, c6, c7, c8, cf⟩ := HCX1.out.cells
            go_wp2_with fail
            refine (HA.out _).mono ?_
            rintro e w2 ⟨rfl, rfl⟩
            clear HA
            go_wp2_with fail
            refine (HW.out _ HR1.out).mono ?_
            rintro e w3 ⟨rfl, hk3⟩
            have HBXw := hidden ((hk3.block _ (lt_of_block HBX1.out) (fun h => h)).trans HBX1.out)
            have HKw := hidden (HK1.out.trans (hk3.mono (S' := fun k => k = rb) (fun k _ h => h.elim)))
            have HCX3 := hidden (HCX1.out.still hk3)
            have HS3 := hidden (Nat.le_trans HS1.out hk3.size)
            clear hk3 HW HR1 HK1 HBX1 HCX1 HS1
            clear c0 c1 c2 c3 c4 c5 c6 c7 c8 cf
            obtain ⟨c0, c1, c2, c3, c4, c5, c6, c7, c8, cf⟩ := HCX3.out.cells
            rw [hen] at c2
            have hs7 := store_cx w3 ⟨a, o + 7, none⟩ (nb (c.ol - n)) (nb 32768) c7 (cf _)
            have HCX4 := hidden (HCX3.out.set 7 (by omega) (.complex .f64 (nb (c.ol - n)) (nb 32768)) (used c (c.ol - n)) v rfl HCX3.out.held (fun k e => e))
            have HK4 := hidden ((HKw.out.mono (S' := fun k => k = a ∨ k = rb) (fun k _ h => Or.inr h)).trans ((keepsSet w3 a (o + 7) (.complex .f64 (nb (c.ol - n)) (nb 32768))).mono (fun k _ h => Or.inl h)))
            have HS4 := hidden (Nat.le_trans HS3.out (keepsSet w3 a (o + 7) (.complex .f64 (nb (c.ol - n)) (nb 32768))).size)
            have HBX4 := hidden (((keepsSet w3 a (o + 7) (.complex .f64 (nb (c.ol - n)) (nb 32768))).block _ (lt_of_block HBXw.out) (by omega)).trans HBXw.out)
            clear HKw HS3 HBXw HCX3
            generalize nb c.ol = X1 at *
            generalize nb (c.ol - n) = X3 at *
            generalize nb 32768 = X2 at *
            go_wp2_with fail
            clear hs7 c0 c1 c2 c3 c4 c5 c6 c7 c8 cf
            generalize w3.setCell ⟨a, o + 7, none⟩ (.complex .f64 X3 X2) = w4 at *
            refine (HRF.out w4 HCX4.out).mono ?_
            rintro e w5 ⟨u5, rfl, hl5, hcx5, hk5⟩
            obtain ⟨a5, p5, e5⟩ := hl5.shape
            subst e5
            have HBX5 := hidden ((hk5.block _ (lt_of_block HBX4.out) (by omega)).trans HBX4.out)
            have HK5 := hidden (HK4.out.trans (hk5.mono (S' := fun k => k = a ∨ k = rb) (fun k _ h => Or.inl h)))
            have HS5 := hidden (Nat.le_trans HS4.out hk5.size)
            have HCX5 := hidden hcx5
            have HL5 := hidden (hl5.mono HS4.out)
            clear hl5 hcx5 hk5 HK4 HBX4 HCX4 HS4 HRF
            generalize hn5 : rl.length = n5 at *
            clear hn5
            have hk6 : Keeps (fun _ => False) w5 (w5.alloc (.cells #[.slice a5 n5 p5, .slice none 0 0, .bool false] 65)) := (Keeps.refl _ _).alloc _
            have HB6 := hidden (heap_alloc_new w5 (.cells #[.slice a5 n5 p5, .slice none 0 0, .bool false] 65))
            have HBX6 := hidden ((hk6.block _ (lt_of_block HBX5.out) (fun h => h)).trans HBX5.out)
            have HK6 := hidden (HK5.out.trans (hk6.mono (S' := fun k => k = a ∨ k = rb) (fun k _ h => h.elim)))
            have HCX6 := hidden (HCX5.out.still hk6)
            have HL6 := hidden (HL5.out.keep hk6 (fun _ h => h.elim))
            obtain ⟨b6, hb6⟩ : ∃ b6, b6 = w5.heap.size := ⟨_, rfl⟩
            have hb6a : w.heap.size < b6 := by rw [hb6]; exact HS5.out
            have HLB : Hid (∀ k, (Value.slice a5 n5 p5).ownBlock = some k → k ≠ b6) := hidden fun k e e2 => by have := (HL5.out.lt k e).2; omega
            have hb65 : w5.heap.size ≤ b6 := by omega
            rw [← hb6] at HB6
            obtain ⟨c0, c1, c2, c3, c4, c5, c6, c7, c8, cf⟩ := HCX6.out.cells
            rw [HOD.out] at c1
            have HF6 := hidden hk6
            clear hk6
            go_upto_if 49 with fail
            rw [← hb6]
            clear hb6
            generalize w5.alloc (.cells #[.slice a5 n5 p5, .slice none 0 0, .bool false] 65) = w6 at *
            have HBXw := HBX6
            have HP := hidden (OutP.right (w := w) (w1 := w6) (rb := rb) (v := v) (v' := v) (oc := some rc) (es := []) HK6.out hal HL6.out (Evs.nil' _ _ _) HCX6.out.blk (fun c e => by cases e; exact HCX6.out.held) (fun k e => e) HVL.out)
            obtain ⟨d0, d1, d2, df⟩ := cells3i HB6.out
            clear HBX6 HK6 HL6 HCX6 HLB HBX5 HK5 HCX5 HL5 HS5 HF6 c0 c1 c2 c3 c4 c5 c6 c7 c8 cf
            obtain ⟨b0, b1, b2, bf⟩ := cells3i HBXw.out
            have hy := putO_at (.slice a5 n5 p5) (.slice none 0 0) false HBXw.out
            unfold putO at HP hy
            go_wp2_with fail
            generalize ((w6.setCell ⟨w.heap.size, 0, none⟩ (.slice a5 n5 p5)).setCell ⟨w.heap.size, 1, none⟩ (.slice none 0 0)).setCell ⟨w.heap.size, 2, none⟩ (.bool false) = wz at HP hy ⊢
            obtain ⟨y0, y1, y2, yf⟩ := cells3i hy
            refine bodyPost_ret (v := .agg #[.slice a5 n5 p5, .slice none 0 0, .bool false]) (by simp [results, Try.results57, go_sem, y0, y1, y2]) rfl HP.out
          · rw [if_pos ⟨rfl, HTN.out.2 hz⟩]
            rw [decide_eq_false hz] at hem
            clear hz
            have HRF := hidden (fun w' h' => refill_c w' (c := used c (c.ol - n)) (a := a) (o := o) (i := i) (v := v) (A := A) (Z := Z) h' hok.th (by show c.ol - n ≤ 65536; have := hok.ol; omega))
            have HOD := hidden (refill_od (used c (c.ol - n)))
            rw [show (used c (c.ol - n)).od = c.od from rfl, hod] at HOD
            unfold RPost at HRF
            generalize refillO (used c (c.ol - n)) = RR at *
            obtain ⟨rc, rl⟩ := RR
            dsimp only at HRF HOD ⊢
            go_enter Try.func57, Try.ntmps57
            go_wp2_with fail
            generalize w.alloc (.cells #[.slice none 0 0, .slice none 0 0, .bool false] 65) = w0 at *
            refine HN.out.mono ?_
            rintro e w1 ⟨rfl, ht⟩
            have HR1 := hidden ht.state
            have HK1 := hidden ((HK0.out.mono (S' := fun k => k = rb) (fun k _ h => h.elim)).trans ht.keeps)
            have HBX1 := hidden ((ht.keeps.block _ (lt_of_block HBX.out) (by omega)).trans HBX.out)
            have HCX1 := hidden (HCX0.out.keep ht.keeps (by omega) (fun k e e2 => by have := hvr k e; omega))
            have HS1 := hidden (Nat.le_trans (Nat.le_of_eq HSZ.out.symm) ht.keeps.size)
            clear ht HN HCX0 HBX HK0 HSZ
            obtain ⟨c0, c1, c2, c3, c4, c5, c6, c7, c8, cf⟩ := HCX1.out.cells
            go_wp2_with fail
            refine (HA.out _).mono ?_
            rintro e w2 ⟨rfl, rfl⟩
            clear HA
            go_wp2_with fail
            refine (HW.out _ HR1.out).mono ?_
            rintro e w3 ⟨rfl, hk3⟩
            have HBXw := hidden ((hk3.block _ (lt_of_block HBX1.out) (fun h => h)).trans HBX1.out)
            have HKw := hidden (HK1.out.trans (hk3.mono (S' := fun k => k = rb) (fun k _ h => h.elim)))
            have HCX3 := hidden (HCX1.out.still hk3)
            have HS3 := hidden (Nat.le_trans HS1.out hk3.size)
            clear hk3 HW HR1 HK1 HBX1 HCX1 HS1
            clear c0 c1 c2 c3 c4 c5 c6 c7 c8 cf
            obtain ⟨c0, c1, c2, c3, c4, c5, c6, c7, c8, cf⟩ := HCX3.out.cells
            rw [hen] at c2
            have hs7 := store_cx w3 ⟨a, o + 7, none⟩ (nb (c.ol - n)) (nb 32768) c7 (cf _)
            have HCX4 := hidden (HCX3.out.set 7 (by omega) (.complex .f64 (nb (c.ol - n)) (nb 32768)) (used c (c.ol - n)) v rfl HCX3.out.held (fun k e => e))
            have HK4 := hidden ((HKw.out.mono (S' := fun k => k = a ∨ k = rb) (fun k _ h => Or.inr h)).trans ((keepsSet w3 a (o + 7) (.complex .f64 (nb (c.ol - n)) (nb 32768))).mono (fun k _ h => Or.inl h)))
            have HS4 := hidden (Nat.le_trans HS3.out (keepsSet w3 a (o + 7) (.complex .f64 (nb (c.ol - n)) (nb 32768))).size)
            have HBX4 := hidden (((keepsSet w3 a (o + 7) (.complex .f64 (nb (c.ol - n)) (nb 32768))).block _ (lt_of_block HBXw.out) (by omega)).trans HBXw.out)
            clear HKw HS3 HBXw HCX3
            generalize nb c.ol = X1 at *
            generalize nb (c.ol - n) = X3 at *
            generalize nb 32768 = X2 at *
            go_wp2_with fail
            clear hs7 c0 c1 c2 c3 c4 c5 c6 c7 c8 cf
            generalize w3.setCell ⟨a, o + 7, none⟩ (.complex .f64 X3 X2) = w4 at *
            refine (HRF.out w4 HCX4.out).mono ?_
            rintro e w5 ⟨u5, rfl, hl5, hcx5, hk5⟩
            obtain ⟨a5, p5, e5⟩ := hl5.shape
            subst e5
            have HBX5 := hidden ((hk5.block _ (lt_of_block HBX4.out) (by omega)).trans HBX4.out)
            have HK5 := hidden (HK4.out.trans (hk5.mono (S' := fun k => k = a ∨ k = rb) (fun k _ h => Or.inl h)))
            have HS5 := hidden (Nat.le_trans HS4.out hk5.size)
            have HCX5 := hidden hcx5
            have HL5 := hidden (hl5.mono HS4.out)
            clear hl5 hcx5 hk5 HK4 HBX4 HCX4 HS4 HRF
            generalize hn5 : rl.length = n5 at *
            clear hn5
            have hk6 : Keeps (fun _ => False) w5 (w5.alloc (.cells #[.slice a5 n5 p5, .slice none 0 0, .bool false] 65)) := (Keeps.refl _ _).alloc _
            have HB6 := hidden (heap_alloc_new w5 (.cells #[.slice a5 n5 p5, .slice none 0 0, .bool false] 65))
            have HBX6 := hidden ((hk6.block _ (lt_of_block HBX5.out) (fun h => h)).trans HBX5.out)
            have HK6 := hidden (HK5.out.trans (hk6.mono (S' := fun k => k = a ∨ k = rb) (fun k _ h => h.elim)))
            have HCX6 := hidden (HCX5.out.still hk6)
            have HL6 := hidden (HL5.out.keep hk6 (fun _ h => h.elim))
            obtain ⟨b6, hb6⟩ : ∃ b6, b6 = w5.heap.size := ⟨_, rfl⟩
            have hb6a : w.heap.size < b6 := by rw [hb6]; exact HS5.out
            have HLB : Hid (∀ k, (Value.slice a5 n5 p5).ownBlock = some k → k ≠ b6) := hidden fun k e e2 => by have := (HL5.out.lt k e).2; omega
            have hb65 : w5.heap.size ≤ b6 := by omega
            rw [← hb6] at HB6
            obtain ⟨c0, c1, c2, c3, c4, c5, c6, c7, c8, cf⟩ := HCX6.out.cells
            rw [HOD.out] at c1
            have HF6 := hidden hk6
            clear hk6
            go_upto_if 49 with fail
            rw [← hb6]
            clear hb6
            generalize w5.alloc (.cells #[.slice a5 n5 p5, .slice none 0 0, .bool false] 65) = w6 at *
            go_wp2_with fail
            refine (tell_c 2 w6 HCX6.out).mono ?_
            rintro e w7 ⟨rfl, rfl⟩
            have HE7 := hidden (heap_alloc_new w6 (.cells #[.int .i64 2, .int .i64 i, .slice none 0 0] 51))
            have HF7 : Hid (Keeps (fun _ => False) w5 (w6.alloc (.cells #[.int .i64 2, .int .i64 i, .slice none 0 0] 51))) := hidden (HF6.out.alloc _)
            have HB7 := hidden ((Below.heap_alloc w6 (.cells #[.int .i64 2, .int .i64 i, .slice none 0 0] 51) _ (lt_of_block HB6.out)).trans HB6.out)
            obtain ⟨g7, hg7⟩ : ∃ g7, g7 = w6.heap.size := ⟨_, rfl⟩
            have hg7b : b6 < g7 := by rw [hg7]; exact lt_of_block HB6.out
            have hg75 : w5.heap.size ≤ g7 := by rw [hg7]; exact HF6.out.size
            rw [← hg7] at HE7 ⊢
            clear HB6 HBX6 HK6 HCX6 HL6 HF6 HLB hg7 c0 c1 c2 c3 c4 c5 c6 c7 c8 cf
            generalize w6.alloc (.cells #[.int .i64 2, .int .i64 i, .slice none 0 0] 51) = w7 at *
            obtain ⟨b0, b1, b2, bf⟩ := cells3i HB7.out
            go_upto_region 9 with fail
            have HB8 := hidden (set3i HB7.out (.slice (some ⟨g7, 0, none⟩) 1 1)).2.1
            have HE8 := hidden (((keepsSet w7 b6 1 (.slice (some ⟨g7, 0, none⟩) 1 1)).block _ (lt_of_block HE7.out) (by omega)).trans HE7.out)
            have HF8 : Hid (Keeps (fun _ => False) w5 (w7.setCell ⟨b6, 1, none⟩ (.slice (some ⟨g7, 0, none⟩) 1 1))) := hidden (HF7.out.setCell (.inr hb65) _)
            clear HB7 HE7 HF7 b0 b1 b2 bf
            generalize w7.setCell ⟨b6, 1, none⟩ (.slice (some ⟨g7, 0, none⟩) 1 1) = w8 at *
            have q8 := run_bytes X w8
            have HBB := hidden (bytes_bsl w8 X (by omega))
            have hbl := bytesW_below w8 X
            unfold bytesV at q8 HBB
            have hXB : X.size = n := hXs
            rw [hXB] at q8 HBB
            generalize grownCap w8 n 0 5 = K8 at *
            generalize bytesW w8 X = w9 at *
            have HB9 := hidden ((hbl.block _ (lt_of_block HB8.out)).trans HB8.out)
            have HE9 := hidden ((hbl.block _ (lt_of_block HE8.out)).trans HE8.out)
            have HF9 : Hid (Keeps (fun _ => False) w5 w9) := hidden (HF8.out.trans (Keeps.ofFresh hbl))
            have hs8 := HF8.out.size
            have hg78 : g7 < w8.heap.size := lt_of_block HE8.out
            obtain ⟨g8, hg8⟩ : ∃ g8, g8 = w8.heap.size := ⟨_, rfl⟩
            rw [← hg8] at q8 HBB hg78 hs8
            clear hbl hg8
            have HE10 := hidden (set3i HE9.out (.slice (some ⟨g8, 0, none⟩) n K8)).2.2
            have HB10 := hidden (((keepsSet w9 g7 2 (.slice (some ⟨g8, 0, none⟩) n K8)).block _ (lt_of_block HB9.out) (by omega)).trans HB9.out)
            have HF10 : Hid (Keeps (fun _ => False) w5 (w9.setCell ⟨g7, 2, none⟩ (.slice (some ⟨g8, 0, none⟩) n K8))) := hidden (HF9.out.setCell (.inr hg75) _)
            have HBB10 := hidden (HBB.out.keep (keepsSet w9 g7 2 (.slice (some ⟨g8, 0, none⟩) n K8)) (fun k e e2 => by simp [Value.ownBlock] at e; omega))
            obtain ⟨b0, b1, b2, bf⟩ := cells3i HB8.out
            obtain ⟨e0, e1, e2, ef⟩ := cells3i HE9.out
            go_upto_region 10 with fail
            clear b0 b1 b2 bf e0 e1 e2 ef q8 HB8 HE8 HF8 HB9 HE9 HF9 HBB
            generalize w9.setCell ⟨g7, 2, none⟩ (.slice (some ⟨g8, 0, none⟩) n K8) = wA at *
            obtain ⟨b0, b1, b2, bf⟩ := cells3i HB10.out
            have HBXw := hidden ((HF10.out.block _ (lt_of_block HBX5.out) (fun h => h)).trans HBX5.out)
            rw [HXL.out] at HBB10
            have HEV : Hid (Evs 51 (w.heap.size + 1) wA (.slice (some ⟨g7, 0, none⟩) 1 1) [⟨2, i, t.1⟩]) := hidden (.inr ⟨⟨2, i, t.1⟩, g7, _, rfl, rfl, HE10.out, HBB10.out, by omega, fun k e => by simp [Value.ownBlock] at e; omega⟩)
            have HP := hidden (OutP.right (w := w) (w1 := wA) (rb := rb) (v := v) (v' := v) (oc := some rc) (es := [⟨2, i, t.1⟩]) (HK5.out.trans (HF10.out.mono (S' := fun k => k = a ∨ k = rb) (fun k _ h => h.elim))) hal (HL5.out.keep HF10.out (fun _ h => h.elim)) HEV.out (HCX5.out.still HF10.out).blk (fun c e => by cases e; exact (HCX5.out.still HF10.out).held) (fun k e => e) HVL.out)
            clear HEV HBB10 HE10 HF10 HB10 HBX5 HK5 HCX5 HL5 HS5
            obtain ⟨x0, x1, x2, xf⟩ := cells3i HBXw.out
            have hy := putO_at (.slice a5 n5 p5) (.slice (some ⟨g7, 0, none⟩) 1 1) false HBXw.out
            unfold putO at HP hy
            go_wp2_with fail
            generalize ((wA.setCell ⟨w.heap.size, 0, none⟩ (.slice a5 n5 p5)).setCell ⟨w.heap.size, 1, none⟩ (.slice (some ⟨g7, 0, none⟩) 1 1)).setCell ⟨w.heap.size, 2, none⟩ (.bool false) = wz at HP hy ⊢
            obtain ⟨y0, y1, y2, yf⟩ := cells3i hy
            refine bodyPost_ret (v := .agg #[.slice a5 n5 p5, .slice (some ⟨g7, 0, none⟩) 1 1, .bool false]) (by simp [results, Try.results57, go_sem, y0, y1, y2]) rfl HP.out
      · rw [if_neg (by rintro ⟨_, _, h⟩; cases h)]
        go_enter Try.func57, Try.ntmps57
        go_wp2_with fail
        generalize w.alloc (.cells #[.slice none 0 0, .slice none 0 0, .bool false] 65) = w0 at *
        refine HN.out.mono ?_
        rintro e w1 ⟨rfl, ht⟩
        have HR1 := hidden ht.state
        have HK1 := hidden ((HK0.out.mono (S' := fun k => k = rb) (fun k _ h => h.elim)).trans ht.keeps)
        have HBX1 := hidden ((ht.keeps.block _ (lt_of_block HBX.out) (by omega)).trans HBX.out)
        have HCX1 := hidden (HCX0.out.keep ht.keeps (by omega) (fun k e e2 => by have := hvr k e; omega))
        have HS1 := hidden (Nat.le_trans (Nat.le_of_eq HSZ.out.symm) ht.keeps.size)
        clear ht HN HCX0 HBX HK0 HSZ
        obtain ⟨c0, c1, c2, c3, c4, c5, c6, c7, c8, cf⟩ := HCX1.out.cells
        go_wp2_with fail
        refine (HA.out _).mono ?_
        rintro e w2 ⟨rfl, rfl⟩
        clear HA
        go_wp2_with fail
        refine (HW.out _ HR1.out).mono ?_
        rintro e w3 ⟨rfl, hk3⟩
        have HBXw := hidden ((hk3.block _ (lt_of_block HBX1.out) (fun h => h)).trans HBX1.out)
        have HKw := hidden (HK1.out.trans (hk3.mono (S' := fun k => k = rb) (fun k _ h => h.elim)))
        have HCX3 := hidden (HCX1.out.still hk3)
        have HS3 := hidden (Nat.le_trans HS1.out hk3.size)
        clear hk3 HW HR1 HK1 HBX1 HCX1 HS1
        clear c0 c1 c2 c3 c4 c5 c6 c7 c8 cf
        obtain ⟨c0, c1, c2, c3, c4, c5, c6, c7, c8, cf⟩ := HCX3.out.cells
        rw [hen] at c2
        have HP := hidden (OutP.wrong (i := i) (v := v) (A := A) (Z := Z) HKw.out (show a ≠ rb by omega) hal)
        obtain ⟨b0, b1, b2, bf⟩ := cells3i HBXw.out
        have hy := putO_at (.slice none 0 0) (.slice none 0 0) true HBXw.out
        unfold putO at HP hy
        go_wp2_with fail
        generalize ((w3.setCell ⟨w.heap.size, 0, none⟩ (.slice none 0 0)).setCell ⟨w.heap.size, 1, none⟩ (.slice none 0 0)).setCell ⟨w.heap.size, 2, none⟩ (.bool true) = wz at HP hy ⊢
        obtain ⟨y0, y1, y2, yf⟩ := cells3i hy
        refine bodyPost_ret (v := .agg #[.slice none 0 0, .slice none 0 0, .bool true]) (by simp [results, Try.results57, go_sem, y0, y1, y2]) rfl HP.out
  · rw [if_neg (by rintro ⟨_, h, _⟩; exact hyes h)]
    have HA : Hid (∀ w', Calls Try.prog 65 #[.complex .f64 (nb c.ol) (nb 32768), .int .i64 (n : Int)] w' fun e w'' => e = .returned (.tuple #[.complex .f64 0 0, .bool false]) ∧ w'' = w') := hidden fun w' => wtake_no (Win.mk' c.ol 32768 (by omega) (by omega) (by omega)) n (.inr (.inr (by omega))) w'
    clear hyes
    cases d
    · go_enter Try.func57, Try.ntmps57
      go_wp2_with fail
      generalize w.alloc (.cells #[.slice none 0 0, .slice none 0 0, .bool false] 65) = w0 at *
      refine HN.out.mono ?_
      rintro e w1 ⟨rfl, ht⟩
      have HR1 := hidden ht.state
      have HK1 := hidden ((HK0.out.mono (S' := fun k => k = rb) (fun k _ h => h.elim)).trans ht.keeps)
      have HBX1 := hidden ((ht.keeps.block _ (lt_of_block HBX.out) (by omega)).trans HBX.out)
      have HCX1 := hidden (HCX0.out.keep ht.keeps (by omega) (fun k e e2 => by have := hvr k e; omega))
      have HS1 := hidden (Nat.le_trans (Nat.le_of_eq HSZ.out.symm) ht.keeps.size)
      clear ht HN HCX0 HBX HK0 HSZ
      obtain ⟨c0, c1, c2, c3, c4, c5, c6, c7, c8, cf⟩ := HCX1.out.cells
      go_wp2_with fail
      refine (HA.out _).mono ?_
      rintro e w2 ⟨rfl, rfl⟩
      clear HA
      go_wp2_with fail
      refine (HW.out _ HR1.out).mono ?_
      rintro e w3 ⟨rfl, hk3⟩
      have HBXw := hidden ((hk3.block _ (lt_of_block HBX1.out) (fun h => h)).trans HBX1.out)
      have HKw := hidden (HK1.out.trans (hk3.mono (S' := fun k => k = rb) (fun k _ h => h.elim)))
      have HCX3 := hidden (HCX1.out.still hk3)
      have HS3 := hidden (Nat.le_trans HS1.out hk3.size)
      clear hk3 HW HR1 HK1 HBX1 HCX1 HS1
      clear c0 c1 c2 c3 c4 c5 c6 c7 c8 cf
      have HP := hidden (OutP.wrong (i := i) (v := v) (A := A) (Z := Z) HKw.out (show a ≠ rb by omega) hal)
      obtain ⟨b0, b1, b2, bf⟩ := cells3i HBXw.out
      have hy := putO_at (.slice none 0 0) (.slice none 0 0) true HBXw.out
      unfold putO at HP hy
      go_wp2_with fail
      generalize ((w3.setCell ⟨w.heap.size, 0, none⟩ (.slice none 0 0)).setCell ⟨w.heap.size, 1, none⟩ (.slice none 0 0)).setCell ⟨w.heap.size, 2, none⟩ (.bool true) = wz at HP hy ⊢
      obtain ⟨y0, y1, y2, yf⟩ := cells3i hy
      refine bodyPost_ret (v := .agg #[.slice none 0 0, .slice none 0 0, .bool true]) (by simp [results, Try.results57, go_sem, y0, y1, y2]) rfl HP.out
    · go_enter Try.func57, Try.ntmps57
      go_wp2_with fail
      generalize w.alloc (.cells #[.slice none 0 0, .slice none 0 0, .bool false] 65) = w0 at *
      refine HN.out.mono ?_
      rintro e w1 ⟨rfl, ht⟩
      have HR1 := hidden ht.state
      have HK1 := hidden ((HK0.out.mono (S' := fun k => k = rb) (fun k _ h => h.elim)).trans ht.keeps)
      have HBX1 := hidden ((ht.keeps.block _ (lt_of_block HBX.out) (by omega)).trans HBX.out)
      have HCX1 := hidden (HCX0.out.keep ht.keeps (by omega) (fun k e e2 => by have := hvr k e; omega))
      have HS1 := hidden (Nat.le_trans (Nat.le_of_eq HSZ.out.symm) ht.keeps.size)
      clear ht HN HCX0 HBX HK0 HSZ
      obtain ⟨c0, c1, c2, c3, c4, c5, c6, c7, c8, cf⟩ := HCX1.out.cells
      go_wp2_with fail
      refine (HA.out _).mono ?_
      rintro e w2 ⟨rfl, rfl⟩
      clear HA
      go_wp2_with fail
      refine (HW.out _ HR1.out).mono ?_
      rintro e w3 ⟨rfl, hk3⟩
      have HBXw := hidden ((hk3.block _ (lt_of_block HBX1.out) (fun h => h)).trans HBX1.out)
      have HKw := hidden (HK1.out.trans (hk3.mono (S' := fun k => k = rb) (fun k _ h => h.elim)))
      have HCX3 := hidden (HCX1.out.still hk3)
      have HS3 := hidden (Nat.le_trans HS1.out hk3.size)
      clear hk3 HW HR1 HK1 HBX1 HCX1 HS1
      clear c0 c1 c2 c3 c4 c5 c6 c7 c8 cf
      have HP := hidden (OutP.wrong (i := i) (v := v) (A := A) (Z := Z) HKw.out (show a ≠ rb by omega) hal)
      obtain ⟨b0, b1, b2, bf⟩ := cells3i HBXw.out
      have hy := putO_at (.slice none 0 0) (.slice none 0 0) true HBXw.out
      unfold putO at HP hy
      go_wp2_with fail
      generalize ((w3.setCell ⟨w.heap.size, 0, none⟩ (.slice none 0 0)).setCell ⟨w.heap.size, 1, none⟩ (.slice none 0 0)).setCell ⟨w.heap.size, 2, none⟩ (.bool true) = wz at HP hy ⊢
      obtain ⟨y0, y1, y2, yf⟩ := cells3i hy
      refine bodyPost_ret (v := .agg #[.slice none 0 0, .slice none 0 0, .bool true]) (by simp [results, Try.results57, go_sem, y0, y1, y2]) rfl HP.out
end Go.Proofs.Ytnimdbjbkoggdaa
