/- The walk of the law ChachaNumbers. -/
import Derived.Test.YthbmagnajliabaaChN
namespace Go.Proofs.Ythbmagnajliabaa
open Go Go.RowKit

theorem bsl_none (w : World) : BSl w (.slice none 0 0) [] := ⟨none, 0, rfl, by simp, by simp [maxLen], fun _ => ⟨rfl, rfl⟩, (fun ad e => by cases e)⟩
theorem rise_b (m : Nat) (hm : m ≤ 1000) (w : World) :
    Calls Try.prog 9 #[.int .i64 m] w fun e w' => ∃ ao cap, e = .returned (.slice ao m cap) ∧ BSl w' (.slice ao m cap) (riseL m) ∧ Below w.heap.size w w' := by
  refine (rising_c m hm w).mono ?_
  rintro e w' ⟨v, rfl, ho, hb⟩
  have h := BSl.ofRow ho
  obtain ⟨ao, cap, rfl⟩ := h.len
  rw [riseL_length] at h ⊢
  exact ⟨ao, cap, rfl, h, hb⟩
theorem ok_rise (a b : Nat) : okSizes (riseL a) (riseL b) = (decide (a = 32) && decide (b = 12)) := by simp [okSizes, riseL_length]

theorem made130 : ∃ Z : Array Value, (∀ w, (Instr.makeSlice 22 (.int .i64 130) (.int .i64 130)).run Try.prog w = .ok (.slice (some ⟨w.heap.size, 0, none⟩) 130 130) (w.alloc (.cells Z 5))) ∧ ∀ w : World, BSl (w.alloc (.cells Z 5)) (.slice (some ⟨w.heap.size, 0, none⟩) 130 130) (List.replicate 130 0) :=
  ⟨_, fun w => made_run 130 (by omega) w, fun w => BSl.zeros w 130 (by omega)⟩
set_option maxHeartbeats 3200000 in
set_option maxRecDepth 100000 in
theorem chachaNumbers_c (w : World) :
    Calls Try.prog 3 #[] w fun e w' => e = .returned (.bool true) ∧ Below w.heap.size w w' := by
  obtain ⟨Z, hmk, hmz⟩ := made130
  have hok : okSizes (riseL 32) (riseL 12) = true := by rw [ok_rise]; decide
  have HMZ := hidden hmz
  clear hmz
  go_enter Try.func3, Try.ntmps3
  go_wp2_with fail
  refine (rise_b 31 (by omega) _).mono ?_
  rintro e w1 ⟨aa1, ca1, rfl, ha1, hb⟩
  have Bw1 := hidden hb
  clear hb
  have Ha1 := hidden ha1
  clear ha1
  go_wp2_with fail
  refine (rise_b 12 (by omega) _).mono ?_
  rintro e w2 ⟨aa2, ca2, rfl, ha2, hb⟩
  have Bw2 := hidden (Bw1.out.trans (hb.mono Bw1.out.size))
  have Ha19 := Ha1.out.fresh hb
  clear Ha1
  have Ha1 := hidden Ha19
  clear Ha19
  clear Bw1
  clear hb
  have Ha2 := hidden ha2
  clear ha2
  go_wp2_with fail
  refine (Block_c _ _ (riseL 31) (riseL 12) 0 w2 Ha1.out Ha2.out).mono ?_
  rintro e w3 hT
  obtain ⟨hb, oA, nA, qA, kA, rfl, hc, hx⟩ := told_str hT
  clear hT
  have hok9 : okSizes (riseL 31) (riseL 12) = false := by rw [ok_rise]; decide
  rw [hok9] at hc hx
  rw [if_neg Bool.false_ne_true] at hc hx
  subst hc
  clear hok9
  have Bw3 := hidden (Bw2.out.trans (hb.mono Bw2.out.size))
  have Ha19 := Ha1.out.fresh hb
  clear Ha1
  have Ha1 := hidden Ha19
  clear Ha19
  have Ha29 := Ha2.out.fresh hb
  clear Ha2
  have Ha2 := hidden Ha29
  clear Ha29
  clear Bw2
  clear hb
  clear hx
  clear Ha1
  clear Ha2
  go_wp2_with fail
  refine (rise_b 32 (by omega) _).mono ?_
  rintro e w4 ⟨aa1, ca1, rfl, ha1, hb⟩
  have Bw4 := hidden (Bw3.out.trans (hb.mono Bw3.out.size))
  clear Bw3
  clear hb
  have Ha1 := hidden ha1
  clear ha1
  go_wp2_with fail
  refine (rise_b 11 (by omega) _).mono ?_
  rintro e w5 ⟨aa2, ca2, rfl, ha2, hb⟩
  have Bw5 := hidden (Bw4.out.trans (hb.mono Bw4.out.size))
  have Ha19 := Ha1.out.fresh hb
  clear Ha1
  have Ha1 := hidden Ha19
  clear Ha19
  clear Bw4
  clear hb
  have Ha2 := hidden ha2
  clear ha2
  go_wp2_with fail
  refine (Block_c _ _ (riseL 32) (riseL 11) 0 w5 Ha1.out Ha2.out).mono ?_
  rintro e w6 hT
  obtain ⟨hb, oBb, nBb, qBb, kBb, rfl, hc, hx⟩ := told_str hT
  clear hT
  have hok9 : okSizes (riseL 32) (riseL 11) = false := by rw [ok_rise]; decide
  rw [hok9] at hc hx
  rw [if_neg Bool.false_ne_true] at hc hx
  subst hc
  clear hok9
  have Bw6 := hidden (Bw5.out.trans (hb.mono Bw5.out.size))
  have Ha19 := Ha1.out.fresh hb
  clear Ha1
  have Ha1 := hidden Ha19
  clear Ha19
  have Ha29 := Ha2.out.fresh hb
  clear Ha2
  have Ha2 := hidden Ha29
  clear Ha29
  clear Bw5
  clear hb
  clear hx
  clear Ha1
  clear Ha2
  go_wp2_with fail
  refine (rise_b 33 (by omega) _).mono ?_
  rintro e w7 ⟨aa1, ca1, rfl, ha1, hb⟩
  have Bw7 := hidden (Bw6.out.trans (hb.mono Bw6.out.size))
  clear Bw6
  clear hb
  have Ha1 := hidden ha1
  clear ha1
  go_wp2_with fail
  refine (rise_b 12 (by omega) _).mono ?_
  rintro e w8 ⟨aa2, ca2, rfl, ha2, hb⟩
  have Bw8 := hidden (Bw7.out.trans (hb.mono Bw7.out.size))
  have Ha19 := Ha1.out.fresh hb
  clear Ha1
  have Ha1 := hidden Ha19
  clear Ha19
  clear Bw7
  clear hb
  have Ha2 := hidden ha2
  clear ha2
  go_wp2_with fail
  refine (Xor_c _ _ _ (riseL 33) (riseL 12) [] 0 (by omega) (by omega) (by simp) w8 Ha1.out Ha2.out (bsl_none _)).mono ?_
  rintro e w9 hT
  obtain ⟨hb, oC, nC, qC, kC, rfl, hc, hx⟩ := told_str hT
  clear hT
  have hok9 : okSizes (riseL 33) (riseL 12) = false := by rw [ok_rise]; decide
  rw [hok9] at hc hx
  rw [if_neg Bool.false_ne_true] at hc hx
  subst hc
  clear hok9
  have Bw9 := hidden (Bw8.out.trans (hb.mono Bw8.out.size))
  have Ha19 := Ha1.out.fresh hb
  clear Ha1
  have Ha1 := hidden Ha19
  clear Ha19
  have Ha29 := Ha2.out.fresh hb
  clear Ha2
  have Ha2 := hidden Ha29
  clear Ha29
  clear Bw8
  clear hb
  clear hx
  clear Ha1
  clear Ha2
  go_wp2_with fail
  refine (rise_b 32 (by omega) _).mono ?_
  rintro e w10 ⟨aa1, ca1, rfl, ha1, hb⟩
  have Bw10 := hidden (Bw9.out.trans (hb.mono Bw9.out.size))
  clear Bw9
  clear hb
  have Ha1 := hidden ha1
  clear ha1
  go_wp2_with fail
  refine (Xor_c _ _ _ (riseL 32) [] [] 0 (by omega) (by omega) (by simp) w10 Ha1.out (bsl_none _) (bsl_none _)).mono ?_
  rintro e w11 hT
  obtain ⟨hb, oD, nD, qD, kD, rfl, hc, hx⟩ := told_str hT
  clear hT
  have hok9 : okSizes (riseL 32) [] = false := by simp [okSizes]
  rw [hok9] at hc hx
  rw [if_neg Bool.false_ne_true] at hc hx
  subst hc
  clear hok9
  have Bw11 := hidden (Bw10.out.trans (hb.mono Bw10.out.size))
  have Ha19 := Ha1.out.fresh hb
  clear Ha1
  have Ha1 := hidden Ha19
  clear Ha19
  clear Bw10
  clear hb
  clear hx
  clear Ha1
  go_wp2_with fail
  refine (rise_b 32 (by omega) _).mono ?_
  rintro e w12 ⟨aa1, ca1, rfl, ha1, hb⟩
  have Bw12 := hidden (Bw11.out.trans (hb.mono Bw11.out.size))
  clear Bw11
  clear hb
  have Ha1 := hidden ha1
  clear ha1
  go_wp2_with fail
  refine (rise_b 12 (by omega) _).mono ?_
  rintro e w13 ⟨aa2, ca2, rfl, ha2, hb⟩
  have Bw13 := hidden (Bw12.out.trans (hb.mono Bw12.out.size))
  have Ha19 := Ha1.out.fresh hb
  clear Ha1
  have Ha1 := hidden Ha19
  clear Ha19
  clear Bw12
  clear hb
  have Ha2 := hidden ha2
  clear ha2
  go_wp2_with fail
  refine (Xor_c _ _ _ (riseL 32) (riseL 12) [] 0 (by omega) (by omega) (by simp) w13 Ha1.out Ha2.out (bsl_none _)).mono ?_
  rintro e w14 hT
  obtain ⟨hb, oX, nX, qX, kX, rfl, hc, hx⟩ := told_str hT
  clear hT
  have hok9 : okSizes (riseL 32) (riseL 12) = true := by rw [ok_rise]; decide
  rw [hok9] at hc hx
  rw [if_pos rfl] at hc hx
  subst hc
  clear hok9
  have Bw14 := hidden (Bw13.out.trans (hb.mono Bw13.out.size))
  have Ha19 := Ha1.out.fresh hb
  clear Ha1
  have Ha1 := hidden Ha19
  clear Ha19
  have Ha29 := Ha2.out.fresh hb
  clear Ha2
  have Ha2 := hidden Ha29
  clear Ha29
  clear Bw13
  clear hb
  have HX := hidden hx
  clear hx
  clear Ha1
  clear Ha2
  go_wp2_with fail
  go_region_with (first
    | (go_at_call_of 9 (Value.int IntKind.i64 32); refine (rise_b 32 (by omega) _).mono ?_; rintro e W1Y ⟨p1Y, q1Y, rfl, g1Y, b1oY⟩; have b1Y : Below w14.heap.size w14 W1Y := by first | exact below_undrew b1oY | exact below_undrew (below_alloc b1oY))
    | (go_at_call_of 9 (Value.int IntKind.i64 12); refine (rise_b 12 (by omega) _).mono ?_; rintro e W2Y ⟨p2Y, q2Y, rfl, g2Y, b2oY⟩; have b2Y : Below W1Y.heap.size W1Y W2Y := by first | exact b2oY | exact below_alloc b2oY)
    | (go_at_call 10; (refine (Xor_c _ _ _ (riseL 32) (riseL 12) (List.replicate 130 0) 4294967295 (by omega) (by omega) (by simp) _ ?_ ?_ ?_).mono ?_; (first | exact g1Y.fresh b2Y | exact (g1Y.fresh b2Y).alloc _); (first | exact g2Y | exact g2Y.alloc _); (first | exact HMZ.out _ | exact (HMZ.out _).fresh b2oY | exact ((HMZ.out _).fresh (below_undrew b1oY)).fresh b2Y); rintro e W3Y hT; obtain ⟨hb3, oY, nY, qY, kY, rfl, hc, hx⟩ := told_str hT; have b3Y : Below W2Y.heap.size W2Y W3Y := (by first | exact hb3 | exact below_alloc hb3); rw [if_pos hok] at hc hx; subst hc; have HY := hidden hx; clear hx hT hb3)))
  all_goals
    have hbY : Below w.heap.size w W3Y := ((Bw14.out.trans (b1Y.mono Bw14.out.size)).trans (b2Y.mono (by have := Bw14.out.size; have := b1Y.size; omega))).trans (b3Y.mono (by have := Bw14.out.size; have := b1Y.size; have := b2Y.size; omega))
    have HBY := hidden hbY
    obtain ⟨xa, xc, ex⟩ := HX.out.len
    cases ex
    clear hbY b1oY b2oY b1Y b2Y b3Y g1Y g2Y HX Bw14
    go_wp2_with fail
    go_region_with (first
      | (go_at_call_of 9 (Value.int IntKind.i64 32); refine (rise_b 32 (by omega) _).mono ?_; rintro e W1Z ⟨p1Z, q1Z, rfl, g1Z, b1oZ⟩; have b1Z : Below W3Y.heap.size W3Y W1Z := by first | exact below_undrew b1oZ | exact below_undrew (below_alloc b1oZ))
      | (go_at_call_of 9 (Value.int IntKind.i64 12); refine (rise_b 12 (by omega) _).mono ?_; rintro e W2Z ⟨p2Z, q2Z, rfl, g2Z, b2oZ⟩; have b2Z : Below W1Z.heap.size W1Z W2Z := by first | exact b2oZ | exact below_alloc b2oZ)
      | (go_at_call 11; (refine (rXor_c _ _ _ (riseL 32) (riseL 12) (List.replicate 130 0) 4294967295 (by omega) (by omega) (by simp) _ ?_ ?_ ?_).mono ?_; (first | exact g1Z.fresh b2Z | exact (g1Z.fresh b2Z).alloc _); (first | exact g2Z | exact g2Z.alloc _); (first | exact HMZ.out _ | exact (HMZ.out _).fresh b2oZ | exact ((HMZ.out _).fresh (below_undrew b1oZ)).fresh b2Z); rintro e W3Z hT; obtain ⟨hb3, oZ, nZ, qZ, kZ, rfl, hc, hx⟩ := told_str hT; have b3Z : Below W2Z.heap.size W2Z W3Z := (by first | exact hb3 | exact below_alloc hb3); rw [if_pos hok] at hc hx; subst hc; have HZ := hidden hx; clear hx hT hb3)))
    all_goals
      have hbZ : Below w.heap.size w W3Z := ((HBY.out.trans (b1Z.mono HBY.out.size)).trans (b2Z.mono (by have := HBY.out.size; have := b1Z.size; omega))).trans (b3Z.mono (by have := HBY.out.size; have := b1Z.size; have := b2Z.size; omega))
      have HBZ := hidden hbZ
      have r1 := run_string (((HY.out.fresh b1Z).fresh b2Z).fresh b3Z)
      have r2 := run_string HZ.out
      clear hbZ b1oZ b2oZ b1Z b2Z b3Z g1Z g2Z HBY HY HZ hmk
      generalize xorL (riseL 32) 4294967295 (riseL 12) (List.replicate 130 0) = A at r1 r2
      go_wp2_with fail
      refine (known_c _).mono ?_
      rintro e w99 ⟨rfl, hb9⟩
      go_wp2
      go_ret
      exact ⟨rfl, HBZ.out.trans (hb9.mono HBZ.out.size)⟩
end Go.Proofs.Ythbmagnajliabaa
