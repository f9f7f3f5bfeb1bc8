/- The walk of the law PathTells. -/
import Derived.Test.YtfgeeheojglldaaPaH
namespace Go.Proofs.Ytfgeeheojglldaa
open Go Go.RowKit

theorem flat_bound (l : List ByteArray) (m : Nat) (h : ∀ s ∈ l, s.size ≤ m) : (flat l).length ≤ l.length * (m + 1) := by
  induction l with
  | nil => simp [flat]
  | cons x l ih =>
    have h1 := h x (by simp)
    have h2 := ih (fun s hs => h s (by simp [hs]))
    rw [flat_cons, List.length_cons, List.length_append, ← size_len, List.length_cons, Nat.add_mul]
    omega
theorem ssl_drewN {w : World} {v : Value} {ss : List ByteArray} (h : SSl w v ss) (n : Nat) : SSl (w.drewN n) v ss := h

set_option maxHeartbeats 1600000 in
set_option maxRecDepth 100000 in
theorem pathTells_c (s : ByteArray) (v : Value) (l : List ByteArray) (w : World) (hv : SSl w v l) :
    Calls Try.prog 4 #[.string s, v] w fun e w' => e = .returned (.bool true) ∧ Below w.heap.size w w' := by
  go_enter Try.func4, Try.ntmps4
  go_wp2_with fail
  refine (head_c s 250 (by omega) _).mono ?_
  rintro e w1 ⟨rfl, rfl⟩
  have hs : (s.extract 0 250).size ≤ 250 := by simp; omega
  generalize s.extract 0 250 = t at hs ⊢
  go_wp2_with fail
  refine (few_n 10 40 (by omega) (by omega) _ _ _ hv).mono ?_
  rintro e w2 ⟨v2, rfl, ho2, hb2⟩
  have hfl : (flat (fewL l 10 40)).length ≤ 1000 := by
    have h1 := flat_bound (fewL l 10 40) 40 (fun s hs => fewL_size hs)
    have h2 := fewL_length l 10 40
    omega
  generalize fewL l 10 40 = L at ho2 hfl
  have H2 := hidden ho2.ssl
  have HB2 := hidden hb2
  clear hv ho2 hb2
  go_wp2_with fail
  refine (split_c t _ (by omega)).mono ?_
  rintro e w3 ⟨v3, rfl, ho3, hb3⟩
  have H3 := hidden ho3.ssl
  have HB3 := hidden (HB2.out.trans (hb3.mono HB2.out.size))
  have HV3 := hidden (H2.out.fresh hb3)
  clear ho3 hb3
  go_wp2_with fail
  refine (rsplit_c t _ (by omega)).mono ?_
  rintro e w4 ⟨v4, rfl, ho4, hb4⟩
  have H4 := hidden ho4.ssl
  have HB4 := hidden (HB3.out.trans (hb4.mono HB3.out.size))
  have HV4 := hidden (HV3.out.fresh hb4)
  have H34 := hidden (H3.out.fresh hb4)
  clear ho4 hb4 H3 HV3 H2
  go_wp2_with fail
  refine (clean_c t _ (by omega)).mono ?_
  rintro e w5 ⟨rfl, hb5⟩
  have HB5 := hidden (HB4.out.trans (hb5.mono HB4.out.size))
  have HV5 := hidden (HV4.out.fresh hb5)
  have H35 := hidden (H34.out.fresh hb5)
  have H45 := hidden (H4.out.fresh hb5)
  clear hb5 H4 HV4 H34
  go_wp2_with fail
  refine (rclean_c t _ (by omega)).mono ?_
  rintro e w6 ⟨rfl, hb6⟩
  have HB6 := hidden (HB5.out.trans (hb6.mono HB5.out.size))
  have HV6 := hidden (HV5.out.fresh hb6)
  have H36 := hidden (H35.out.fresh hb6)
  have H46 := hidden (H45.out.fresh hb6)
  clear hb6 H45 HV5 H35
  generalize splitE t.data.toList = SE
  generalize cleanL t.data.toList = CL
  generalize splitL t.data.toList = SL at H36 H46
  generalize tb CL = CB
  go_wp2_with fail
  refine (texts_c _ _ SL SL _ H36.out H46.out).mono ?_
  rintro e w7 ⟨rfl, q, rfl⟩
  have hd : decide (SL = SL) = true := by simp
  rw [hd]
  have h1 : (SE == SE) = true := by simp
  have h2 : (CB.toList == CB.toList) = true := by simp
  go_wp2_with fail
  refine (right_c t _).mono ?_
  rintro e w8 ⟨rfl, rfl⟩
  go_wp2_with fail
  refine (rright_c t _ (by omega)).mono ?_
  rintro e w9 ⟨rfl, rfl⟩
  generalize rightP t.data.toList = R
  have h3 : (R == R) = true := by simp
  go_wp2_with fail
  refine (join_c _ L _ (ssl_drewN HV6.out q) (by omega)).mono ?_
  rintro e w10 ⟨rfl, hb10⟩
  go_wp2_with fail
  refine (rjoin_c _ L _ ((ssl_drewN HV6.out q).fresh hb10) (by omega)).mono ?_
  rintro e w11 ⟨rfl, rfl⟩
  generalize tb (joinP L) = J
  have h4 : (J.toList == J.toList) = true := by simp
  go_wp2_with fail
  refine (known_c _).mono ?_
  rintro e w12 ⟨rfl, hb12⟩
  have hb13 := (below_drewN HB6.out q).trans ((hb10.trans (hb12.mono hb10.size)).mono HB6.out.size)
  go_wp2
  go_ret
  exact ⟨rfl, hb13⟩
end Go.Proofs.Ytfgeeheojglldaa
