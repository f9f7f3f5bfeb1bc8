/- Take and Add of windows, both sides; the document's Right, Left, Most and Of. -/
import Derived.Test.YtnimdbjbkoggdaaGreatWxC
namespace Go.Proofs.YtnimdbjbkoggdaaGreat
open Go Go.RowKit

set_option maxHeartbeats 800000 in
theorem wtake_no {x y : Nat} {r : Bool} {a b : Nat} (h : Win x y r a b) (n : Int) (hn : r = false ∨ n < 0 ∨ (a : Int) < n) (w : World) :
    Calls Tryz.prog 71 #[.complex .f64 x y, .int .i64 n] w fun e w' => e = .returned (.tuple #[.complex .f64 0 0, .bool false]) ∧ w' = w := by
  have HF := hidden (right_w h w)
  have HL := hidden (left_w h w)
  have hb : r = true → a ≤ 4294967295 := fun e => (h.right e).2.2.1
  clear h
  cases r
  · clear hn hb
    go_enter Tryz.func71, Tryz.ntmps71
    go_wp2_with (refine HF.out.mono ?_; rintro e w' ⟨rfl, rfl⟩)
    go_ret2
    exact ⟨rfl, rfl⟩
  · have ha : a ≤ 4294967295 := hb rfl
    by_cases h0 : n < 0
    · clear hn hb
      go_enter Tryz.func71, Tryz.ntmps71
      go_wp2_with (refine HF.out.mono ?_; rintro e w' ⟨rfl, rfl⟩)
      go_ret2
      exact ⟨rfl, rfl⟩
    · have h2 : (a : Int) < n := by
        rcases hn with h | h | h
        · cases h
        · exact absurd h h0
        · exact h
      clear hn hb
      go_enter Tryz.func71, Tryz.ntmps71
      go_wp2_with (first | (refine HF.out.mono ?_; rintro e w' ⟨rfl, rfl⟩) | (refine HL.out.mono ?_; rintro e w' ⟨rfl, rfl⟩))
      go_ret2
      exact ⟨rfl, rfl⟩

set_option maxHeartbeats 800000 in
theorem add_no {x y : Nat} {r : Bool} {a b : Nat} (h : Win x y r a b) (n : Int) (hn : r = false ∨ n < 0 ∨ (4294967295 : Int) - (a : Int) < n) (w : World) :
    Calls Tryz.prog 95 #[.complex .f64 x y, .int .i64 n] w fun e w' => e = .returned (.tuple #[.complex .f64 0 0, .bool false]) ∧ w' = w := by
  have HF := hidden (right_w h w)
  have HL := hidden (left_w h w)
  have hb : r = true → a ≤ 4294967295 := fun e => (h.right e).2.2.1
  clear h
  cases r
  · clear hn hb
    go_enter Tryz.func95, Tryz.ntmps95
    go_wp2_with (refine HF.out.mono ?_; rintro e w' ⟨rfl, rfl⟩)
    go_ret2
    exact ⟨rfl, rfl⟩
  · have ha : a ≤ 4294967295 := hb rfl
    by_cases h0 : n < 0
    · clear hn hb
      go_enter Tryz.func95, Tryz.ntmps95
      go_wp2_with (refine HF.out.mono ?_; rintro e w' ⟨rfl, rfl⟩)
      go_ret2
      exact ⟨rfl, rfl⟩
    · have h2 : (4294967295 : Int) - (a : Int) < n := by
        rcases hn with h | h | h
        · cases h
        · exact absurd h h0
        · exact h
      clear hn hb
      go_enter Tryz.func95, Tryz.ntmps95
      go_wp2_with (first | (refine HF.out.mono ?_; rintro e w' ⟨rfl, rfl⟩) | (refine HL.out.mono ?_; rintro e w' ⟨rfl, rfl⟩))
      go_ret2
      exact ⟨rfl, rfl⟩

set_option maxHeartbeats 800000 in
theorem add_yes {x y a b : Nat} (h : Win x y true a b) (k : Nat) (hk : a + k ≤ 4294967295) (w : World) :
    Calls Tryz.prog 95 #[.complex .f64 x y, .int .i64 (k : Int)] w fun e w' => e = .returned (.tuple #[.complex .f64 (nb (a + k)) (nb b), .bool true]) ∧ w' = w := by
  have HF := hidden (right_w h w)
  have HL := hidden (left_w h w)
  have HB := hidden (bytesLeft_c k w)
  obtain ⟨rfl, rfl, ha, h1, h2⟩ := h.right rfl
  have hs := add_run a b k (by omega) (by omega) w
  have hk1 : ¬ (k : Int) < 0 := by omega
  have hk2 : ¬ (4294967295 : Int) - (a : Int) < (k : Int) := by omega
  clear h h1 h2
  generalize nb a = x at *
  generalize nb b = y at *
  generalize nb (a + k) = z at *
  generalize nb k = u at *
  go_enter Tryz.func95, Tryz.ntmps95
  go_wp2_with (first | (refine HF.out.mono ?_; rintro e w' ⟨rfl, rfl⟩) | (refine HL.out.mono ?_; rintro e w' ⟨rfl, rfl⟩) | (refine HB.out.mono ?_; rintro e w' ⟨rfl, rfl⟩))
  go_ret2
  exact ⟨rfl, rfl⟩

set_option maxHeartbeats 1600000 in
theorem rright_w {x y : Nat} {r : Bool} {a b : Nat} (h : Win x y r a b) (w : World) : Calls Tryz.prog 72 #[.complex .f64 x y] w fun e w' => e = .returned (.bool r) ∧ w' = w := by
  obtain ⟨n, m, h1, h2, h3⟩ := h.doc
  have c1 := conv_run h1 w
  have c2 := conv_run h2 w
  clear h h1 h2
  unfold qB mxB oneB dtB at h3
  have HR := hidden h3
  cases e1 : geB x 0
  · simp only [e1, Bool.false_and] at h3
    subst h3
    unfold geB at e1
    go_enter Tryz.func72, Tryz.ntmps72
    go_wp2
    go_ret
    exact ⟨rfl, rfl⟩
  cases e2 : leB x 4751297606873776128
  · simp only [e1, e2, Bool.false_and, Bool.and_false] at h3
    subst h3
    unfold geB at e1
    unfold leB at e2
    go_enter Tryz.func72, Tryz.ntmps72
    go_wp2
    go_ret
    exact ⟨rfl, rfl⟩
  cases e3 : geB y 4607182418800017408
  · simp only [e1, e2, e3, Bool.false_and, Bool.and_false] at h3
    subst h3
    unfold geB at e1 e3
    unfold leB at e2
    go_enter Tryz.func72, Tryz.ntmps72
    go_wp2
    go_ret
    exact ⟨rfl, rfl⟩
  cases e4 : leB y 4674736413210574848
  · simp only [e1, e2, e3, e4, Bool.false_and, Bool.and_false] at h3
    subst h3
    unfold geB at e1 e3
    unfold leB at e2 e4
    go_enter Tryz.func72, Tryz.ntmps72
    go_wp2
    go_ret
    exact ⟨rfl, rfl⟩
  cases e5 : eqB (floatOfInt .f64 n) x
  · simp only [e5, Bool.false_and, Bool.and_false] at h3
    subst h3
    unfold geB at e1 e3
    unfold leB at e2 e4
    unfold eqB at e5
    go_enter Tryz.func72, Tryz.ntmps72
    go_wp2
    go_ret
    exact ⟨rfl, rfl⟩
  · rw [e1, e2, e3, e4, e5] at h3
    simp only [Bool.and_true, Bool.true_and] at h3
    subst h3
    unfold geB at e1 e3
    unfold leB at e2 e4
    unfold eqB at e5
    clear HR
    go_enter Tryz.func72, Tryz.ntmps72
    go_wp2
    go_ret
    exact ⟨rfl, rfl⟩

set_option maxHeartbeats 800000 in
theorem rleft_w {x y : Nat} {r : Bool} {a b : Nat} (h : Win x y r a b) (w : World) : Calls Tryz.prog 73 #[.complex .f64 x y] w fun e w' => e = .returned (.int .i64 (a : Int)) ∧ w' = w := by
  have HF := hidden (rright_w h w)
  cases r
  · obtain ⟨rfl, rfl⟩ := h.wrong rfl
    clear h
    go_enter Tryz.func73, Tryz.ntmps73
    go_wp2_with (refine HF.out.mono ?_; rintro e w' ⟨rfl, rfl⟩)
    go_ret
    exact ⟨rfl, rfl⟩
  · obtain ⟨rfl, rfl, ha, _, _⟩ := h.right rfl
    have hc := conv_run (toInt_nb a (by omega)) w
    clear h
    generalize nb a = x at *
    generalize nb b = y at *
    go_enter Tryz.func73, Tryz.ntmps73
    go_wp2_with (refine HF.out.mono ?_; rintro e w' ⟨rfl, rfl⟩)
    go_ret
    exact ⟨rfl, rfl⟩

set_option maxHeartbeats 800000 in
theorem rmost_w {x y : Nat} {r : Bool} {a b : Nat} (h : Win x y r a b) (w : World) : Calls Tryz.prog 74 #[.complex .f64 x y] w fun e w' => e = .returned (.int .i64 (b : Int)) ∧ w' = w := by
  have HF := hidden (rright_w h w)
  cases r
  · obtain ⟨rfl, rfl⟩ := h.wrong rfl
    clear h
    go_enter Tryz.func74, Tryz.ntmps74
    go_wp2_with (refine HF.out.mono ?_; rintro e w' ⟨rfl, rfl⟩)
    go_ret
    exact ⟨rfl, rfl⟩
  · obtain ⟨rfl, rfl, ha, _, _⟩ := h.right rfl
    have hc := conv_run (toInt_nb b (by omega)) w
    clear h
    generalize nb a = x at *
    generalize nb b = y at *
    go_enter Tryz.func74, Tryz.ntmps74
    go_wp2_with (refine HF.out.mono ?_; rintro e w' ⟨rfl, rfl⟩)
    go_ret
    exact ⟨rfl, rfl⟩

theorem rof_c (a b : Nat) (hb : b ≤ 32768) (w : World) : Calls Tryz.prog 64 #[.int .i64 (a : Int), .int .i64 (b : Int)] w fun e w' => e = .returned (.complex .f64 (nb a) (nb b)) ∧ w' = w := by
  have h1 : ¬ (32768 : Int) < (b : Int) := by omega
  rw [← of_nat a, ← of_nat b]
  go_enter Tryz.func64, Tryz.ntmps64
  go_wp2
  go_ret
  exact ⟨rfl, rfl⟩


set_option maxHeartbeats 800000 in
theorem radd_no {x y : Nat} {r : Bool} {a b : Nat} (h : Win x y r a b) (n : Int) (hn : r = false ∨ n < 0 ∨ (4294967295 : Int) - (a : Int) < n) (w : World) :
    Calls Tryz.prog 68 #[.complex .f64 x y, .int .i64 n] w fun e w' => e = .returned (.tuple #[.complex .f64 0 0, .bool false]) ∧ w' = w := by
  have HF := hidden (rright_w h w)
  have HL := hidden (rleft_w h w)
  have hb : r = true → a ≤ 4294967295 := fun e => (h.right e).2.2.1
  clear h
  cases r
  · clear hn hb
    go_enter Tryz.func68, Tryz.ntmps68
    go_wp2_with (refine HF.out.mono ?_; rintro e w' ⟨rfl, rfl⟩)
    go_ret2
    exact ⟨rfl, rfl⟩
  · have ha : a ≤ 4294967295 := hb rfl
    by_cases h0 : n < 0
    · clear hn hb
      go_enter Tryz.func68, Tryz.ntmps68
      go_wp2_with (refine HF.out.mono ?_; rintro e w' ⟨rfl, rfl⟩)
      go_ret2
      exact ⟨rfl, rfl⟩
    · have h2 : (4294967295 : Int) - (a : Int) < n := by
        rcases hn with h | h | h
        · cases h
        · exact absurd h h0
        · exact h
      clear hn hb
      go_enter Tryz.func68, Tryz.ntmps68
      go_wp2_with (first | (refine HF.out.mono ?_; rintro e w' ⟨rfl, rfl⟩) | (refine HL.out.mono ?_; rintro e w' ⟨rfl, rfl⟩))
      go_ret2
      exact ⟨rfl, rfl⟩


set_option maxHeartbeats 800000 in
theorem radd_yes {x y a b : Nat} (h : Win x y true a b) (k : Nat) (hk : a + k ≤ 4294967295) (w : World) :
    Calls Tryz.prog 68 #[.complex .f64 x y, .int .i64 (k : Int)] w fun e w' => e = .returned (.tuple #[.complex .f64 (nb (a + k)) (nb b), .bool true]) ∧ w' = w := by
  have HF := hidden (rright_w h w)
  have HL := hidden (rleft_w h w)
  have HM := hidden (rmost_w h w)
  obtain ⟨rfl, rfl, ha, h1, h2⟩ := h.right rfl
  have hb := rof_c (a + k) b h2 w
  rw [show ((a + k : Nat) : Int) = (a : Int) + (k : Int) by omega] at hb
  have HB := hidden hb
  have hk1 : ¬ (k : Int) < 0 := by omega
  have hk2 : ¬ (4294967295 : Int) - (a : Int) < (k : Int) := by omega
  clear h h1 h2 hb
  generalize nb a = x at *
  generalize nb b = y at *
  generalize nb (a + k) = z at *
  go_enter Tryz.func68, Tryz.ntmps68
  go_wp2_with (first | (refine HF.out.mono ?_; rintro e w' ⟨rfl, rfl⟩) | (refine HL.out.mono ?_; rintro e w' ⟨rfl, rfl⟩) | (refine HM.out.mono ?_; rintro e w' ⟨rfl, rfl⟩) | (refine HB.out.mono ?_; rintro e w' ⟨rfl, rfl⟩))
  go_ret2
  exact ⟨rfl, rfl⟩
end Go.Proofs.YtnimdbjbkoggdaaGreat
