/- Windows, right ones and others: what Left, Most, Take, Add and Of answer of them, both sides. -/
import Derived.Test.YtnimdbjbkoggdaaWxB
namespace Go.Proofs.Ytnimdbjbkoggdaa
open Go Go.RowKit

theorem fl_nb (a : Nat) (h : a < 9007199254740992) : fl (nb a) = nb a := by
  unfold fl
  rw [integral_nb a h]
  rfl
theorem isNaN_nb (a : Nat) (h : a < 9007199254740992) : (Ieee.double.read (nb a)).isNaN = false := by
  obtain ⟨k, hk⟩ := read_nb a h
  rw [hk]
  rfl
theorem ordK (x y : Nat) : FloatKind.f64.format.order x y = Ieee.double.order x y := rfl
theorem eqB_nb (a b : Nat) (ha : a < 9007199254740992) (hb : b < 9007199254740992) : eqB (nb a) (nb b) = decide (a = b) := by
  unfold eqB
  rw [ordK, order_nb a b ha hb]
  rcases Nat.lt_trichotomy a b with h | h | h
  · rw [Nat.compare_eq_lt.2 h, decide_eq_false (by omega)]; rfl
  · rw [Nat.compare_eq_eq.2 h, decide_eq_true h]; rfl
  · rw [Nat.compare_eq_gt.2 h, decide_eq_false (by omega)]; rfl
theorem geB_nb (a b : Nat) (ha : a < 9007199254740992) (hb : b < 9007199254740992) : geB (nb a) (nb b) = decide (b ≤ a) := by
  unfold geB
  rw [ordK, order_nb a b ha hb]
  rcases Nat.lt_trichotomy a b with h | h | h
  · rw [Nat.compare_eq_lt.2 h, decide_eq_false (by omega)]; rfl
  · rw [Nat.compare_eq_eq.2 h, decide_eq_true (by omega)]; rfl
  · rw [Nat.compare_eq_gt.2 h, decide_eq_true (by omega)]; rfl
theorem leB_nb (a b : Nat) (ha : a < 9007199254740992) (hb : b < 9007199254740992) : leB (nb a) (nb b) = decide (a ≤ b) := by
  unfold leB
  rw [ordK, order_nb a b ha hb]
  rcases Nat.lt_trichotomy a b with h | h | h
  · rw [Nat.compare_eq_lt.2 h, decide_eq_true (by omega)]; rfl
  · rw [Nat.compare_eq_eq.2 h, decide_eq_true (by omega)]; rfl
  · rw [Nat.compare_eq_gt.2 h, decide_eq_false (by omega)]; rfl
theorem wh_nb (a l m : Nat) (ha : a < 9007199254740992) (hl : l < 9007199254740992) (hm : m < 9007199254740992) : wh (nb a) (nb l) (nb m) = decide (l ≤ a ∧ a ≤ m) := by
  unfold wh
  rw [fl_nb a ha, eqB_nb a a ha ha, geB_nb a l ha hl, leB_nb a m ha hm]
  simp
theorem mxB_nb : mxB = nb 4294967295 := by decide +kernel
theorem oneB_nb : oneB = nb 1 := by decide +kernel
theorem dtB_nb : dtB = nb 32768 := by decide +kernel
theorem zero_nb : 0 = nb 0 := by decide +kernel
theorem rB_nb (a b : Nat) (ha : a < 9007199254740992) (hb : b < 9007199254740992) : rB (nb a) (nb b) = decide (a ≤ 4294967295 ∧ 1 ≤ b ∧ b ≤ 32768) := by
  unfold rB
  rw [mxB_nb, oneB_nb, dtB_nb, zero_nb, wh_nb a 0 _ ha (by omega) (by omega), wh_nb b 1 _ hb (by omega) (by omega)]
  simp [Bool.decide_and]

/-- The document's Right, once both parts are numbers that an int64 may be. -/
def qB (x y : Nat) (n m : Int) : Bool := geB x 0 && leB x mxB && geB y oneB && leB y dtB && eqB (floatOfInt .f64 n) x && eqB (floatOfInt .f64 m) y

/-- A window: its parts' words, whether it is right, and what is left and goes at most (0 of one that is not). -/
structure Win (x y : Nat) (r : Bool) (a b : Nat) : Prop where
  hx : (Ieee.double.read x).isNaN = false
  hy : (Ieee.double.read y).isNaN = false
  prog : rB x y = r
  doc : ∃ n m : Int, floatToIntVal .f64 x .i64 = some n ∧ floatToIntVal .f64 y .i64 = some m ∧ qB x y n m = r
  right : r = true → x = nb a ∧ y = nb b ∧ a ≤ 4294967295 ∧ 1 ≤ b ∧ b ≤ 32768
  wrong : r = false → a = 0 ∧ b = 0

theorem Win.mk' (a b : Nat) (ha : a ≤ 4294967295) (h1 : 1 ≤ b) (h2 : b ≤ 32768) : Win (nb a) (nb b) true a b := by
  refine ⟨isNaN_nb a (by omega), isNaN_nb b (by omega), ?_, ⟨a, b, toInt_nb a (by omega), toInt_nb b (by omega), ?_⟩, fun _ => ⟨rfl, rfl, ha, h1, h2⟩, fun h => by cases h⟩
  · rw [rB_nb a b (by omega) (by omega)]
    exact decide_eq_true ⟨ha, h1, h2⟩
  · unfold qB
    rw [of_nat, of_nat, eqB_nb a a (by omega) (by omega), eqB_nb b b (by omega) (by omega), mxB_nb, oneB_nb, dtB_nb, zero_nb, geB_nb a 0 (by omega) (by omega), leB_nb a _ (by omega) (by omega), geB_nb b 1 (by omega) (by omega), leB_nb b _ (by omega) (by omega)]
    simp [ha, h1, h2]

theorem right_w {x y : Nat} {r : Bool} {a b : Nat} (h : Win x y r a b) (w : World) : Calls Try.prog 76 #[.complex .f64 x y] w fun e w' => e = .returned (.bool r) ∧ w' = w := by
  rw [← h.prog]
  exact right_c x y h.hx h.hy w

theorem conv_run {x : Nat} {n : Int} (h : floatToIntVal .f64 x .i64 = some n) (w : World) : (convert 117 2 (.float .f64 x)).run Try.prog w = .ok (.int .i64 n) w :=
  run_convert_float_int w _ _ _ _ _ _ (by rw [Try.underlying117]; rfl) Try.underlying2 h

set_option maxHeartbeats 800000 in
theorem left_w {x y : Nat} {r : Bool} {a b : Nat} (h : Win x y r a b) (w : World) : Calls Try.prog 63 #[.complex .f64 x y] w fun e w' => e = .returned (.int .i64 (a : Int)) ∧ w' = w := by
  have HF := hidden (right_w h w)
  cases r
  · obtain ⟨rfl, rfl⟩ := h.wrong rfl
    clear h
    go_enter Try.func63, Try.ntmps63
    go_wp2_with (refine HF.out.mono ?_; rintro e w' ⟨rfl, rfl⟩)
    go_ret
    exact ⟨rfl, rfl⟩
  · obtain ⟨rfl, rfl, ha, _, _⟩ := h.right rfl
    have hc := conv_run (toInt_nb a (by omega)) w
    clear h
    generalize nb a = x at *
    generalize nb b = y at *
    go_enter Try.func63, Try.ntmps63
    go_wp2_with (refine HF.out.mono ?_; rintro e w' ⟨rfl, rfl⟩)
    go_ret
    exact ⟨rfl, rfl⟩

set_option maxHeartbeats 800000 in
theorem most_w {x y : Nat} {r : Bool} {a b : Nat} (h : Win x y r a b) (w : World) : Calls Try.prog 64 #[.complex .f64 x y] w fun e w' => e = .returned (.int .i64 (b : Int)) ∧ w' = w := by
  have HF := hidden (right_w h w)
  cases r
  · obtain ⟨rfl, rfl⟩ := h.wrong rfl
    clear h
    go_enter Try.func64, Try.ntmps64
    go_wp2_with (refine HF.out.mono ?_; rintro e w' ⟨rfl, rfl⟩)
    go_ret
    exact ⟨rfl, rfl⟩
  · obtain ⟨rfl, rfl, ha, _, _⟩ := h.right rfl
    have hc := conv_run (toInt_nb b (by omega)) w
    clear h
    generalize nb a = x at *
    generalize nb b = y at *
    go_enter Try.func64, Try.ntmps64
    go_wp2_with (refine HF.out.mono ?_; rintro e w' ⟨rfl, rfl⟩)
    go_ret
    exact ⟨rfl, rfl⟩

theorem bytesLeft_c (k : Nat) (w : World) : Calls Try.prog 77 #[.int .i64 (k : Int)] w fun e w' => e = .returned (.complex .f64 (nb k) 0) ∧ w' = w := by
  rw [← of_nat k]
  go_enter Try.func77, Try.ntmps77
  go_wp2
  go_ret
  exact ⟨rfl, rfl⟩

theorem of_c (a b : Nat) (w : World) : Calls Try.prog 54 #[.int .i64 (a : Int), .int .i64 (b : Int)] w fun e w' => e = .returned (.complex .f64 (nb a) (nb (min b 32768))) ∧ w' = w := by
  obtain ⟨m, hm⟩ : ∃ m, m = min b 32768 := ⟨_, rfl⟩
  have h1 : min (b : Int) 32768 = (m : Int) := by omega
  rw [← hm, ← of_nat a, ← of_nat m]
  clear hm
  go_enter Try.func54, Try.ntmps54
  go_wp2
  go_ret
  exact ⟨rfl, rfl⟩


theorem Win.nn {x y a b : Nat} (h : Win x y true a b) : x = nb a ∧ y = nb b ∧ a ≤ 4294967295 ∧ 1 ≤ b ∧ b ≤ 32768 := h.right rfl

theorem sub_run (a b k : Nat) (ha : a < 9007199254740992) (hb : b < 9007199254740992) (hk : k ≤ a) (w : World) :
    (binOp .sub 56 (.complex .f64 (nb a) (nb b)) (.complex .f64 (nb k) 0)).run Try.prog w = .ok (.complex .f64 (nb (a - k)) (nb b)) w := by
  refine run_complex_sum w .sub (.inr rfl) _ _ _ _ _ _ _ _ ?_
  have h1 : floatBits .sub .f64 (nb a) (nb k) = some (nb (a - k)) := sub_nb a k ha hk
  have h2 : floatBits .sub .f64 (nb b) 0 = some (nb b) := by
    rw [zero_nb]
    exact sub_nb b 0 hb (by omega)
  unfold cSumBits
  rw [h1, h2]
  rfl
theorem add_run (a b k : Nat) (ha : a + k < 9007199254740992) (hb : b < 9007199254740992) (w : World) :
    (binOp .add 56 (.complex .f64 (nb a) (nb b)) (.complex .f64 (nb k) 0)).run Try.prog w = .ok (.complex .f64 (nb (a + k)) (nb b)) w := by
  refine run_complex_sum w .add (.inl rfl) _ _ _ _ _ _ _ _ ?_
  have h1 : floatBits .add .f64 (nb a) (nb k) = some (nb (a + k)) := add_nb a k (by omega) (by omega) ha
  have h2 : floatBits .add .f64 (nb b) 0 = some (nb b) := by
    rw [zero_nb]
    exact add_nb b 0 hb (by omega) (by omega)
  unfold cSumBits
  rw [h1, h2]
  rfl

set_option maxHeartbeats 800000 in
theorem wtake_yes {x y a b : Nat} (h : Win x y true a b) (k : Nat) (hk : k ≤ a) (w : World) :
    Calls Try.prog 65 #[.complex .f64 x y, .int .i64 (k : Int)] w fun e w' => e = .returned (.tuple #[.complex .f64 (nb (a - k)) (nb b), .bool true]) ∧ w' = w := by
  have HF := hidden (right_w h w)
  have HL := hidden (left_w h w)
  have HB := hidden (bytesLeft_c k w)
  obtain ⟨rfl, rfl, ha, h1, h2⟩ := h.right rfl
  have hs := sub_run a b k (by omega) (by omega) hk w
  have hk1 : ¬ (k : Int) < 0 := by omega
  have hk2 : ¬ (a : Int) < (k : Int) := by omega
  clear h h1 h2 ha
  generalize nb a = x at *
  generalize nb b = y at *
  generalize nb (a - k) = z at *
  generalize nb k = u at *
  go_enter Try.func65, Try.ntmps65
  go_wp2_with (first | (refine HF.out.mono ?_; rintro e w' ⟨rfl, rfl⟩) | (refine HL.out.mono ?_; rintro e w' ⟨rfl, rfl⟩) | (refine HB.out.mono ?_; rintro e w' ⟨rfl, rfl⟩))
  go_ret2
  exact ⟨rfl, rfl⟩
end Go.Proofs.Ytnimdbjbkoggdaa
