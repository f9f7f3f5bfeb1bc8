/- Take and Add of windows, both sides; the document's Right, Left, Most and Of. -/
import Derived.Test.YtnimdbjbkoggdaaWxC
namespace Go.Proofs.Ytnimdbjbkoggdaa
open Go Go.RowKit

set_option maxHeartbeats 800000 in
theorem wtake_no {x y : Nat} {r : Bool} {a b : Nat} (h : Win x y r a b) (n : Int) (hn : r = false ∨ n < 0 ∨ (a : Int) < n) (w : World) :
    Calls Try.prog 65 #[.complex .f64 x y, .int .i64 n] w fun e w' => e = .returned (.tuple #[.complex .f64 0 0, .bool false]) ∧ w' = w := by
  have HF := hidden (right_w h w)
  have HL := hidden (left_w h w)
  have hb : r = true → a ≤ 4294967295 := fun e => (h.right e).2.2.1
  clear h
  cases r
  · clear hn hb
    go_enter Try.func65, Try.ntmps65
    go_wp2_with (refine HF.out.mono ?_; rintro e w' ⟨rfl, rfl⟩)
    go_ret2
    exact ⟨rfl, rfl⟩
  · have ha : a ≤ 4294967295 := hb rfl
    by_cases h0 : n < 0
    · clear hn hb
      go_enter Try.func65, Try.ntmps65
      go_wp2_with (refine HF.out.mono ?_; rintro e w' ⟨rfl, rfl⟩)
      go_ret2
      exact ⟨rfl, rfl⟩
    · have h2 : (a : Int) < n := by
        rcases hn with h | h | h
        · cases h
        · exact absurd h h0
        · exact h
      clear hn hb
      go_enter Try.func65, Try.ntmps65
      go_wp2_with (first | (refine HF.out.mono ?_; rintro e w' ⟨rfl, rfl⟩) | (refine HL.out.mono ?_; rintro e w' ⟨rfl, rfl⟩))
      go_ret2
      exact ⟨rfl, rfl⟩

set_option maxHeartbeats 800000 in
theorem add_no {x y : Nat} {r : Bool} {a b : Nat} (h : Win x y r a b) (n : Int) (hn : r = false ∨ n < 0 ∨ (4294967295 : Int) - (a : Int) < n) (w : World) :
    Calls Try.prog 69 #[.complex .f64 x y, .int .i64 n] w fun e w' => e = .returned (.tuple #[.complex .f64 0 0, .bool false]) ∧ w' = w := by
  have HF := hidden (right_w h w)
  have HL := hidden (left_w h w)
  have hb : r = true → a ≤ 4294967295 := fun e => (h.right e).2.2.1
  clear h
  cases r
  · clear hn hb
    go_enter Try.func69, Try.ntmps69
    go_wp2_with (refine HF.out.mono ?_; rintro e w' ⟨rfl, rfl⟩)
    go_ret2
    exact ⟨rfl, rfl⟩
  · have ha : a ≤ 4294967295 := hb rfl
    by_cases h0 : n < 0
    · clear hn hb
      go_enter Try.func69, Try.ntmps69
      go_wp2_with (refine HF.out.mono ?_; rintro e w' ⟨rfl, rfl⟩)
      go_ret2
      exact ⟨rfl, rfl⟩
    · have h2 : (4294967295 : Int) - (a : Int) < n := by
        rcases hn with h | h | h
        · cases h
        · exact absurd h h0
        · exact h
      clear hn hb
      go_enter Try.func69, Try.ntmps69
      go_wp2_with (first | (refine HF.out.mono ?_; rintro e w' ⟨rfl, rfl⟩) | (refine HL.out.mono ?_; rintro e w' ⟨rfl, rfl⟩))
      go_ret2
      exact ⟨rfl, rfl⟩

set_option maxHeartbeats 800000 in
theorem add_yes {x y a b : Nat} (h : Win x y true a b) (k : Nat) (hk : a + k ≤ 4294967295) (w : World) :
    Calls Try.prog 69 #[.complex .f64 x y, .int .i64 (k : Int)] w fun e w' => e = .returned (.tuple #[.complex .f64 (nb (a + k)) (nb b), .bool true]) ∧ w' = w := by
  have HF := hidden (right_w h w)
  have HL := hidden (left_w h w)
  have HB := hidden (bytesLeft_c k w)
  obtain ⟨rfl, rfl, ha, h1, h2⟩ := h.right rfl
  have hs := add_run a b k (by omega) (by omega) w
  have hk1 : ¬ (k : Int) < 0 := by omega
  have hk2 : ¬ (4294967295 : Int) - (a : Int) < (k : Int) := by omega
  clear h h1 h2
  generalize nb a = x at *
  generalize nb b = y at *
  generalize nb (a + k) = z at *
  generalize nb k = u at *
  go_enter Try.func69, Try.ntmps69
  go_wp2_with (first | (refine HF.out.mono ?_; rintro e w' ⟨rfl, rfl⟩) | (refine HL.out.mono ?_; rintro e w' ⟨rfl, rfl⟩) | (refine HB.out.mono ?_; rintro e w' ⟨rfl, rfl⟩))
  go_ret2
  exact ⟨rfl, rfl⟩









end Go.Proofs.Ytnimdbjbkoggdaa
