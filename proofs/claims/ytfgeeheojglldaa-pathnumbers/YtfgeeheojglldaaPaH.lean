/- Texts; the law's helper known. -/
import Derived.Test.YtfgeeheojglldaaPaG
namespace Go.Proofs.Ytfgeeheojglldaa
open Go Go.RowKit

set_option maxHeartbeats 1600000 in
set_option maxRecDepth 100000 in
theorem texts_c (v1 v2 : Value) (a b : List ByteArray) (w : World) (h1 : SSl w v1 a) (h2 : SSl w v2 b) :
    Calls Try.prog 13 #[v1, v2] w fun e w' => e = .returned (.bool (decide (a = b))) ∧ ∃ q, w' = w.drewN q := by
  have H1 := hidden h1
  have H2 := hidden h2
  obtain ⟨a1, c1, rfl, k1, m1, _⟩ := h1
  obtain ⟨a2, c2, rfl, k2, m2, _⟩ := h2
  unfold maxLen at m1 m2
  by_cases hl : a.length = b.length
  · have hne : ((a.length : Int) != (b.length : Int)) = false := by simp [hl]
    have hi : (a.length : Int) = (b.length : Int) := by omega
    have HL := hidden hl
    obtain ⟨D, hD⟩ : ∃ D, D = decide (a = b) := ⟨_, rfl⟩
    rw [← hD]
    have HD := hidden hD
    clear hD hl
    go_enter Try.func13, Try.ntmps13
    go_wp2
    go_loopw [5] (fun c wr => ∃ k q : Nat, k ≤ a.length ∧ c = .int .i64 k ∧ a.take k = b.take k ∧ wr = w.drewN q) (fun c _ => a.length - (intOf c).toNat)
    case atStart => exact ⟨0, 0, Nat.zero_le _, rfl, by simp, rfl⟩
    case round =>
      obtain ⟨k, q, hk, rfl, ht, rfl⟩ := hrel
      have HT := hidden ht
      clear ht
      by_cases hlt : k < a.length
      · have hi1 : (k : Int) < (a.length : Int) := by omega
        have hlt2 : k < b.length := HL.out ▸ hlt
        have hi2 : (k : Int) < (b.length : Int) := by omega
        obtain ⟨b1, o1, rfl⟩ := H1.out.addr' (by rintro rfl; simp at hlt)
        obtain ⟨b2, o2, rfl⟩ := H2.out.addr' (by rintro rfl; simp at hlt2)
        have x1 := H1.out.cellAt k hlt
        have x2 := H2.out.cellAt k hlt2
        have HN : Hid (a[k] = b[k] → a.take (k + 1) = b.take (k + 1)) := fun e => by
          rw [List.take_succ_eq_append_getElem hlt, List.take_succ_eq_append_getElem hlt2, HT.out, e]
        have HF : Hid (a[k] ≠ b[k] → D = false) := fun e => by
          rw [HD.out]
          simp only [decide_eq_false_iff_not]
          rintro rfl
          exact e rfl
        generalize a[k] = s at x1 HN HF
        generalize b[k] = t at x2 HN HF
        cases hq : s.toList == t.toList with
        | false =>
          obtain rfl := HF.out (str_ne hq)
          go_wp2_with fail
          go_quiet (fail)
          go_wp2
          go_ret
          exact ⟨rfl, q + nq, by first | rfl | exact World.drewN_drewN w q nq⟩
        | true =>
          have HN2 := hidden (HN.out ((str_eq s t).1 hq))
          clear HN HF
          go_wp2_with fail
          go_quiet (fail)
          go_wp2
          go_roundw
          case rel => exact ⟨k + 1, q + nq, by omega, by go_num, HN2.out, by first | rfl | exact World.drewN_drewN w q nq⟩
          case measure => simp [intOf]; omega
      · have hi1 : ¬ (k : Int) < (a.length : Int) := by omega
        obtain rfl : D = true := by
          rw [HD.out]
          have := HT.out
          rw [List.take_of_length_le (by omega), List.take_of_length_le (by have := HL.out; omega)] at this
          simpa using this
        go_wp2
        go_ret
        exact ⟨rfl, q, rfl⟩
  · have hne : ((a.length : Int) != (b.length : Int)) = true := by simp; omega
    have hd : decide (a = b) = false := by
      simp only [decide_eq_false_iff_not]
      rintro rfl
      exact hl rfl
    rw [hd]
    clear hd hl
    go_enter Try.func13, Try.ntmps13
    go_wp2
    go_ret
    exact ⟨rfl, 0, rfl⟩

theorem known_one : cleanL [97, 47, 47, 98, 47, 46, 46, 47, 99] = [47, 97, 47, 99] ∧ splitE [97, 47, 47, 98, 47, 46, 46, 47, 99] = 0 := by decide +kernel
theorem known_two : cleanL [] = [47] ∧ splitE [] = 0 := by decide +kernel
theorem known_three : rightP [97] = true ∧ rightP [46, 46] = false := by decide +kernel

set_option maxHeartbeats 800000 in
set_option maxRecDepth 100000 in
theorem known_c (w : World) : Calls Try.prog 17 #[] w fun e w' => e = .returned (.bool true) ∧ Below w.heap.size w w' := by
  have H1 : ∀ W : World, Calls Try.prog 11 #[.string ⟨#[97, 47, 47, 98, 47, 46, 46, 47, 99]⟩] W fun e w' => e = .returned (.tuple #[.string ⟨#[47, 97, 47, 99]⟩, .int .i64 0]) ∧ Below W.heap.size W w' := fun W => by
    have := clean_c ⟨#[97, 47, 47, 98, 47, 46, 46, 47, 99]⟩ W (by decide)
    rw [known_one.1, known_one.2] at this
    exact this
  have H2 : ∀ W : World, Calls Try.prog 11 #[.string ⟨#[]⟩] W fun e w' => e = .returned (.tuple #[.string ⟨#[47]⟩, .int .i64 0]) ∧ Below W.heap.size W w' := fun W => by
    have := clean_c ⟨#[]⟩ W (by decide)
    rw [known_two.1, known_two.2] at this
    exact this
  have H3 : ∀ W : World, Calls Try.prog 14 #[.string ⟨#[97]⟩] W fun e w' => e = .returned (.bool true) ∧ w' = W := fun W => by
    have := right_c ⟨#[97]⟩ W
    rw [known_three.1] at this
    exact this
  have H4 : ∀ W : World, Calls Try.prog 14 #[.string ⟨#[46, 46]⟩] W fun e w' => e = .returned (.bool false) ∧ w' = W := fun W => by
    have := right_c ⟨#[46, 46]⟩ W
    rw [known_three.2] at this
    exact this
  have H1 := hidden H1
  have H2 := hidden H2
  have H3 := hidden H3
  have H4 := hidden H4
  go_enter Try.func17, Try.ntmps17
  go_wp2_with fail
  refine (H1.out _).mono ?_
  rintro e w1 ⟨rfl, hb1⟩
  go_wp2_with fail
  refine (H2.out _).mono ?_
  rintro e w2 ⟨rfl, hb2⟩
  go_wp2_with fail
  refine (H3.out _).mono ?_
  rintro e w3 ⟨rfl, rfl⟩
  go_wp2_with fail
  refine (H4.out _).mono ?_
  rintro e w4 ⟨rfl, rfl⟩
  go_wp2
  go_ret
  exact ⟨rfl, hb1.trans (hb2.mono hb1.size)⟩
end Go.Proofs.Ytfgeeheojglldaa
