/- float64 of whole numbers below 2^53: what their words stand for; sums, differences, order, and what is made whole. Plain facts, over no program. -/
import Derived.WalkLawsBesides
namespace Go.Proofs.Ytnimdbjbkoggdaa
open Go

/-- The word of a whole number. -/
def nb (n : Nat) : Nat := Ieee.double.nearest false n 0

theorem log2_mul_two_pow (n k : Nat) (h : n ≠ 0) : (n * 2 ^ k).log2 = n.log2 + k := by
  have hp : 0 < 2 ^ k := Nat.two_pow_pos k
  have h1 : 2 ^ n.log2 ≤ n := Nat.log2_self_le h
  have h2 : n < 2 ^ (n.log2 + 1) := Nat.lt_log2_self
  refine (Nat.log2_eq_iff (by intro e; rcases Nat.mul_eq_zero.1 e with e | e <;> omega)).2 ⟨?_, ?_⟩
  · rw [Nat.pow_add]; exact Nat.mul_le_mul_right _ h1
  · rw [show n.log2 + k + 1 = n.log2 + 1 + k by omega, Nat.pow_add]; exact Nat.mul_lt_mul_of_pos_right h2 hp

theorem even_cut_exact (m d : Nat) (hm : m ≠ 0) (way : Ieee.Toward) : way.cut false (m * 2 ^ d) d = m := by
  have h1 : min d ((m * 2 ^ d).log2 + 2) = d := by rw [log2_mul_two_pow m d hm]; omega
  have h2 : 0 < 2 ^ d := Nat.two_pow_pos d
  simp only [Ieee.Toward.cut, h1, Nat.one_shiftLeft, Nat.mul_div_cancel _ h2, Nat.mul_mod_left]
  cases way <;> simp

theorem cut_zero (d : Nat) (way : Ieee.Toward) : way.cut false 0 d = 0 := by
  simp only [Ieee.Toward.cut, Nat.one_shiftLeft, Nat.zero_div, Nat.zero_mod]
  cases way <;> simp

theorem cut_none (m : Nat) (way : Ieee.Toward) : way.cut false m 0 = m := by
  unfold Ieee.Toward.cut
  cases way <;> simp [Nat.mod_one]

theorem log2_le_52 {n : Nat} (h : n < 9007199254740992) (h0 : n ≠ 0) : n.log2 ≤ 52 := by
  have := (Nat.log2_lt h0 (k := 53)).2 (by simpa using h)
  omega

/-- A whole number that lies 'k' places up is the same word. -/
theorem nearest_up (n k : Nat) (h : n < 9007199254740992) (h0 : n ≠ 0) :
    Ieee.double.nearest false (n * 2 ^ k) (-(k : Int)) = (n.log2 + 1022) * 4503599627370496 + n * 2 ^ (52 - n.log2) := by
  have hL := log2_le_52 h h0
  have h1 : ¬ n * 2 ^ k = 0 := by
    have := Nat.two_pow_pos k
    intro e
    rcases Nat.mul_eq_zero.1 e with e | e <;> omega
  have e1 : n * 2 ^ (52 - n.log2) < 9007199254740992 := by
    have h2 : n < 2 ^ (n.log2 + 1) := Nat.lt_log2_self
    have h3 : n * 2 ^ (52 - n.log2) < 2 ^ (n.log2 + 1) * 2 ^ (52 - n.log2) := Nat.mul_lt_mul_of_pos_right h2 (Nat.two_pow_pos _)
    rw [← Nat.pow_add, show n.log2 + 1 + (52 - n.log2) = 53 by omega] at h3
    simpa using h3
  have hb : Ieee.double.binade = 4503599627370496 := by decide
  have hi : Ieee.double.infRung = 2047 * 4503599627370496 := by decide
  have hl : Ieee.double.leastPlace = -1074 := by decide
  have hf : (Ieee.double.fractionBits : Int) = 52 := rfl
  unfold Ieee.Format.nearest
  rw [if_neg h1, log2_mul_two_pow n k h0, hb, hi, hl, hf]
  have hlast : max (-(k : Int) + ((n.log2 + k : Nat) : Int) - 52) (-1074) = (n.log2 : Int) - 52 := by omega
  have hkept : Ieee.Toward.even.cut false ((n * 2 ^ k) <<< (-(k : Int) - ((n.log2 : Int) - 52)).toNat) ((n.log2 : Int) - 52 - -(k : Int)).toNat = n * 2 ^ (52 - n.log2) := by
    by_cases hk : k ≤ 52 - n.log2
    · rw [show (-(k : Int) - ((n.log2 : Int) - 52)).toNat = 52 - n.log2 - k by omega, show ((n.log2 : Int) - 52 - -(k : Int)).toNat = 0 by omega, cut_none, Nat.shiftLeft_eq, Nat.mul_assoc, ← Nat.pow_add, show k + (52 - n.log2 - k) = 52 - n.log2 by omega]
    · rw [show (-(k : Int) - ((n.log2 : Int) - 52)).toNat = 0 by omega, show ((n.log2 : Int) - 52 - -(k : Int)).toNat = k - (52 - n.log2) by omega, Nat.shiftLeft_zero]
      have e2 : n * 2 ^ k = (n * 2 ^ (52 - n.log2)) * 2 ^ (k - (52 - n.log2)) := by
        rw [Nat.mul_assoc, ← Nat.pow_add, show 52 - n.log2 + (k - (52 - n.log2)) = k by omega]
      rw [e2, even_cut_exact _ _ (by have := Nat.two_pow_pos (52 - n.log2); intro e; rcases Nat.mul_eq_zero.1 e with e | e <;> omega)]
  simp only [hlast, hkept]
  have h3 : ((n.log2 : Int) - 52 - -1074).toNat = n.log2 + 1022 := by omega
  rw [h3]
  simp only [Ieee.Format.word]
  rw [Nat.min_eq_left (by omega)]
  simp

theorem nb_pos (n : Nat) (h : n < 9007199254740992) (h0 : n ≠ 0) : nb n = (n.log2 + 1022) * 4503599627370496 + n * 2 ^ (52 - n.log2) := by
  have := nearest_up n 0 h h0
  simpa [nb] using this

theorem nearest_nb (n k : Nat) (h : n < 9007199254740992) : Ieee.double.nearest false (n * 2 ^ k) (-(k : Int)) = nb n := by
  by_cases h0 : n = 0
  · subst h0; simp [nb, Ieee.Format.nearest]
  · rw [nearest_up n k h h0, nb_pos n h h0]

/-- What the word stands for. -/
theorem read_nb (n : Nat) (h : n < 9007199254740992) : ∃ k : Nat, Ieee.double.read (nb n) = .number false (n * 2 ^ k) (-(k : Int)) := by
  by_cases h0 : n = 0
  · subst h0
    have : ∀ K : Nat, K = 1074 → Ieee.double.read (nb 0) = .number false (0 * 2 ^ K) (-(K : Int)) := by
      intro K hK
      rw [Nat.zero_mul, show (-(K : Int)) = -1074 by omega]
      decide
    exact ⟨_, this _ rfl⟩
  · have hL := log2_le_52 h h0
    refine ⟨52 - n.log2, ?_⟩
    have e1 : n * 2 ^ (52 - n.log2) < 9007199254740992 := by
      have h2 : n < 2 ^ (n.log2 + 1) := Nat.lt_log2_self
      have h3 : n * 2 ^ (52 - n.log2) < 2 ^ (n.log2 + 1) * 2 ^ (52 - n.log2) := Nat.mul_lt_mul_of_pos_right h2 (Nat.two_pow_pos _)
      rw [← Nat.pow_add, show n.log2 + 1 + (52 - n.log2) = 53 by omega] at h3
      simpa using h3
    have e2 : 4503599627370496 ≤ n * 2 ^ (52 - n.log2) := by
      have h2 : 2 ^ n.log2 ≤ n := Nat.log2_self_le h0
      have h3 : 2 ^ n.log2 * 2 ^ (52 - n.log2) ≤ n * 2 ^ (52 - n.log2) := Nat.mul_le_mul_right _ h2
      rw [← Nat.pow_add, show n.log2 + (52 - n.log2) = 52 by omega] at h3
      simpa using h3
    have hb : Ieee.double.binade = 4503599627370496 := by decide
    have hi : Ieee.double.infRung = 2047 * 4503599627370496 := by decide
    have hl : Ieee.double.leastPlace = -1074 := by decide
    have hs : Ieee.double.signWeight = 2048 * 4503599627370496 := by decide
    rw [nb_pos n h h0]
    generalize n * 2 ^ (52 - n.log2) = M at e1 e2 ⊢
    generalize n.log2 = L at hL ⊢
    unfold Ieee.Format.read
    rw [hb, hi, hl, hs]
    have a1 : ((L + 1022) * 4503599627370496 + M) / (2048 * 4503599627370496) = 0 := Nat.div_eq_of_lt (by omega)
    have a2 : ((L + 1022) * 4503599627370496 + M) % (2048 * 4503599627370496) = (L + 1022) * 4503599627370496 + M := Nat.mod_eq_of_lt (by omega)
    have a3 : ((L + 1022) * 4503599627370496 + M) % 4503599627370496 = M - 4503599627370496 := by omega
    have a4 : ((L + 1022) * 4503599627370496 + M) / 4503599627370496 = L + 1023 := by omega
    simp only [a1, a2, a3, a4]
    rw [if_neg (by omega), if_pos (by omega)]
    simp only [Ieee.Datum.number.injEq]
    refine ⟨by decide, by omega, by omega⟩

theorem signed_up (n k j : Nat) : Ieee.signed false (n * 2 ^ k) j = ((n * 2 ^ (k + j) : Nat) : Int) := by
  simp [Ieee.signed, Nat.shiftLeft_eq, Nat.mul_assoc, Nat.pow_add]

theorem order_nb (a b : Nat) (ha : a < 9007199254740992) (hb : b < 9007199254740992) : Ieee.double.order (nb a) (nb b) = some (compare a b) := by
  obtain ⟨i, hi⟩ := read_nb a ha
  obtain ⟨j, hj⟩ := read_nb b hb
  unfold Ieee.Format.order
  rw [hi, hj]
  simp only [Ieee.Datum.order]
  rw [signed_up, signed_up]
  have e1 : i + (-(i : Int) - min (-(i : Int)) (-(j : Int))).toNat = max i j := by omega
  have e2 : j + (-(j : Int) - min (-(i : Int)) (-(j : Int))).toNat = max i j := by omega
  rw [e1, e2]
  have hp : 0 < 2 ^ max i j := Nat.two_pow_pos _
  generalize 2 ^ max i j = p at hp
  congr 1
  rcases Nat.lt_trichotomy a b with h | h | h
  · rw [Nat.compare_eq_lt.2 h, Int.compare_eq_lt.2 (by exact_mod_cast Nat.mul_lt_mul_of_pos_right h hp)]
  · subst h; rw [Nat.compare_eq_eq.2 rfl, Int.compare_eq_eq.2 rfl]
  · rw [Nat.compare_eq_gt.2 h, Int.compare_eq_gt.2 (by exact_mod_cast Nat.mul_lt_mul_of_pos_right h hp)]

theorem sign_none (m : Nat) : (if (m : Int) = 0 then false else decide ((m : Int) < 0)) = false := by
  split
  · rfl
  · exact decide_eq_false (by omega)

theorem add_nb (a b : Nat) (ha : a < 9007199254740992) (hb : b < 9007199254740992) (hs : a + b < 9007199254740992) : Ieee.double.add (nb a) (nb b) = some (nb (a + b)) := by
  obtain ⟨i, hi⟩ := read_nb a ha
  obtain ⟨j, hj⟩ := read_nb b hb
  unfold Ieee.Format.add
  rw [hi, hj]
  simp only [Ieee.Datum.sum]
  rw [signed_up, signed_up]
  have e1 : i + (-(i : Int) - min (-(i : Int)) (-(j : Int))).toNat = max i j := by omega
  have e2 : j + (-(j : Int) - min (-(i : Int)) (-(j : Int))).toNat = max i j := by omega
  rw [e1, e2, show ((a * 2 ^ max i j : Nat) : Int) + ((b * 2 ^ max i j : Nat) : Int) = (((a + b) * 2 ^ max i j : Nat) : Int) by rw [Nat.add_mul]; simp]
  rw [show min (-(i : Int)) (-(j : Int)) = -((max i j : Nat) : Int) by omega]
  simp only [Option.map_some, Int.natAbs_natCast, Bool.and_self, Ieee.Format.write]
  rw [sign_none]
  rw [nearest_nb _ _ hs]

theorem sub_nb (a b : Nat) (ha : a < 9007199254740992) (hb : b ≤ a) : Ieee.double.sub (nb a) (nb b) = some (nb (a - b)) := by
  obtain ⟨i, hi⟩ := read_nb a ha
  obtain ⟨j, hj⟩ := read_nb b (by omega)
  unfold Ieee.Format.sub
  rw [hi, hj]
  simp only [Ieee.Datum.sum, Ieee.Datum.opposite]
  have hsg : Ieee.signed (!false) (b * 2 ^ j) (-(j : Int) - min (-(i : Int)) (-(j : Int))).toNat = -Ieee.signed false (b * 2 ^ j) (-(j : Int) - min (-(i : Int)) (-(j : Int))).toNat := by simp [Ieee.signed]
  rw [hsg, signed_up, signed_up]
  have e1 : i + (-(i : Int) - min (-(i : Int)) (-(j : Int))).toNat = max i j := by omega
  have e2 : j + (-(j : Int) - min (-(i : Int)) (-(j : Int))).toNat = max i j := by omega
  rw [e1, e2]
  have e3 : ((a * 2 ^ max i j : Nat) : Int) + -((b * 2 ^ max i j : Nat) : Int) = (((a - b) * 2 ^ max i j : Nat) : Int) := by
    have h1 : b * 2 ^ max i j ≤ a * 2 ^ max i j := Nat.mul_le_mul_right _ hb
    rw [Nat.sub_mul]
    omega
  rw [e3, show min (-(i : Int)) (-(j : Int)) = -((max i j : Nat) : Int) by omega]
  simp only [Option.map_some, Int.natAbs_natCast, Ieee.Format.write]
  rw [show (false && !false) = false from rfl, sign_none]
  rw [nearest_nb _ _ (by omega)]

theorem integral_nb (n : Nat) (h : n < 9007199254740992) (way : Ieee.Toward) : (Ieee.double.read (nb n)).integral way = .number false n 0 := by
  obtain ⟨k, hk⟩ := read_nb n h
  rw [hk]
  simp only [Ieee.Datum.integral]
  rw [show (-(k : Int)).toNat = 0 by omega, show (- -(k : Int)).toNat = k by omega, Nat.shiftLeft_zero]
  by_cases h0 : n = 0
  · subst h0; rw [Nat.zero_mul, cut_zero]
  · rw [even_cut_exact _ _ h0]

theorem toInt_nb (n : Nat) (h : n < 9007199254740992) : floatToIntVal .f64 (nb n) .i64 = some (n : Int) := by
  unfold floatToIntVal
  have : (FloatKind.f64.decode (nb n)).toInt .zero = some (n : Int) := by
    show Ieee.Datum.toInt .zero (Ieee.double.read (nb n)) = _
    unfold Ieee.Datum.toInt
    rw [integral_nb n h]
    simp [Ieee.signed]
  rw [this]
  simp only
  have h1 : IntKind.i64.min ≤ (n : Int) ∧ (n : Int) ≤ IntKind.i64.max := by
    have a : IntKind.i64.min = -9223372036854775808 := by decide
    have b : IntKind.i64.max = 9223372036854775807 := by decide
    omega
  rw [if_pos h1]

theorem of_nat (n : Nat) : floatOfInt .f64 (n : Int) = nb n := by
  simp only [floatOfInt, FloatKind.nearest, FloatKind.encode, Ieee.Format.write, nb, Int.natAbs_natCast]
  rw [show decide ((n : Int) < 0) = false by simp]
  rfl

end Go.Proofs.Ytnimdbjbkoggdaa
