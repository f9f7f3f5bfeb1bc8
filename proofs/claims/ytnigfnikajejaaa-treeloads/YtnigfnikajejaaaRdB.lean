/- What take and number answer, whatever the Reader's state. -/
import Derived.Test.YtnigfnikajejaaaRdA
namespace Go.Proofs.Ytnigfnikajejaaa
open Go Go.RowKit

theorem take_c (n : Int) (hn0 : 0 ≤ n) (hn1 : n < 18446744073709551616) (w : World) {a : Nat} {g : Option Nat} {bs : List UInt8} {p : Nat} {why : Int} (h : WR w a g bs p why) :
    Calls Try.prog 82 #[.pointer (some ⟨a, 0, none⟩), .int .u64 n] w fun e w' => TakePost a g bs (tk bs p why n.toNat) w e w' := by
  by_cases hw : why = 0
  · subst hw
    by_cases hl : ((bs.length - p : Nat) : Int) < n
    · have e : tk bs p 0 n.toNat = ([], bs.length, 10) := by unfold tk; rw [if_pos rfl, if_pos (by omega)]
      rw [e]
      exact take_end n hn0 hn1 w h hl
    · have e : tk bs p 0 n.toNat = ((bs.drop p).take n.toNat, p + n.toNat, 0) := by unfold tk; rw [if_pos rfl, if_neg (by omega)]
      rw [e]
      obtain ⟨m, rfl⟩ := Int.eq_ofNat_of_zero_le hn0
      rw [Int.toNat_natCast]
      exact take_yes m w h (by omega)
  · have e : tk bs p why n.toNat = ([], p, why) := by unfold tk; rw [if_neg hw]
    rw [e]
    exact take_no n w h hw

/-- The number whose bytes, the highest first, are xs, behind m. -/
def valFrom (m : Nat) : List UInt8 → Nat
  | [] => m
  | x :: xs => valFrom (m * 256 + x.toNat) xs
def val (xs : List UInt8) : Nat := valFrom 0 xs

theorem or_byte (m : Nat) (x : UInt8) (h : m * 256 < 18446744073709551616) : bits BinOp.or IntKind.u64 ((m : Int) * 256) (IntKind.u64.wrap (x.toNat : Int)) = ((m * 256 + x.toNat : Nat) : Int) := by
  have hx := x.toNat_lt
  have e1 : IntKind.u64.wrap (x.toNat : Int) = (x.toNat : Int) := by simp [IntKind.wrap, IntKind.bits, IntKind.signed]; omega
  rw [e1, show ((m : Int) * 256) = ((m * 256 : Nat) : Int) from by omega, u64_or_nat _ _ h (by omega)]
  congr 1
  have := Nat.shiftLeft_add_eq_or_of_lt (i := 8) (b := x.toNat) (by omega) m
  rw [Nat.shiftLeft_eq] at this
  exact this.symm

theorem or_byte0 (x : UInt8) : bits BinOp.or IntKind.u64 0 (IntKind.u64.wrap (x.toNat : Int)) = ((x.toNat : Nat) : Int) := by simpa using or_byte 0 x (by omega)
theorem pow_first (x : UInt8) (xs : List UInt8) (h : xs.length + 1 ≤ 8) : x.toNat < 256 ^ (8 - xs.length) := by
  have hx := x.toNat_lt
  calc x.toNat < 256 ^ 1 := by omega
    _ ≤ 256 ^ (8 - xs.length) := Nat.pow_le_pow_right (by omega) (by omega)
theorem pow_next (m : Nat) (xs : List UInt8) (h : xs.length + 1 ≤ 8) (hm : m < 256 ^ (8 - (xs.length + 1))) : m * 256 + 255 < 18446744073709551616 := by
  have h1 : 256 ^ (8 - (xs.length + 1)) ≤ 256 ^ 7 := Nat.pow_le_pow_right (by omega) (by omega)
  have : m < 256 ^ 7 := Nat.lt_of_lt_of_le hm h1
  omega
theorem pow_step (m : Nat) (x : UInt8) (xs : List UInt8) (h : xs.length + 1 ≤ 8) (hm : m < 256 ^ (8 - (xs.length + 1))) : m * 256 + x.toNat < 256 ^ (8 - xs.length) := by
  have hx := x.toNat_lt
  have e : 8 - xs.length = (8 - (xs.length + 1)) + 1 := by omega
  rw [e, Nat.pow_succ]
  omega

theorem BSl.tailA {w : World} {b off cap : Nat} {x : UInt8} {xs : List UInt8} (h : BSl w (.slice (some ⟨b, off, none⟩) (x :: xs).length cap) (x :: xs)) (hc : cap = 1) : BSl w (.slice (some ⟨b, off, none⟩) xs.length 0) xs := by
  have := h.tail.1
  simpa [hc] using this
theorem BSl.tailB {w : World} {b off cap : Nat} {x : UInt8} {xs : List UInt8} (h : BSl w (.slice (some ⟨b, off, none⟩) (x :: xs).length cap) (x :: xs)) (hc : ¬ cap = 1) : BSl w (.slice (some ⟨b, off + 1, none⟩) xs.length (cap - 1)) xs := by
  have := h.tail.1
  simpa [hc] using this

set_option maxHeartbeats 1600000 in
set_option maxRecDepth 100000 in
theorem number_r (k : Nat) (hk : k ≤ 8) (w : World) {a : Nat} {g : Option Nat} {bs : List UInt8} {p : Nat} {why : Int} (h : WR w a g bs p why) :
    Calls Try.prog 65 #[.pointer (some ⟨a, 0, none⟩), .int .u64 k] w fun e w' => e = .returned (.int .u64 (val (tk bs p why k).1)) ∧ Took a g bs (tk bs p why k).2.1 (tk bs p why k).2.2 w w' := by
  have HT := take_c (k : Int) (by omega) (by omega) w h
  rw [Int.toNat_natCast] at HT
  have hlen : (tk bs p why k).1.length ≤ 8 := by unfold tk; split <;> (try split) <;> simp <;> omega
  generalize tk bs p why k = r at *
  clear h
  go_enter Try.func65, Try.ntmps65
  go_wp2
  refine scope_ways 0 (fun l a' w' => l = 0 ∧ Took a g bs r.2.1 r.2.2 w w' ∧ ∃ (m : Nat) (sv : Value) (ys : List UInt8) (u9 u10 u11 u12 u13 u14 u15 u16 u17 u18 u19 u20 u21 u22 : Value), a' = { tmps := #[.pointer (some ⟨a, 0, none⟩), .int .u64 k, undef, undef, .int .u64 0, .int .u64 m, sv, .pointer (some ⟨a, 0, none⟩), .int .u64 k, u9, u10, u11, u12, u13, u14, u15, u16, u17, u18, u19, u20, u21, u22], defers := [] } ∧ BSl w' sv ys ∧ ys.length ≤ 8 ∧ m < 256 ^ (8 - ys.length) ∧ valFrom m ys = val r.1) (fun _ a' _ => sliceLen (a'.tmps.getD 6 undef)) ?_ ?_
  · go_wp2_with fail
    refine HT.mono ?_
    rintro e w1 ⟨v1, rfl, hb1, hob, ht⟩
    have HR : Hid (Took a g bs r.2.1 r.2.2 w w1) := ht
    obtain ⟨xs, hxs⟩ : ∃ xs, r.1 = xs := ⟨_, rfl⟩
    have HV : Hid (valFrom 0 xs = val r.1) := by rw [← hxs]; rfl
    rw [hxs] at hb1 hlen
    clear hxs
    have HBS : Hid (BSl w1 v1 xs) := hb1
    clear ht hob HT
    cases xs with
    | nil =>
      obtain ⟨ao, cap, rfl⟩ := hb1.nil
      clear hb1
      go_wp2
      go_step3
      go_wp2
      simp only [hops]
      go_ret
      exact ⟨by rw [← HV.out]; rfl, HR.out⟩
    | cons x xs =>
      obtain ⟨b, off, cap, rfl, hc1, hc2, _⟩ := hb1.cons
      have h0 := hb1.head
      unfold maxLen at hc2
      clear hb1
      simp only [List.length_cons] at hlen
      go_wp2
      go_step3
      go_wp2
      all_goals go_step3
      all_goals rw [or_byte0]
      · exact ⟨rfl, HR.out, x.toNat, _, xs, _, _, _, _, _, _, _, _, _, _, _, _, _, _, rfl, HBS.out.tailA ‹_›, by omega, pow_first x xs (by omega), by rw [← HV.out]; simp [valFrom]⟩
      · exact ⟨rfl, HR.out, x.toNat, _, xs, _, _, _, _, _, _, _, _, _, _, _, _, _, _, rfl, HBS.out.tailB ‹_›, by omega, pow_first x xs (by omega), by rw [← HV.out]; simp [valFrom]⟩
  · rintro l a' w' ⟨rfl, ht, m, sv, ys, u9, u10, u11, u12, u13, u14, u15, u16, u17, u18, u19, u20, u21, u22, rfl, hb1, hl8, hm, hv⟩
    refine ⟨_, rfl, ?_⟩
    have HR : Hid (Took a g bs r.2.1 r.2.2 w w') := ht
    have HV : Hid (valFrom m ys = val r.1) := hv
    have HBS : Hid (BSl w' sv ys) := hb1
    have HM : Hid (m < 256 ^ (8 - ys.length)) := hm
    clear ht hv hm HT hlen
    cases ys with
    | nil =>
      obtain ⟨ao, cap, rfl⟩ := hb1.nil
      clear hb1
      go_wp2
      simp only [hops]
      go_ret
      exact ⟨by rw [← HV.out]; rfl, HR.out⟩
    | cons x xs =>
      obtain ⟨b, off, cap, rfl, hc1, hc2, _⟩ := hb1.cons
      have h0 := hb1.head
      unfold maxLen at hc2
      clear hb1
      simp only [List.length_cons] at hl8
      have hm3 : (m : Int) ≤ 72057594037927935 := by have := pow_next m xs hl8 HM.out; omega
      go_wp2
      all_goals go_step3
      all_goals rw [or_byte m x (by have := pow_next m xs hl8 HM.out; omega)]
      · exact ⟨⟨rfl, HR.out, m * 256 + x.toNat, _, xs, _, _, _, _, _, _, _, _, _, _, _, _, _, _, rfl, HBS.out.tailA ‹_›, by omega, pow_step m x xs hl8 HM.out, HV.out⟩, Nat.lt_succ_self _⟩
      · exact ⟨⟨rfl, HR.out, m * 256 + x.toNat, _, xs, _, _, _, _, _, _, _, _, _, _, _, _, _, _, rfl, HBS.out.tailB ‹_›, by omega, pow_step m x xs hl8 HM.out, HV.out⟩, Nat.lt_succ_self _⟩

end Go.Proofs.Ytnigfnikajejaaa
