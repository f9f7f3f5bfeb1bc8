/- The number that a head tells, by goto; the length that it tells. -/
import Derived.Test.YthkaibkmpenclaaDoorPkJ
namespace Go.Proofs.YthkaibkmpenclaaDoor
open Go Go.RowKit

theorem BSl.tailA {w : World} {b off cap : Nat} {x : UInt8} {xs : List UInt8} (h : BSl w (.slice (some ⟨b, off, none⟩) (x :: xs).length cap) (x :: xs)) (hc : cap = 1) : BSl w (.slice (some ⟨b, off, none⟩) xs.length 0) xs := by
  obtain ⟨ao, cp, e, h1, _⟩ := h
  cases e
  simp at h1
  have : xs = [] := List.eq_nil_of_length_eq_zero (by omega)
  subst this
  exact bsl_empty w _ 0 (by simp [maxLen]) (fun e => by cases e)
theorem BSl.tailB {w : World} {b off cap : Nat} {x : UInt8} {xs : List UInt8} (h : BSl w (.slice (some ⟨b, off, none⟩) (x :: xs).length cap) (x :: xs)) (_hc : ¬ cap = 1) : BSl w (.slice (some ⟨b, off + 1, none⟩) xs.length (cap - 1)) xs := by
  have := h.dropS (k := 1) (by simp)
  simpa using this

theorem or_byte32 (m : Nat) (x : UInt8) (h : m * 256 < 4294967296) : bits BinOp.or IntKind.u32 ((m : Int) * 256) ((x.toNat : Int) % 4294967296) = ((m * 256 + x.toNat : Nat) : Int) := by
  have hx := x.toNat_lt
  rw [show (x.toNat : Int) % 4294967296 = (x.toNat : Int) by omega, show ((m : Int) * 256) = ((m * 256 : Nat) : Int) from by omega, u32_or_nat _ _ h (by omega)]
  congr 1
  have := Nat.shiftLeft_add_eq_or_of_lt (i := 8) (b := x.toNat) (by omega) m
  rw [Nat.shiftLeft_eq] at this
  exact this.symm
def vf (m : Nat) (ys : List UInt8) : Nat := ys.foldl (fun n b => n * 256 + b.toNat) m
theorem pow_next (m : Nat) (xs : List UInt8) (h : xs.length + 1 ≤ 4) (hm : m < 256 ^ (4 - (xs.length + 1))) : m * 256 + 255 < 4294967296 := by
  have h1 : 256 ^ (4 - (xs.length + 1)) ≤ 256 ^ 3 := Nat.pow_le_pow_right (by omega) (by omega)
  have : m < 256 ^ 3 := Nat.lt_of_lt_of_le hm h1
  omega
theorem pow_step (m : Nat) (x : UInt8) (xs : List UInt8) (h : xs.length + 1 ≤ 4) (hm : m < 256 ^ (4 - (xs.length + 1))) : m * 256 + x.toNat < 256 ^ (4 - xs.length) := by
  have hx := x.toNat_lt
  have e : 4 - xs.length = (4 - (xs.length + 1)) + 1 := by omega
  rw [e, Nat.pow_succ]
  omega
set_option maxHeartbeats 1600000 in
set_option maxRecDepth 100000 in
theorem pnumberOf_c (v : Value) (xs : List UInt8) (hl : xs.length ≤ 4) (w : World) (hv : BSl w v xs) :
    Calls Tryd.prog 57 #[v] w fun e w' => e = .returned (.int .u32 (val xs : Nat)) ∧ w' = w := by
  have HV := hidden hv
  have H0 : Hid (vf 0 xs = val xs) := rfl
  have HL := hidden hl
  clear hv hl
  go_enter Tryd.func57, Tryd.ntmps57
  go_wp2
  refine scope_ways 0 (fun l a' w' => l = 0 ∧ w' = w ∧ ∃ (m : Nat) (sv : Value) (ys : List UInt8) (u4 u5 u6 u7 u8 u9 u10 u11 u12 u13 u14 u15 u16 : Value), a' = { tmps := #[sv, undef, .int .u32 0, .int .u32 m, u4, u5, u6, u7, u8, u9, u10, u11, u12, u13, u14, u15, u16], defers := [] } ∧ BSl w sv ys ∧ ys.length ≤ 4 ∧ m < 256 ^ (4 - ys.length) ∧ vf m ys = val xs) (fun _ a' _ => sliceLen (a'.tmps.getD 0 undef)) ?_ ?_
  · cases hxs : xs with
    | nil =>
      have hb1 := HV.out
      rw [hxs] at hb1
      obtain ⟨ao, cap, rfl⟩ := hb1.nil
      clear hb1 HV
      go_wp2
      go_step3
      go_wp2
      simp only [hops]
      go_ret
      exact ⟨by rw [hxs]; rfl, rfl⟩
    | cons x ys =>
      have hb1 := HV.out
      have hl8 := HL.out
      have h00 := H0.out
      rw [hxs] at hb1 hl8 h00
      have HBS := hidden hb1
      have HV0 := hidden h00
      obtain ⟨b, off, cap, rfl, hc1, hc2, _⟩ := hb1.cons
      have h0 := hb1.head
      unfold maxLen at hc2
      clear hb1 HV H0 HL h00 hxs
      simp only [List.length_cons] at hl8
      go_wp2
      go_step3
      go_wp2
      all_goals go_step3
      all_goals rw [show bits BinOp.or IntKind.u32 0 ((x.toNat : Int) % 4294967296) = ((x.toNat : Nat) : Int) from by simpa using or_byte32 0 x (by omega)]
      · exact ⟨rfl, rfl, x.toNat, _, ys, _, _, _, _, _, _, _, _, _, _, _, _, _, rfl, HBS.out.tailA ‹_›, by omega, by have := pow_step 0 x ys hl8 (Nat.pow_pos (by omega)); simpa using this, by rw [← HV0.out]; simp [vf]⟩
      · exact ⟨rfl, rfl, x.toNat, _, ys, _, _, _, _, _, _, _, _, _, _, _, _, _, rfl, HBS.out.tailB ‹_›, by omega, by have := pow_step 0 x ys hl8 (Nat.pow_pos (by omega)); simpa using this, by rw [← HV0.out]; simp [vf]⟩
  · rintro l a' w' ⟨rfl, rfl, m, sv, ys, u4, u5, u6, u7, u8, u9, u10, u11, u12, u13, u14, u15, u16, rfl, hb1, hl8, hm, hvf⟩
    refine ⟨_, rfl, ?_⟩
    have HV9 := hidden hvf
    have HBS := hidden hb1
    have HM := hidden hm
    clear hvf hm HV H0 HL
    cases ys with
    | nil =>
      obtain ⟨ao, cap, rfl⟩ := hb1.nil
      clear hb1
      go_wp2
      simp only [hops]
      go_ret
      exact ⟨by rw [← HV9.out]; rfl, rfl⟩
    | cons x zs =>
      obtain ⟨b, off, cap, rfl, hc1, hc2, _⟩ := hb1.cons
      have h0 := hb1.head
      unfold maxLen at hc2
      clear hb1
      simp only [List.length_cons] at hl8
      have hm3 : (m : Int) ≤ 16777215 := by have := pow_next m zs hl8 HM.out; omega
      go_wp2
      all_goals go_step3
      all_goals rw [or_byte32 m x (by have := pow_next m zs hl8 HM.out; omega)]
      · exact ⟨⟨rfl, rfl, m * 256 + x.toNat, _, zs, _, _, _, _, _, _, _, _, _, _, _, _, _, rfl, HBS.out.tailA ‹_›, by omega, pow_step m x zs hl8 HM.out, by rw [← HV9.out]; simp [vf]⟩, Nat.lt_succ_self _⟩
      · exact ⟨⟨rfl, rfl, m * 256 + x.toNat, _, zs, _, _, _, _, _, _, _, _, _, _, _, _, _, rfl, HBS.out.tailB ‹_›, by omega, pow_step m x zs hl8 HM.out, by rw [← HV9.out]; simp [vf]⟩, Nat.lt_succ_self _⟩
end Go.Proofs.YthkaibkmpenclaaDoor
