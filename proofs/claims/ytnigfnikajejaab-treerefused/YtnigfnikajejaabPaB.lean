/- Right, the program's. -/
import Derived.Test.YtnigfnikajejaabPaP
namespace Go.Proofs.Ytnigfnikajejaab
open Go Go.RowKit


theorem all_take_succ (s : ByteArray) (k : Nat) (h : k < s.size) : (s.data.toList.take (k + 1)).all fineB = ((s.data.toList.take k).all fineB && fineB s[k]) := by
  have hk : k < s.data.toList.length := by rw [Array.length_toList]; exact h
  rw [List.take_succ_eq_append_getElem hk, List.all_append]
  simp only [List.all_cons, List.all_nil, Bool.and_true, Array.getElem_toList]
  rfl
theorem all_bad (s : ByteArray) (k : Nat) (h : k < s.size) (hg : fineB s[k] = false) : s.data.toList.all fineB = false := by
  rw [List.all_eq_false]
  exact ⟨s[k], by show s.data[k] ∈ _; exact Array.getElem_mem_toList h, by simp [hg]⟩
theorem fineB_iff (b : UInt8) : fineB b = true ↔ ¬ ((b.toNat : Int) = 0) ∧ ¬ ((b.toNat : Int) = 47) := by
  simp only [fineB, Bool.and_eq_true, bne_iff_ne, ne_eq]
  constructor
  · rintro ⟨h1, h2⟩
    refine ⟨fun h => h1 (UInt8.toNat_inj.1 (by simp; omega)), fun h => h2 (UInt8.toNat_inj.1 (by simp; omega))⟩
  · rintro ⟨h1, h2⟩
    refine ⟨fun h => h1 (by subst h; rfl), fun h => h2 (by subst h; rfl)⟩
theorem str_lit (s : ByteArray) (l : List UInt8) : (s.toList == l) = (s.data.toList == l) := by rw [ByteArray.toList_eq]
set_option maxHeartbeats 1600000 in
set_option maxRecDepth 100000 in
theorem pright_c (s : ByteArray) (w : World) :
    Calls Try.prog 47 #[.string s] w fun e w' => e = .returned (.bool (rightP s.data.toList)) ∧ w' = w := by
  have HD : Hid (rightP s.data.toList = (decide (1 ≤ s.data.toList.length) && decide (s.data.toList.length ≤ 30) && s.data.toList.all fineB && !(s.data.toList == [46]) && !(s.data.toList == [46, 46]))) := rfl
  rw [← size_len] at HD
  generalize rightP s.data.toList = R at HD ⊢
  by_cases h0 : s.size = 0
  · obtain rfl : R = false := by rw [HD.out, h0]; simp
    have hi : ((s.size : Int) == 0) = true := by rw [h0]; rfl
    clear HD h0
    go_enter Try.func47, Try.ntmps47
    go_wp2
    go_ret
    exact ⟨rfl, rfl⟩
  have hi : ((s.size : Int) == 0) = false := by rw [beq_eq_false_iff_ne]; omega
  by_cases h30 : s.size ≤ 30
  · have hi2 : ¬ (30 : Int) < (s.size : Int) := by omega
    cases hd : s.data.toList == [46] with
    | true =>
      obtain rfl : R = false := by rw [HD.out, hd]; simp
      have hd2 : (s.toList == [46]) = true := by rw [← hd]; exact str_lit s [46]
      clear HD h0 hd
      go_enter Try.func47, Try.ntmps47
      go_wp2
      go_ret
      exact ⟨rfl, rfl⟩
    | false =>
    have hd2 : (s.toList == [46]) = false := by rw [← hd]; exact str_lit s [46]
    cases hu : s.data.toList == [46, 46] with
    | true =>
      obtain rfl : R = false := by rw [HD.out, hu]; simp
      have hu2 : (s.toList == [46, 46]) = true := by rw [← hu]; exact str_lit s [46, 46]
      clear HD h0 hd hu
      go_enter Try.func47, Try.ntmps47
      go_wp2
      go_ret
      exact ⟨rfl, rfl⟩
    | false =>
    have hu2 : (s.toList == [46, 46]) = false := by rw [← hu]; exact str_lit s [46, 46]
    have HE : Hid (R = s.data.toList.all fineB) := by
      show R = _
      have h1 : decide (1 ≤ s.size) = true := by simp; omega
      have h2 : decide (s.size ≤ 30) = true := by simpa using h30
      rw [HD.out, hd, hu, h1, h2]; simp
    clear HD h0 hd hu
    go_enter Try.func47, Try.ntmps47
    go_wp2
    go_loop [22] (fun i => ∃ k : Nat, k ≤ s.size ∧ i = .int .i64 k ∧ (s.data.toList.take k).all fineB = true) (fun i => s.size - (intOf i).toNat)
    case atStart => exact ⟨0, Nat.zero_le _, rfl, rfl⟩
    case round =>
      obtain ⟨k, hk, rfl, hall⟩ := hrel
      have HA : Hid ((s.data.toList.take k).all fineB = true) := hall
      clear hall
      by_cases hlt : k < s.size
      · cases hgd : fineB (s[k]'hlt) with
        | true =>
          have hg := (fineB_iff _).1 hgd
          have hd1 : (((s[k]'hlt).toNat : Int) == 0) = false := by rw [beq_eq_false_iff_ne]; exact hg.1
          have hd3 : (((s[k]'hlt).toNat : Int) == 47) = false := by rw [beq_eq_false_iff_ne]; exact hg.2
          have HN : Hid ((s.data.toList.take (k + 1)).all fineB = true) := by show _ = _; rw [all_take_succ s k hlt, HA.out, hgd]; rfl
          clear hg hgd
          go_wp2
          go_round
          case rel => exact ⟨k + 1, by omega, by go_num, HN.out⟩
          case measure => simp [intOf]; omega
        | false =>
          have HN : Hid (s.data.toList.all fineB = false) := all_bad s k hlt hgd
          obtain rfl : R = false := by rw [HE.out, HN.out]
          have hor : ((s[k]'hlt).toNat : Int) = 0 ∨ (¬ ((s[k]'hlt).toNat : Int) = 0 ∧ ((s[k]'hlt).toNat : Int) = 47) := by
            have := mt (fineB_iff _).2 (by rw [hgd]; simp)
            omega
          clear hgd HN HE
          rcases hor with hlo | ⟨hlo, hhi⟩
          · have hd1 : (((s[k]'hlt).toNat : Int) == 0) = true := by rw [hlo]; rfl
            clear hlo
            go_wp2
            go_ret
            exact ⟨rfl, rfl⟩
          · have hd1 : (((s[k]'hlt).toNat : Int) == 0) = false := by rw [beq_eq_false_iff_ne]; exact hlo
            have hd3 : (((s[k]'hlt).toNat : Int) == 47) = true := by rw [hhi]; rfl
            clear hlo hhi
            go_wp2
            go_ret
            exact ⟨rfl, rfl⟩
      · have hke : k = s.size := by omega
        have hall2 : s.data.toList.all fineB = true := by
          have := HA.out
          rwa [List.take_of_length_le (by rw [Array.length_toList, hke]; exact Nat.le_refl _)] at this
        obtain rfl : R = true := by rw [HE.out, hall2]
        clear hall2 HE HA
        go_wp2
        go_ret
        exact ⟨rfl, rfl⟩
  · obtain rfl : R = false := by
      have h2 : decide (s.size ≤ 30) = false := by simpa using h30
      rw [HD.out, h2]; simp
    have hi2 : (30 : Int) < (s.size : Int) := by omega
    clear HD h0
    go_enter Try.func47, Try.ntmps47
    go_wp2
    go_ret
    exact ⟨rfl, rfl⟩

end Go.Proofs.Ytnigfnikajejaab
