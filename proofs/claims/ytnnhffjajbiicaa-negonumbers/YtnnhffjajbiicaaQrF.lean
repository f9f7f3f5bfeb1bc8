/- What the document's Right and Parts answer, and keep's Texts. -/
import Derived.Test.YtnnhffjajbiicaaRdN
namespace Go.Proofs.Ytnnhffjajbiicaa
open Go Go.RowKit

theorem all_take_succ (s : ByteArray) (k : Nat) (h : k < s.size) : (s.data.toList.take (k + 1)).all good = ((s.data.toList.take k).all good && good s[k]) := by
  have h2 : k < s.data.toList.length := by rw [Array.length_toList]; exact h
  rw [List.take_succ_eq_append_getElem h2, List.all_append]
  simp
  rfl
theorem ok_bad (s : ByteArray) (k : Nat) (h : k < s.size) (hg : good s[k] = false) : okName s.data.toList = false :=
  okName_bad (x := s[k]) (by
    have h2 : k < s.data.toList.length := by rw [Array.length_toList]; exact h
    exact List.getElem_mem (l := s.data.toList) h2) hg

set_option maxHeartbeats 1600000 in
set_option maxRecDepth 100000 in
theorem right_c (s : ByteArray) (hs : s.size ≤ 1000000000) (w : World) :
    Calls Try.prog 30 #[.string s] w fun e w' => e = .returned (.bool (okName s.data.toList)) ∧ w' = w := by
  go_enter Try.func30, Try.ntmps30
  go_wp2
  go_loop [3] (fun i => ∃ k : Nat, k ≤ s.size ∧ i = .int .i64 k ∧ (s.data.toList.take k).all good = true) (fun i => s.size - (intOf i).toNat)
  case atStart => exact ⟨0, Nat.zero_le _, rfl, rfl⟩
  case round =>
    obtain ⟨k, hk, rfl, hall⟩ := hrel
    have HA : Hid ((s.data.toList.take k).all good = true) := hall
    clear hall
    by_cases hlt : k < s.size
    · by_cases hgd : good (s[k]'hlt) = true
      · have hg := (good_iff _).1 hgd
        have hd1 : decide (((s[k]'hlt).toNat : Int) < 33) = false := by simp; omega
        have hd2 : decide ((126 : Int) < ((s[k]'hlt).toNat : Int)) = false := by simp; omega
        have hd3 : (((s[k]'hlt).toNat : Int) == 44) = false := by simp; omega
        have HN : Hid ((s.data.toList.take (k + 1)).all good = true) := by show _ = _; rw [all_take_succ s k hlt, HA.out, hgd]; rfl
        clear hg hgd
        go_wp2
        go_round
        case rel => exact ⟨k + 1, by omega, by go_num, HN.out⟩
        case measure => simp [intOf]; omega
      · have hgf : good (s[k]'hlt) = false := by simpa using hgd
        have HN : Hid (okName s.data.toList = false) := ok_bad s k hlt hgf
        have hor : ((s[k]'hlt).toNat : Int) < 33 ∨ (¬ ((s[k]'hlt).toNat : Int) < 33 ∧ (126 : Int) < ((s[k]'hlt).toNat : Int)) ∨ (¬ ((s[k]'hlt).toNat : Int) < 33 ∧ ¬ (126 : Int) < ((s[k]'hlt).toNat : Int) ∧ ((s[k]'hlt).toNat : Int) = 44) := by
          have := mt (good_iff _).2 hgd
          omega
        clear hgd hgf
        rcases hor with hlo | ⟨hlo, hhi⟩ | ⟨hlo, hhi, hcm⟩
        · have hd1 : decide (((s[k]'hlt).toNat : Int) < 33) = true := by simpa using hlo
          clear hlo
          go_wp2
          go_ret
          exact ⟨by rw [HN.out]; rfl, rfl⟩
        · have hd1 : decide (((s[k]'hlt).toNat : Int) < 33) = false := by simpa using hlo
          have hd2 : decide ((126 : Int) < ((s[k]'hlt).toNat : Int)) = true := by simpa using hhi
          clear hlo hhi
          go_wp2
          go_ret
          exact ⟨by rw [HN.out]; rfl, rfl⟩
        · have hd1 : decide (((s[k]'hlt).toNat : Int) < 33) = false := by simpa using hlo
          have hd2 : decide ((126 : Int) < ((s[k]'hlt).toNat : Int)) = false := by simpa using hhi
          have hd3 : (((s[k]'hlt).toNat : Int) == 44) = true := by rw [hcm]; rfl
          clear hlo hhi hcm
          go_wp2
          go_ret
          exact ⟨by rw [HN.out]; rfl, rfl⟩
    · have hke : k = s.size := by omega
      have hall2 : s.data.toList.all good = true := by
        have := HA.out
        rwa [List.take_of_length_le (by rw [Array.length_toList, hke]; exact Nat.le_refl _)] at this
      have hsl : s.data.toList.length = s.size := by rw [Array.length_toList]; rfl
      by_cases h1 : 1 ≤ s.size
      · by_cases h2 : s.size ≤ 64
        · have HN : Hid (okName s.data.toList = true) := by show _ = _; simp only [okName, hall2, hsl, h1, h2]; rfl
          have hd : decide ((s.size : Int) ≤ 64) = true := by simp; omega
          clear hall2 hsl
          go_wp2
          go_ret
          exact ⟨by rw [HN.out]; rfl, rfl⟩
        · have HN : Hid (okName s.data.toList = false) := by show _ = _; simp only [okName, hall2, hsl, h1, h2]; rfl
          have hd : decide ((s.size : Int) ≤ 64) = false := by simp; omega
          clear hall2 hsl
          go_wp2
          go_ret
          exact ⟨by rw [HN.out]; rfl, rfl⟩
      · have HN : Hid (okName s.data.toList = false) := by show _ = _; simp only [okName, hall2, hsl, h1]; rfl
        clear hall2 hsl
        go_wp2
        go_ret
        exact ⟨by rw [HN.out]; rfl, rfl⟩

end Go.Proofs.Ytnnhffjajbiicaa
