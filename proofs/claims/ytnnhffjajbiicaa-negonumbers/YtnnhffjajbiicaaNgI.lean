/- What rightName and rightNames answer, and Encode. -/
import Derived.Test.YtnnhffjajbiicaaNgH
import Derived.Test.YtnnhffjajbiicaaNgP
namespace Go.Proofs.Ytnnhffjajbiicaa
open Go Go.RowKit

theorem okS_parts {s : ByteArray} (h1 : 1 ≤ s.size) (h2 : s.size ≤ 64) : okS s = s.data.toList.all good := by
  have hsl : s.data.toList.length = s.size := by rw [Array.length_toList]; rfl
  simp only [okS, okName, hsl, h1, h2, decide_true, Bool.and_true]
theorem okS_short {s : ByteArray} (h : ¬ 1 ≤ s.size) : okS s = false := by
  have hsl : s.data.toList.length = s.size := by rw [Array.length_toList]; rfl
  simp [okS, okName, hsl, h]
theorem okS_long {s : ByteArray} (h : ¬ s.size ≤ 64) : okS s = false := by
  have hsl : s.data.toList.length = s.size := by rw [Array.length_toList]; rfl
  simp [okS, okName, hsl, h]

set_option maxHeartbeats 1600000 in
theorem rightName_c (s : ByteArray) (w : World) (hs : s.size ≤ 1000000000) :
    Calls Try.prog 64 #[.string s] w fun e w' => e = .returned (.bool (okS s)) ∧ w' = w := by
  by_cases h1 : 1 ≤ s.size
  · by_cases h2 : s.size ≤ 64
    · have HE := hidden (okS_parts h1 h2)
      generalize okS s = R at HE ⊢
      have i1 : ¬ (s.size : Int) < 1 := by omega
      have i2 : ¬ (64 : Int) < (s.size : Int) := by omega
      go_enter Try.func64, Try.ntmps64
      go_wp2
      go_loop [14] (fun i => ∃ k : Nat, k ≤ s.size ∧ i = .int .i64 k ∧ (s.data.toList.take k).all good = true) (fun i => s.size - (intOf i).toNat)
      case atStart => exact ⟨0, Nat.zero_le _, rfl, rfl⟩
      case round =>
        obtain ⟨k, hk, rfl, hall⟩ := hrel
        have HA : Hid ((s.data.toList.take k).all good = true) := hall
        clear hall
        by_cases hlt : k < s.size
        · by_cases hgd : good (s[k]'hlt) = true
          · have hg := (good_iff _).1 hgd
            have hd1 : decide (((s[k]'hlt).toNat : Int) < 33) = false := by simp; omega
            have hd2 : decide ((126 : Int) < ((s[k]'hlt).toNat : Int)) = false := by simp; omega
            have hd3 : (((s[k]'hlt).toNat : Int) == 44) = false := by simp; omega
            have HN : Hid ((s.data.toList.take (k + 1)).all good = true) := by show _ = _; rw [all_take_succ s k hlt, HA.out, hgd]; rfl
            clear hg hgd
            go_wp2
            go_round
            case rel => exact ⟨k + 1, by omega, by go_num, HN.out⟩
            case measure => simp [intOf]; omega
          · have hgf : good (s[k]'hlt) = false := by simpa using hgd
            obtain rfl : R = false := by
              rw [HE.out, List.all_eq_false]
              exact ⟨s[k], by show s.data[k] ∈ _; exact Array.getElem_mem_toList hlt, by simp [hgf]⟩
            have hor : ((s[k]'hlt).toNat : Int) < 33 ∨ (¬ ((s[k]'hlt).toNat : Int) < 33 ∧ (126 : Int) < ((s[k]'hlt).toNat : Int)) ∨ (¬ ((s[k]'hlt).toNat : Int) < 33 ∧ ¬ (126 : Int) < ((s[k]'hlt).toNat : Int) ∧ ((s[k]'hlt).toNat : Int) = 44) := by
              have := mt (good_iff _).2 hgd
              omega
            clear hgd hgf HE
            rcases hor with hlo | ⟨hlo, hhi⟩ | ⟨hlo, hhi, hcm⟩
            · have hd1 : decide (((s[k]'hlt).toNat : Int) < 33) = true := by simpa using hlo
              clear hlo
              go_wp2
              go_ret
              exact ⟨rfl, rfl⟩
            · have hd1 : decide (((s[k]'hlt).toNat : Int) < 33) = false := by simpa using hlo
              have hd2 : decide ((126 : Int) < ((s[k]'hlt).toNat : Int)) = true := by simpa using hhi
              clear hlo hhi
              go_wp2
              go_ret
              exact ⟨rfl, rfl⟩
            · have hd1 : decide (((s[k]'hlt).toNat : Int) < 33) = false := by simpa using hlo
              have hd2 : decide ((126 : Int) < ((s[k]'hlt).toNat : Int)) = false := by simpa using hhi
              have hd3 : (((s[k]'hlt).toNat : Int) == 44) = true := by rw [hcm]; rfl
              clear hlo hhi hcm
              go_wp2
              go_ret
              exact ⟨rfl, rfl⟩
        · have hke : k = s.size := by omega
          have hall2 : s.data.toList.all good = true := by
            have := HA.out
            rwa [List.take_of_length_le (by rw [Array.length_toList, hke]; exact Nat.le_refl _)] at this
          obtain rfl : R = true := by rw [HE.out, hall2]
          clear hall2 HE HA
          go_wp2
          go_ret
          exact ⟨rfl, rfl⟩
    · rw [okS_long h2]
      have i1 : ¬ (s.size : Int) < 1 := by omega
      have i2 : (64 : Int) < (s.size : Int) := by omega
      go_enter Try.func64, Try.ntmps64
      go_wp2
      go_ret
      exact ⟨rfl, rfl⟩
  · rw [okS_short h1]
    have i1 : (s.size : Int) < 1 := by omega
    go_enter Try.func64, Try.ntmps64
    go_wp2
    go_ret
    exact ⟨rfl, rfl⟩

set_option maxHeartbeats 1600000 in
theorem rightNames_c (v : Value) (l : List ByteArray) (w : World) (hv : SSl w v l) (hl : l.length ≤ 100) (hs : ∀ s ∈ l, s.size ≤ 1000) :
    Calls Try.prog 38 #[v] w fun e w' => e = .returned (.bool (rightNs l)) ∧ w' = w := by
  have HV := hidden hv
  have HS := hidden hs
  clear hs
  obtain ⟨ao, ca, rfl, hca, hcm, _⟩ := hv
  unfold maxLen at hcm
  have HY : Hid ((∀ s ∈ l, okS s = true) → (l ≠ [] → lens l + (l.length - 1) ≤ 1000) → rightNs l = true) := rightNs_yes
  have HB : Hid (∀ s ∈ l, okS s = false → rightNs l = false) := fun s h => rightNs_bad h
  have HG : Hid (l ≠ [] → 1000 < lens l + (l.length - 1) → rightNs l = false) := rightNs_long
  generalize rightNs l = R at HY HB HG ⊢
  go_enter Try.func38, Try.ntmps38
  go_wp2
  go_loop [4, 13] (fun z i => ∃ k : Nat, k ≤ l.length ∧ i = .int .i64 k ∧ z = .int .i64 ((l.length : Int) - 1 + (lens (l.take k) : Int)) ∧ (∀ s ∈ l.take k, okS s = true) ∧ (0 < k → lens (l.take k) + (l.length - 1) ≤ 1000)) (fun _ i => l.length - (intOf i).toNat)
  case atStart => exact ⟨0, Nat.zero_le _, rfl, by simp [lens], by simp, fun h => by omega⟩
  case round =>
    obtain ⟨k, hk, rfl, rfl, hok, hle⟩ := hrel
    have HO := hidden hok
    have HL := hidden hle
    clear hok hle
    by_cases hlt : k < l.length
    · have hne : l ≠ [] := by rintro rfl; simp at hlt
      obtain ⟨b1, o1, rfl⟩ := HV.out.addr' hne
      have k1 := HV.out.cellAt k hlt
      have hi1 : (k : Int) < (l.length : Int) := by omega
      have hm := List.getElem_mem hlt
      have HT := hidden (lens_take_succ hlt)
      have hsz := HS.out _ hm
      have htl := lens_take_le l (k + 1)
      rw [HT.out] at htl
      have HTL := hidden htl
      have HNX : Hid (okS l[k] = true → ∀ s ∈ l.take (k + 1), okS s = true) := fun h => take_next hlt HO.out h
      have HBD := hidden (HB.out _ hm)
      have hlk : lens (l.take k) ≤ 1000 := by
        rcases Nat.eq_zero_or_pos k with h | h
        · subst h; simp [lens]
        · have := HL.out h; omega
      generalize l[k] = s at k1 HT hsz HTL HNX HBD
      generalize hLK : lens (l.take k) = L at *
      have HLK := hidden hLK
      clear hLK htl hm
      go_wp2_with fail
      refine (rightName_c s _ (by omega)).mono ?_
      rintro e w1 ⟨rfl, rfl⟩
      cases hq : okS s with
      | false =>
        have hR := HBD.out hq
        subst hR
        go_wp2
        go_ret
        exact ⟨rfl, rfl⟩
      | true =>
        by_cases hbig : 1000 < L + s.size + (l.length - 1)
        · have hR := HG.out hne (by have := HTL.out; omega)
          subst hR
          have hb2 : (1000 : Int) < (l.length : Int) - 1 + (L : Int) + (s.size : Int) := by omega
          go_wp2
          go_ret
          exact ⟨rfl, rfl⟩
        · have hb2 : ¬ (1000 : Int) < (l.length : Int) - 1 + (L : Int) + (s.size : Int) := by omega
          go_wp2
          go_round
          case rel => exact ⟨k + 1, by omega, by go_num, by rw [HT.out]; congr 1; push_cast; omega, HNX.out hq, fun _ => by rw [HT.out]; omega⟩
          case measure => simp [intOf]; omega
    · have hi1 : ¬ (k : Int) < (l.length : Int) := by omega
      have hke : k = l.length := by omega
      have hR : R = true := HY.out (by have := HO.out; rwa [hke, List.take_length] at this) (fun hne => by
        have h0 := List.length_pos_iff.2 hne
        have := HL.out (by omega)
        rwa [hke, List.take_length] at this)
      subst hR
      go_wp2
      go_ret
      exact ⟨rfl, rfl⟩
end Go.Proofs.Ytnnhffjajbiicaa
