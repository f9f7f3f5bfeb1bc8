/- Versions: what Line and Version answer. -/
import Derived.Test.YtnnhffjajbiicaaNgB
namespace Go.Proofs.Ytnnhffjajbiicaa
open Go Go.RowKit

/-- What a version begins with. -/
def startB : ByteArray := ⟨#[83, 83, 72, 45, 50, 46, 48, 45]⟩
def plain (b : UInt8) : Bool := decide (32 ≤ b.toNat) && decide (b.toNat ≤ 126)
/-- Is it a version? -/
def rightV (s : ByteArray) : Bool := decide (9 ≤ s.size) && decide (s.size ≤ 253) && ((s.extract 0 8).toList == startB.toList) && s.data.toList.all plain

set_option maxHeartbeats 400000 in
theorem prefix_c (s : ByteArray) (w : World) :
    Calls Try.prog 63 #[.string s, .string startB] w fun e w' => e = .returned (.bool (decide (8 ≤ s.size) && ((s.extract 0 8).toList == startB.toList))) ∧ w' = w := by
  have hz : startB.size = 8 := rfl
  generalize startB = p at *
  by_cases h : 8 ≤ s.size
  · have hd : decide (8 ≤ s.size) = true := by simpa using h
    rw [hd]
    have hi : (8 : Int) ≤ (s.size : Int) := by omega
    go_enter Try.func63, Try.ntmps63
    go_wp2
    go_ret
    exact ⟨rfl, rfl⟩
  · have hd : decide (8 ≤ s.size) = false := by simpa using h
    rw [hd]
    have hi : ¬ (8 : Int) ≤ (s.size : Int) := by omega
    go_enter Try.func63, Try.ntmps63
    go_wp2
    go_ret
    exact ⟨rfl, rfl⟩

theorem plain_iff (b : UInt8) : plain b = true ↔ 32 ≤ b.toNat ∧ b.toNat ≤ 126 := by simp [plain]
theorem plain_take_succ (s : ByteArray) (k : Nat) (h : k < s.size) : (s.data.toList.take (k + 1)).all plain = ((s.data.toList.take k).all plain && plain s[k]) := by
  have hk : k < s.data.toList.length := by rw [Array.length_toList]; exact h
  rw [List.take_succ_eq_append_getElem hk, List.all_append]
  simp only [List.all_cons, List.all_nil, Bool.and_true, Array.getElem_toList]
  rfl
theorem plain_bad (s : ByteArray) (k : Nat) (h : k < s.size) (hg : plain s[k] = false) : s.data.toList.all plain = false := by
  rw [List.all_eq_false]
  exact ⟨s[k], by show s.data[k] ∈ _; exact Array.getElem_mem_toList h, by simp [hg]⟩

set_option maxHeartbeats 1600000 in
theorem rightVersion_c (s : ByteArray) (w : World) (hs : s.size ≤ 140737488355328) :
    Calls Try.prog 32 #[.string s] w fun e w' => e = .returned (.bool (rightV s)) ∧ w' = w := by
  have HD : Hid (rightV s = (decide (9 ≤ s.size) && decide (s.size ≤ 253) && ((s.extract 0 8).toList == startB.toList) && s.data.toList.all plain)) := rfl
  generalize rightV s = R at HD ⊢
  by_cases h8 : 8 ≤ s.size
  · cases hp : (s.extract 0 8).toList == startB.toList with
    | false =>
      obtain rfl : R = false := by rw [HD.out, hp]; simp
      clear HD
      go_enter Try.func32, Try.ntmps32
      go_wp2_with fail
      refine (prefix_c s _).mono ?_
      rintro e w1 ⟨rfl, rfl⟩
      rw [hp, Bool.and_false]
      go_wp2
      go_ret
      exact ⟨rfl, rfl⟩
    | true =>
      by_cases h9 : s.size = 8
      · obtain rfl : R = false := by rw [HD.out, h9]; rfl
        have hi : ((s.size : Int) == 8) = true := by rw [h9]; rfl
        have hd : decide (8 ≤ s.size) = true := by simpa using h8
        clear HD h9
        go_enter Try.func32, Try.ntmps32
        go_wp2_with fail
        refine (prefix_c s _).mono ?_
        rintro e w1 ⟨rfl, rfl⟩
        rw [hp, hd, Bool.and_true]
        go_wp2
        go_ret
        exact ⟨rfl, rfl⟩
      · have hi : ((s.size : Int) == 8) = false := by rw [beq_eq_false_iff_ne]; omega
        have hd : decide (8 ≤ s.size) = true := by simpa using h8
        by_cases hl : s.size ≤ 253
        · have HE : Hid (R = s.data.toList.all plain) := by
            show R = _
            have h1 : decide (9 ≤ s.size) = true := by simp; omega
            have h2 : decide (s.size ≤ 253) = true := by simpa using hl
            rw [HD.out, hp, h1, h2]; simp
          have hi2 : ¬ (253 : Int) < (s.size : Int) := by omega
          clear HD h9
          go_enter Try.func32, Try.ntmps32
          go_wp2_with fail
          refine (prefix_c s _).mono ?_
          rintro e w1 ⟨rfl, rfl⟩
          rw [hp, hd, Bool.and_true]
          go_wp2
          go_loop [19] (fun i => ∃ k : Nat, k ≤ s.size ∧ i = .int .i64 k ∧ (s.data.toList.take k).all plain = true) (fun i => s.size - (intOf i).toNat)
          case atStart => exact ⟨0, Nat.zero_le _, rfl, rfl⟩
          case round =>
            obtain ⟨k, hk, rfl, hall⟩ := hrel
            have HA : Hid ((s.data.toList.take k).all plain = true) := hall
            clear hall
            by_cases hlt : k < s.size
            · by_cases hgd : plain (s[k]'hlt) = true
              · have hg := (plain_iff _).1 hgd
                have hd1 : decide (((s[k]'hlt).toNat : Int) < 32) = false := by simp; omega
                have hd2 : decide ((126 : Int) < ((s[k]'hlt).toNat : Int)) = false := by simp; omega
                have HN : Hid ((s.data.toList.take (k + 1)).all plain = true) := by show _ = _; rw [plain_take_succ s k hlt, HA.out, hgd]; rfl
                clear hg hgd
                go_wp2
                go_round
                case rel => exact ⟨k + 1, by omega, by go_num, HN.out⟩
                case measure => simp [intOf]; omega
              · have hgf : plain (s[k]'hlt) = false := by simpa using hgd
                have HN : Hid (s.data.toList.all plain = false) := plain_bad s k hlt hgf
                obtain rfl : R = false := by rw [HE.out, HN.out]
                have hor : ((s[k]'hlt).toNat : Int) < 32 ∨ (¬ ((s[k]'hlt).toNat : Int) < 32 ∧ (126 : Int) < ((s[k]'hlt).toNat : Int)) := by
                  have := mt (plain_iff _).2 hgd
                  omega
                clear hgd hgf HN HE
                rcases hor with hlo | ⟨hlo, hhi⟩
                · have hd1 : decide (((s[k]'hlt).toNat : Int) < 32) = true := by simpa using hlo
                  clear hlo
                  go_wp2
                  go_ret
                  exact ⟨rfl, rfl⟩
                · have hd1 : decide (((s[k]'hlt).toNat : Int) < 32) = false := by simpa using hlo
                  have hd2 : decide ((126 : Int) < ((s[k]'hlt).toNat : Int)) = true := by simpa using hhi
                  clear hlo hhi
                  go_wp2
                  go_ret
                  exact ⟨rfl, rfl⟩
            · have hke : k = s.size := by omega
              have hall2 : s.data.toList.all plain = true := by
                have := HA.out
                rwa [List.take_of_length_le (by rw [Array.length_toList, hke]; exact Nat.le_refl _)] at this
              obtain rfl : R = true := by rw [HE.out, hall2]
              clear hall2 HE HA
              go_wp2
              go_ret
              exact ⟨rfl, rfl⟩
        · obtain rfl : R = false := by
            have h2 : decide (s.size ≤ 253) = false := by simpa using hl
            rw [HD.out, h2]; simp
          have hi2 : (253 : Int) < (s.size : Int) := by omega
          clear HD h9
          go_enter Try.func32, Try.ntmps32
          go_wp2_with fail
          refine (prefix_c s _).mono ?_
          rintro e w1 ⟨rfl, rfl⟩
          rw [hp, hd, Bool.and_true]
          go_wp2
          go_ret
          exact ⟨rfl, rfl⟩
  · obtain rfl : R = false := by
      have h2 : decide (9 ≤ s.size) = false := by simp; omega
      rw [HD.out, h2]; simp
    have hd : decide (8 ≤ s.size) = false := by simpa using h8
    clear HD
    go_enter Try.func32, Try.ntmps32
    go_wp2_with fail
    refine (prefix_c s _).mono ?_
    rintro e w1 ⟨rfl, rfl⟩
    rw [hd, Bool.false_and]
    go_wp2
    go_ret
    exact ⟨rfl, rfl⟩

/-- What Line answers. -/
def lineL (s : ByteArray) : List UInt8 := if rightV s then s.data.toList ++ [13, 10] else []
def lineE (s : ByteArray) : Int := if rightV s then 0 else 12
theorem rightV_size {s : ByteArray} (h : rightV s = true) : 9 ≤ s.size ∧ s.size ≤ 253 := by
  unfold rightV at h
  simp only [Bool.and_eq_true, decide_eq_true_eq] at h
  exact ⟨h.1.1.1, h.1.1.2⟩

set_option maxHeartbeats 800000 in
theorem line_c (s : ByteArray) (w : World) (hs : s.size ≤ 140737488355328) :
    Calls Try.prog 9 #[.string s] w fun e w' => ∃ v, e = .returned (.tuple #[v, .int .i64 (lineE s)]) ∧ BSl w' v (lineL s) ∧ (∀ k, v.ownBlock = some k → w.heap.size ≤ k) ∧ Below w.heap.size w w' := by
  cases h : rightV s with
  | false =>
    have e1 : lineE s = 12 := by simp [lineE, h]
    have e2 : lineL s = [] := by simp [lineL, h]
    rw [e1, e2]
    go_enter Try.func9, Try.ntmps9
    go_wp2_with fail
    refine (rightVersion_c s _ hs).mono ?_
    rintro e w1 ⟨rfl, rfl⟩
    rw [h]
    go_wp2
    go_ret2
    exact ⟨_, rfl, bsl_none _, (fun k e => by cases e), Below.refl _ _⟩
  | true =>
    have e1 : lineE s = 0 := by simp [lineE, h]
    have e2 : lineL s = (s ++ ⟨#[13, 10]⟩).data.toList := by simp [lineL, h, ByteArray.data_append]
    have hsz := rightV_size h
    have hsa : (s ++ ⟨#[13, 10]⟩ : ByteArray).size = s.size + 2 := by simp [ByteArray.size_append]; rfl
    rw [e1, e2]
    have hrb := run_bytes (s ++ ⟨#[13, 10]⟩)
    have hbs := fun w => bytes_bsl w (s ++ ⟨#[13, 10]⟩) (by omega)
    have HBS := hidden hbs
    have h2 : (⟨#[13, 10]⟩ : ByteArray).size = 2 := rfl
    clear hbs hsa
    go_enter Try.func9, Try.ntmps9
    go_wp2_with fail
    refine (rightVersion_c s _ hs).mono ?_
    rintro e w1 ⟨rfl, rfl⟩
    rw [h]
    go_wp2
    go_ret2
    exact ⟨_, rfl, HBS.out _, (fun k e => by cases e; exact Nat.le_refl _), bytesW_below _ _⟩
end Go.Proofs.Ytnnhffjajbiicaa
