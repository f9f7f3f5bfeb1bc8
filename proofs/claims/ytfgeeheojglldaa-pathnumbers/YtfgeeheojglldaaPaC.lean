/- Right, the document's; strings.Clone; where a part ends; one step; Split. -/
import Derived.Test.YtfgeeheojglldaaPaB
import Derived.Lib.Strings
import Derived.Lib.Walk
import Derived.Lib.BufferWrite
import Derived.Lib.UnsafeStr
import Derived.Lib.Hide
import Derived.Laws.MakeOwn
namespace Go.Proofs.Ytfgeeheojglldaa
open Go Go.RowKit

set_option maxHeartbeats 1600000 in
set_option maxRecDepth 100000 in
theorem rright_c (s : ByteArray) (w : World) (hs : s.size ≤ 1000000) :
    Calls Try.prog 15 #[.string s] w fun e w' => e = .returned (.bool (rightP s.data.toList)) ∧ w' = w := by
  have HD : Hid (rightP s.data.toList = (decide (1 ≤ s.data.toList.length) && decide (s.data.toList.length ≤ 30) && s.data.toList.all fineB && !(s.data.toList == [46]) && !(s.data.toList == [46, 46]))) := rfl
  rw [← size_len] at HD
  generalize rightP s.data.toList = R at HD ⊢
  go_enter Try.func15, Try.ntmps15
  go_wp2
  go_loop [3] (fun i => ∃ k : Nat, k ≤ s.size ∧ i = .int .i64 k ∧ (s.data.toList.take k).all fineB = true) (fun i => s.size - (intOf i).toNat)
  case atStart => exact ⟨0, Nat.zero_le _, rfl, rfl⟩
  case round =>
    obtain ⟨k, hk, rfl, hall⟩ := hrel
    have HA : Hid ((s.data.toList.take k).all fineB = true) := hall
    clear hall
    by_cases hlt : k < s.size
    · have hi1 : (k : Int) < (s.size : Int) := by omega
      cases hgd : fineB (s[k]'hlt) with
      | true =>
        have hg := (fineB_iff _).1 hgd
        have hd1 : (((s[k]'hlt).toNat : Int) == 0) = false := by rw [beq_eq_false_iff_ne]; exact hg.1
        have hd3 : (((s[k]'hlt).toNat : Int) == 47) = false := by rw [beq_eq_false_iff_ne]; exact hg.2
        have HN : Hid ((s.data.toList.take (k + 1)).all fineB = true) := by show _ = _; rw [all_take_succ s k hlt, HA.out, hgd]; rfl
        clear hg hgd
        go_wp2
        go_round
        case rel => exact ⟨k + 1, by omega, by go_num, HN.out⟩
        case measure => simp [intOf]; omega
      | false =>
        have HN : Hid (s.data.toList.all fineB = false) := all_bad s k hlt hgd
        obtain rfl : R = false := by rw [HD.out, HN.out]; simp
        have hor : ((s[k]'hlt).toNat : Int) = 0 ∨ (¬ ((s[k]'hlt).toNat : Int) = 0 ∧ ((s[k]'hlt).toNat : Int) = 47) := by
          have := mt (fineB_iff _).2 (by rw [hgd]; simp)
          omega
        clear hgd HN HD
        rcases hor with hlo | ⟨hlo, hhi⟩
        · have hd1 : (((s[k]'hlt).toNat : Int) == 0) = true := by rw [hlo]; rfl
          clear hlo
          go_wp2
          go_ret
          exact ⟨rfl, rfl⟩
        · have hd1 : (((s[k]'hlt).toNat : Int) == 0) = false := by rw [beq_eq_false_iff_ne]; exact hlo
          have hd3 : (((s[k]'hlt).toNat : Int) == 47) = true := by rw [hhi]; rfl
          clear hlo hhi
          go_wp2
          go_ret
          exact ⟨rfl, rfl⟩
    · have hke : k = s.size := by omega
      have hall2 : s.data.toList.all fineB = true := by
        have := HA.out
        rwa [List.take_of_length_le (by rw [Array.length_toList, hke]; exact Nat.le_refl _)] at this
      have hi1 : ¬ (k : Int) < (s.size : Int) := by omega
      clear hke
      by_cases h0 : 1 ≤ s.size
      · have hi2 : (1 : Int) ≤ (s.size : Int) := by omega
        have h1 : decide (1 ≤ s.size) = true := by simpa using h0
        by_cases h30 : s.size ≤ 30
        · have hi3 : (s.size : Int) ≤ 30 := by omega
          have h2 : decide (s.size ≤ 30) = true := by simpa using h30
          cases hd : s.data.toList == [46] with
          | true =>
            obtain rfl : R = false := by rw [HD.out, hd]; simp
            have hd2 : (s.toList == [46]) = true := by rw [← hd]; exact str_lit s [46]
            clear HD hd hall2 HA
            go_wp2
            go_ret
            exact ⟨rfl, rfl⟩
          | false =>
            have hd2 : (s.toList == [46]) = false := by rw [← hd]; exact str_lit s [46]
            cases hu : s.data.toList == [46, 46] with
            | true =>
              obtain rfl : R = false := by rw [HD.out, hu]; simp
              have hu2 : (s.toList == [46, 46]) = true := by rw [← hu]; exact str_lit s [46, 46]
              clear HD hd hu hall2 HA
              go_wp2
              go_ret
              exact ⟨rfl, rfl⟩
            | false =>
              obtain rfl : R = true := by rw [HD.out, hd, hu, h1, h2, hall2]; rfl
              have hu2 : (s.toList == [46, 46]) = false := by rw [← hu]; exact str_lit s [46, 46]
              clear HD hd hu hall2 HA
              go_wp2
              go_ret
              exact ⟨rfl, rfl⟩
        · obtain rfl : R = false := by
            have h2 : decide (s.size ≤ 30) = false := by simpa using h30
            rw [HD.out, h2]; simp
          have hi3 : ¬ (s.size : Int) ≤ 30 := by omega
          clear HD hall2 HA
          go_wp2
          go_ret
          exact ⟨rfl, rfl⟩
      · obtain rfl : R = false := by
          have h2 : decide (1 ≤ s.size) = false := by simpa using h0
          rw [HD.out, h2]; simp
        have hi2 : ¬ (1 : Int) ≤ (s.size : Int) := by omega
        clear HD hall2 HA
        go_wp2
        go_ret
        exact ⟨rfl, rfl⟩

set_option maxHeartbeats 4000000 in
set_option maxRecDepth 100000 in
theorem lclone_c (s : ByteArray) (w : World) (hlim : s.size ≤ 1000000) :
    Calls Try.prog 24 #[.string s] w fun e w' => e = .returned (.string s) ∧ Below w.heap.size w w' := by
  by_cases h0 : s.size = 0
  · have hs : s = ⟨#[]⟩ := by
      apply ByteArray.ext
      exact Array.eq_empty_of_size_eq_zero h0
    subst hs
    go_enter Try.func24, Try.ntmps24
    go_wp2
    go_ret
    exact ⟨rfl, Below.refl _ _⟩
  · obtain ⟨i0, hi, hz0, hz1, hz2⟩ := info_parts Try.infoU8
    have hinfo : (Try.prog.info? 5).map (·.size) = some 1 := by rw [hi]; simp [hz1]
    have hco : Try.prog.cellsOf 5 = 1 := by simp [Program.cellsOf, hi, hz1]
    obtain ⟨M, hM⟩ : ∃ M, M = madeCells (Value.int .u8 0).cells (((s.size : Nat) : Int).toNat * i0.size) := ⟨_, rfl⟩
    have hMs : M.size = s.size := by rw [hM, size_madeCells, hz1]; simp
    have hmk : ∀ W : World, (Instr.makeSlice 22 (.int .i64 (s.size : Int)) (.int .i64 (s.size : Int))).run Try.prog W = .ok (.slice (some ⟨W.heap.size, 0, none⟩) s.size s.size) (W.alloc (.cells M 5)) := fun W => by
      have h := run_make (P := Try.prog) W 22 5 i0 (.int .u8 0) Try.underlying22 hi hz0 .i64 .i64 (s.size : Int) (s.size : Int) (by omega) (by omega) (by rw [hz2]; omega) (by omega)
      rw [← hM] at h
      simpa using h
    clear hM
    have hcp := Lib.run_copy_row_string (P := Try.prog) (w.alloc (.cells M 5)) 22 9 3 5 w.heap.size 0 s.size s.size s M 5 Try.underlying22 hinfo (heap_alloc_new w _) (Nat.le_refl _) (by omega)
    obtain ⟨Y, hY⟩ : ∃ Y, Y = (M.toList.take 0 ++ Lib.byteCells s.data.toList ++ M.toList.drop (0 + s.size)).toArray := ⟨_, rfl⟩
    rw [← hY] at hcp
    have hYl : Y.toList = Lib.byteCells s.data.toList := by
      rw [hY, List.toList_toArray, List.take_zero, List.nil_append, List.drop_of_length_le (by rw [Array.length_toList]; omega), List.append_nil]
    have hYs : Y.size = s.size := by rw [← Array.length_toList, hYl, Lib.byteCells_length, ← Lib.size_eq]
    have hgY : ((w.alloc (.cells M 5)).setRow w.heap.size Y).heap[w.heap.size]? = some (.cells Y 5 (0, 0)) := setRow_heap _ _ M _ 5 (0, 0) (heap_alloc_new w _)
    have hne : s.data.toList ≠ [] := fun e => h0 (by rw [Lib.size_eq, e]; rfl)
    have hUS := Lib.run_unsafeString_row (P := Try.prog) ((w.alloc (.cells M 5)).setRow w.heap.size Y) 47 3 9 5 Try.underlying47 hco w.heap.size Y.size (by unfold World.shape?; rw [hgY]) s.data.toList hne (by rw [← Lib.size_eq]; omega) (by rw [← Lib.size_eq]; omega)
      (fun j x hx => Lib.cells_of_row hgY Y.size j _ (by rw [List.take_of_length_le (by rw [Array.length_toList]; exact Nat.le_refl _), hYl]; simp [Lib.byteCells, hx]))
    rw [← Lib.size_eq] at hUS
    clear hY
    go_enter Try.func24, Try.ntmps24
    go_wp2
    go_ret
    have hb1 : Below w.heap.size w (w.alloc (.cells M 5)) := (Below.refl _ w).alloc (Nat.le_refl _) _
    have hb2 : Below w.heap.size (w.alloc (.cells M 5)) ((w.alloc (.cells M 5)).setRow w.heap.size Y) := ⟨rfl, rfl, rfl, by simp, fun k hk => setRow_other _ _ _ _ (by omega)⟩
    exact ⟨rfl, Lib.below_freeze (hb1.trans hb2) (p := ⟨w.heap.size, 0, none⟩) (Nat.le_refl _) _⟩

set_option maxHeartbeats 400000 in
theorem clone_c (s : ByteArray) (w : World) (hlim : s.size ≤ 1000000) :
    Calls Try.prog 23 #[.string s] w fun e w' => e = .returned (.string s) ∧ Below w.heap.size w w' := by
  go_enter Try.func23, Try.ntmps23
  go_wp2_with fail
  refine (lclone_c s _ hlim).mono ?_
  rintro e w1 ⟨rfl, hb⟩
  go_wp2
  go_ret
  exact ⟨rfl, hb⟩
end Go.Proofs.Ytfgeeheojglldaa
