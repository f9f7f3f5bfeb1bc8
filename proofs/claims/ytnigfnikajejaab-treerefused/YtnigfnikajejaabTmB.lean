/- slices.Delete of one, both rows. -/
import Derived.Test.YtnigfnikajejaabTmA
import Derived.Test.YtnigfnikajejaabKpW
import Derived.Deep.RegionLaw
namespace Go.Proofs.Ytnigfnikajejaab
open Go Go.RowKit

theorem Try.infoEnt : (Try.prog.info? 90).map (fun i => (i.zero, i.size, i.bytes)) = some (some (.agg #[.string ⟨#[]⟩, .pointer none]), 2, 24) := by kernel_rfl
theorem Try.infoPtr : (Try.prog.info? 53).map (fun i => (i.zero, i.size, i.bytes)) = some (some (.pointer none), 1, 8) := by kernel_rfl

theorem zeroEnt : (Builtin.zeroCells (Value.agg #[.string ⟨#[]⟩, .pointer none]).cells 1).toList = [.string ⟨#[]⟩, .pointer none] := by kernel_rfl
set_option maxHeartbeats 4000000 in
set_option maxRecDepth 100000 in
theorem delE_c (base g n cap i j : Nat) (xs : List Value) (w : World) (hown : w.ownsRow base 90 2 (.slice (some ⟨g, 0, none⟩) n cap) n xs) (hj : j = i + 1) (hi : i < n) (hn : n ≤ 1000000) (h1 : ∀ v ∈ xs, v.oneCell' = true) :
    Calls Try.prog 57 #[.slice (some ⟨g, 0, none⟩) n cap, .int .i64 i, .int .i64 j] w fun e w' => e = .returned (.slice (some ⟨g, 0, none⟩) (n - 1) cap) ∧
      w'.ownsRow base 90 2 (.slice (some ⟨g, 0, none⟩) (n - 1) cap) (n - 1) (xs.take (i * 2) ++ xs.drop (j * 2)) ∧ Keeps (fun k => k = g) w w' := by
  obtain ⟨i0, hi0, hz0, hz1, hz2⟩ := info_parts Try.infoEnt
  obtain ⟨hxl, hor⟩ := hown
  obtain ⟨g', cap', cur, e, hbg, hg, hnc, hcm, hcs, htake⟩ : ∃ g' cap' cur, (Value.slice (some ⟨g, 0, none⟩) n cap) = .slice (some ⟨g', 0, none⟩) n cap' ∧ base ≤ g' ∧ w.heap[g']? = some (.cells cur 90 (0, 0)) ∧ n ≤ cap' ∧ cap' ≤ maxLen ∧ cur.size = cap' * 2 ∧ cur.toList.take (n * 2) = xs := by
    rcases hor with ⟨h, _⟩ | h
    · cases h
    · exact h
  cases e
  have HM : Hid (cap ≤ maxLen) := hcm
  unfold maxLen at hcm
  have hsrc : ∀ A : Addr, (¬ cap = j → A = ⟨g, j * 2, none⟩) → Src Try.prog 2 65 (.slice (some A) (n - j) (cap - j)) (n - j) (xs.drop (j * 2)) w.drew := fun A hA => by
    refine Src.ofSlice _ Try.underlying65 A _ _ _ (by rw [List.length_drop, hxl]; omega) (fun k u hu => ?_) fun u hu => h1 u (List.mem_of_mem_drop hu)
    have hk := (List.getElem?_eq_some_iff.1 hu).1
    rw [List.length_drop, hxl] at hk
    rw [hA (by omega), Addr.add_lit]
    rw [List.getElem?_drop] at hu
    show w.cell? _ = _
    rw [cell_row (cs := cur.toList) (by simpa using hg), ← List.getElem?_take_of_lt (show j * 2 + k < n * 2 by omega), htake]
    exact hu
  have hcl : cur.toList.length = cap * 2 := by rw [Array.length_toList, hcs]
  have hdl : (xs.drop (j * 2)).length = (n - j) * 2 := by rw [List.length_drop, hxl]; omega
  -- behind the append
  obtain ⟨X, hX⟩ : ∃ X, X = over cur.toList (i * 2) (xs.drop (j * 2)) := ⟨_, rfl⟩
  have hXl : X.length = cap * 2 := by rw [hX, over_length (by rw [hdl, hcl]; omega), hcl]
  have hXt : X.take ((n - 1) * 2) = xs.take (i * 2) ++ xs.drop (j * 2) := by
    have e : (n - 1) * 2 = i * 2 + (xs.drop (j * 2)).length := by rw [hdl]; omega
    rw [hX, e, over_take (by rw [hdl, hcl]; omega), ← htake, List.take_take, Nat.min_eq_left (by omega)]
  have hap : ∀ (A : Addr) ty, (¬ cap = j → A = ⟨g, j * 2, none⟩) → (Builtin.append_ #[65, 65] ty #[.slice (some ⟨g, 0, none⟩) i cap, .slice (some A) (n - j) (cap - j)]).run Try.prog w.drew = .ok (.slice (some ⟨g, 0, none⟩) (i + (n - j)) cap) (w.drew.setRow g X.toArray) := fun A ty hA => by
    rw [hX]
    exact run_append_in w.drew _ _ _ 90 i0 2 Try.underlying65 hi0 hz1 g i cap cur hg hcs _ (n - j) _ (hsrc A hA) (by omega)
  have hg1 : (w.drew.setRow g X.toArray).heap[g]? = some (.cells X.toArray 90 (0, 0)) := setRow_heap _ g cur _ _ _ hg
  have hclr : ∀ c ty, (Builtin.clear_ #[65] ty #[.slice (some ⟨g, (i + (n - j)) * 2, none⟩) (n - (i + (n - j))) c]).run Try.prog (w.drew.setRow g X.toArray) = .ok (.tuple #[]) ((w.drew.setRow g X.toArray).setRow g (over X ((i + (n - j)) * 2) (Builtin.zeroCells (Value.agg #[.string ⟨#[]⟩, .pointer none]).cells (n - (i + (n - j)))).toList).toArray) := fun c ty =>
    run_clear_in _ _ 90 ty i0 _ 2 Try.underlying65 hi0 hz0 rfl g ((i + (n - j)) * 2) _ c (by omega) X.toArray hg1 (by simp [hXl]; omega) (by
      have : n - (i + (n - j)) = 1 := by omega
      rw [this, zeroEnt]; intro v hv
      rcases List.mem_cons.1 hv with rfl | hv
      · rfl
      · rw [List.mem_singleton.1 hv]; rfl)
  have hz2l : (Builtin.zeroCells (Value.agg #[.string ⟨#[]⟩, .pointer none]).cells (n - (i + (n - j)))).toList.length = 2 := by
    rw [Array.length_toList, size_zeroCells]
    have : n - (i + (n - j)) = 1 := by omega
    rw [this]; rfl
  obtain ⟨Y, hY⟩ : ∃ Y, Y = over X ((i + (n - j)) * 2) (Builtin.zeroCells (Value.agg #[.string ⟨#[]⟩, .pointer none]).cells (n - (i + (n - j)))).toList := ⟨_, rfl⟩
  have hYl : Y.length = cap * 2 := by rw [hY, over_length (by rw [hz2l, hXl]; omega), hXl]
  have hYt : Y.take ((n - 1) * 2) = xs.take (i * 2) ++ xs.drop (j * 2) := by
    rw [hY, over_take_le (by omega) (by rw [hXl]; omega), hXt]
  rw [← hY] at hclr
  have hg2 : ((w.drew.setRow g X.toArray).setRow g Y.toArray).heap[g]? = some (.cells Y.toArray 90 (0, 0)) := setRow_heap _ g _ _ _ _ hg1
  have hend : ((w.drew.setRow g X.toArray).setRow g Y.toArray).ownsRow base 90 2 (.slice (some ⟨g, 0, none⟩) (n - 1) cap) (n - 1) (xs.take (i * 2) ++ xs.drop (j * 2)) ∧ Keeps (fun k => k = g) w ((w.drew.setRow g X.toArray).setRow g Y.toArray) := by
    refine ⟨⟨by rw [List.length_append, hdl, List.length_take, hxl]; omega, .inr ⟨g, cap, Y.toArray, rfl, hbg, hg2, by omega, HM.out, by simp [hYl], by simpa using hYt⟩⟩, ⟨rfl, rfl, rfl, by simp, fun k _ hk => ?_⟩⟩
    rw [setRow_other _ g k _ hk, setRow_other _ g k _ hk]
    rfl
  have HE := hidden hend
  have hnj : i + (n - j) = n - 1 := by omega
  have HNJ := hidden hnj
  have hm : i + (n - j) ≤ n := by omega
  have hm2 : i + (n - j) ≤ cap := by omega
  have hm3 : ¬ cap = i + (n - j) := by omega
  have hic : ¬ cap = i := by omega
  have hle1 : i ≤ cap := by omega
  have hle2 : j ≤ n := by omega
  have hle3 : j ≤ cap := by omega
  have hlt : (i : Int) < (n : Int) := by omega
  have hij : i ≤ j := by omega
  have hne : ((i : Int) == (j : Int)) = false := by rw [beq_eq_false_iff_ne]; omega
  clear hend hsrc hX hXl hXt hg1 hY hYl hYt hg2 hz2l hnj hj htake hxl hcl hdl hor
  go_enter Try.func57, Try.ntmps57
  go_wp2_with fail
  by_cases hcj : cap = j
  · have HC := hidden hcj
    have hj2 : (if cap = j then (some ⟨g, 0, none⟩ : Option Addr) else some ⟨g, j * 2, none⟩) = some ⟨g, 0, none⟩ := if_pos hcj
    clear hcj
    go_region_law (refine step_append_run _ rfl (.tmp 22) (.tmp 25) 65 65 rfl _ _ (by simp [Act.eval, Act.put]) (by simp [Act.eval, Act.put]) (hap ⟨g, 0, none⟩ _ (fun h => absurd HC.out h)) ?_)
    go_wp2
    go_ret
    exact ⟨by rw [HNJ.out]; rfl, HE.out⟩
  · go_region_law (refine step_append_run _ rfl (.tmp 22) (.tmp 25) 65 65 rfl _ _ (by simp [Act.eval, Act.put]) (by simp [Act.eval, Act.put]) (hap _ _ (fun _ => rfl)) ?_)
    go_wp2
    go_ret
    exact ⟨by rw [HNJ.out]; rfl, HE.out⟩
-- rows of pointers
theorem zeroPtr : (Builtin.zeroCells (Value.pointer none).cells 1).toList = [.pointer none] := by kernel_rfl
set_option maxHeartbeats 4000000 in
set_option maxRecDepth 100000 in
theorem delP_c (base g n cap i j : Nat) (xs : List Value) (w : World) (hown : w.ownsRow base 53 1 (.slice (some ⟨g, 0, none⟩) n cap) n xs) (hj : j = i + 1) (hi : i < n) (hn : n ≤ 1000000) (h1 : ∀ v ∈ xs, v.oneCell' = true) :
    Calls Try.prog 59 #[.slice (some ⟨g, 0, none⟩) n cap, .int .i64 i, .int .i64 j] w fun e w' => e = .returned (.slice (some ⟨g, 0, none⟩) (n - 1) cap) ∧
      w'.ownsRow base 53 1 (.slice (some ⟨g, 0, none⟩) (n - 1) cap) (n - 1) (xs.take (i) ++ xs.drop (j)) ∧ Keeps (fun k => k = g) w w' := by
  obtain ⟨i0, hi0, hz0, hz1, hz2⟩ := info_parts Try.infoPtr
  obtain ⟨hxl, hor⟩ := hown
  obtain ⟨g', cap', cur, e, hbg, hg, hnc, hcm, hcs, htake⟩ : ∃ g' cap' cur, (Value.slice (some ⟨g, 0, none⟩) n cap) = .slice (some ⟨g', 0, none⟩) n cap' ∧ base ≤ g' ∧ w.heap[g']? = some (.cells cur 53 (0, 0)) ∧ n ≤ cap' ∧ cap' ≤ maxLen ∧ cur.size = cap' ∧ cur.toList.take (n) = xs := by
    rcases hor with ⟨h, _⟩ | h
    · cases h
    · simpa only [Nat.mul_one] using h
  cases e
  have HM : Hid (cap ≤ maxLen) := hcm
  unfold maxLen at hcm
  have hsrc : ∀ A : Addr, (¬ cap = j → A = ⟨g, j, none⟩) → Src Try.prog 1 55 (.slice (some A) (n - j) (cap - j)) (n - j) (xs.drop (j)) w.drew := fun A hA => by
    refine Src.ofSlice _ Try.underlying55 A _ _ _ (by rw [List.length_drop, hxl]; omega) (fun k u hu => ?_) fun u hu => h1 u (List.mem_of_mem_drop hu)
    have hk := (List.getElem?_eq_some_iff.1 hu).1
    rw [List.length_drop, hxl] at hk
    rw [hA (by omega), Addr.add_lit]
    rw [List.getElem?_drop] at hu
    show w.cell? _ = _
    rw [cell_row (cs := cur.toList) (by simpa using hg), ← List.getElem?_take_of_lt (show j + k < n by omega), htake]
    exact hu
  have hcl : cur.toList.length = cap := by rw [Array.length_toList, hcs]
  have hdl : (xs.drop (j)).length = (n - j) := by rw [List.length_drop, hxl]; omega
  -- behind the append
  obtain ⟨X, hX⟩ : ∃ X, X = over cur.toList (i) (xs.drop (j)) := ⟨_, rfl⟩
  have hXl : X.length = cap := by rw [hX, over_length (by rw [hdl, hcl]; omega), hcl]
  have hXt : X.take ((n - 1)) = xs.take (i) ++ xs.drop (j) := by
    have e : (n - 1) = i + (xs.drop (j)).length := by rw [hdl]; omega
    rw [hX, e, over_take (by rw [hdl, hcl]; omega), ← htake, List.take_take, Nat.min_eq_left (by omega)]
  have hap : ∀ (A : Addr) ty, (¬ cap = j → A = ⟨g, j, none⟩) → (Builtin.append_ #[55, 55] ty #[.slice (some ⟨g, 0, none⟩) i cap, .slice (some A) (n - j) (cap - j)]).run Try.prog w.drew = .ok (.slice (some ⟨g, 0, none⟩) (i + (n - j)) cap) (w.drew.setRow g X.toArray) := fun A ty hA => by
    rw [hX]
    have hh := run_append_in w.drew 55 55 ty 53 i0 1 Try.underlying55 hi0 hz1 g i cap cur hg (by rw [Nat.mul_one]; exact hcs) _ (n - j) _ (hsrc A hA) (by omega)
    rw [Nat.mul_one] at hh; exact hh
  have hg1 : (w.drew.setRow g X.toArray).heap[g]? = some (.cells X.toArray 53 (0, 0)) := setRow_heap _ g cur _ _ _ hg
  have hclr : ∀ c ty, (Builtin.clear_ #[55] ty #[.slice (some ⟨g, (i + (n - j)), none⟩) (n - (i + (n - j))) c]).run Try.prog (w.drew.setRow g X.toArray) = .ok (.tuple #[]) ((w.drew.setRow g X.toArray).setRow g (over X ((i + (n - j))) (Builtin.zeroCells (Value.pointer none).cells (n - (i + (n - j)))).toList).toArray) := fun c ty =>
    run_clear_in _ _ 53 ty i0 _ 1 Try.underlying55 hi0 hz0 rfl g ((i + (n - j))) _ c (by omega) X.toArray hg1 (by simp [hXl]; omega) (by
      have : n - (i + (n - j)) = 1 := by omega
      rw [this, zeroPtr]; intro v hv
      rw [List.mem_singleton.1 hv]; rfl)
  have hz2l : (Builtin.zeroCells (Value.pointer none).cells (n - (i + (n - j)))).toList.length = 1 := by
    rw [Array.length_toList, size_zeroCells]
    have : n - (i + (n - j)) = 1 := by omega
    rw [this]; rfl
  obtain ⟨Y, hY⟩ : ∃ Y, Y = over X ((i + (n - j))) (Builtin.zeroCells (Value.pointer none).cells (n - (i + (n - j)))).toList := ⟨_, rfl⟩
  have hYl : Y.length = cap := by rw [hY, over_length (by rw [hz2l, hXl]; omega), hXl]
  have hYt : Y.take ((n - 1)) = xs.take (i) ++ xs.drop (j) := by
    rw [hY, over_take_le (by omega) (by rw [hXl]; omega), hXt]
  rw [← hY] at hclr
  have hg2 : ((w.drew.setRow g X.toArray).setRow g Y.toArray).heap[g]? = some (.cells Y.toArray 53 (0, 0)) := setRow_heap _ g _ _ _ _ hg1
  have hend : ((w.drew.setRow g X.toArray).setRow g Y.toArray).ownsRow base 53 1 (.slice (some ⟨g, 0, none⟩) (n - 1) cap) (n - 1) (xs.take (i) ++ xs.drop (j)) ∧ Keeps (fun k => k = g) w ((w.drew.setRow g X.toArray).setRow g Y.toArray) := by
    refine ⟨⟨by rw [List.length_append, hdl, List.length_take, hxl]; omega, .inr ⟨g, cap, Y.toArray, rfl, hbg, hg2, by omega, HM.out, by simp [hYl], by simpa using hYt⟩⟩, ⟨rfl, rfl, rfl, by simp, fun k _ hk => ?_⟩⟩
    rw [setRow_other _ g k _ hk, setRow_other _ g k _ hk]
    rfl
  have HE := hidden hend
  have hnj : i + (n - j) = n - 1 := by omega
  have HNJ := hidden hnj
  have hm : i + (n - j) ≤ n := by omega
  have hm2 : i + (n - j) ≤ cap := by omega
  have hm3 : ¬ cap = i + (n - j) := by omega
  have hic : ¬ cap = i := by omega
  have hle1 : i ≤ cap := by omega
  have hle2 : j ≤ n := by omega
  have hle3 : j ≤ cap := by omega
  have hlt : (i : Int) < (n : Int) := by omega
  have hij : i ≤ j := by omega
  have hne : ((i : Int) == (j : Int)) = false := by rw [beq_eq_false_iff_ne]; omega
  clear hend hsrc hX hXl hXt hg1 hY hYl hYt hg2 hz2l hnj hj htake hxl hcl hdl hor
  go_enter Try.func59, Try.ntmps59
  go_wp2_with fail
  by_cases hcj : cap = j
  · have HC := hidden hcj
    have hj2 : (if cap = j then (some ⟨g, 0, none⟩ : Option Addr) else some ⟨g, j, none⟩) = some ⟨g, 0, none⟩ := if_pos hcj
    clear hcj
    go_region_law (refine step_append_run _ rfl (.tmp 22) (.tmp 25) 55 55 rfl _ _ (by simp [Act.eval, Act.put]) (by simp [Act.eval, Act.put]) (hap ⟨g, 0, none⟩ _ (fun h => absurd HC.out h)) ?_)
    go_wp2
    go_ret
    exact ⟨by rw [HNJ.out]; rfl, HE.out⟩
  · go_region_law (refine step_append_run _ rfl (.tmp 22) (.tmp 25) 55 55 rfl _ _ (by simp [Act.eval, Act.put]) (by simp [Act.eval, Act.put]) (hap _ _ (fun _ => rfl)) ?_)
    go_wp2
    go_ret
    exact ⟨by rw [HNJ.out]; rfl, HE.out⟩
end Go.Proofs.Ytnigfnikajejaab
