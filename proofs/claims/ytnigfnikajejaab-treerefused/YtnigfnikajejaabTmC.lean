/- slices.Insert of one, both rows. -/
import Derived.Test.YtnigfnikajejaabTmB
import Derived.Laws.Externs
import Derived.Lib.Overlaps
namespace Go.Proofs.Ytnigfnikajejaab
open Go Go.RowKit

/-- What Insert tells: the row with one more in it; its own block, or a new one. -/
def InsPost (base : Nat) (e : TypeId) (sz : Nat) (v : Value) (n : Nat) (ys : List Value) (w : World) (en : Ending) (w' : World) : Prop :=
  ∃ v', en = .returned v' ∧ w'.ownsRow base e sz v' (n + 1) ys ∧ Keeps (fun k => v.ownBlock = some k) w w' ∧ (v'.ownBlock = v.ownBlock ∨ ∀ k, v'.ownBlock = some k → w.heap.size ≤ k)
theorem grown_keeps {w w' : World} {v v' : Value} {base : Nat} {e : TypeId} {sz n : Nat} {ys : List Value} (ho : w'.ownsRow base e sz v' (n + 1) ys) (hg : w.grownBy w' v.ownBlock) (hat : v'.ownBlock = v.ownBlock ∨ v'.ownBlock = some w.heap.size) : InsPost base e sz v n ys w (.returned v') w' :=
  ⟨v', rfl, ho, Keeps.ofGrown hg fun _ e => e, hat.imp id fun h k e => by rw [h] at e; cases e; exact Nat.le_refl _⟩

-- BEGIN
theorem sizeEnt : ∀ w, (Go.sizeOf 90).run Try.prog w = .ok 2 w := fun w => by
  obtain ⟨i0, hi0, hz0, hz1, hz2⟩ := info_parts Try.infoEnt
  simp [sizeOf, typeInfo, hi0, hz1]
set_option maxHeartbeats 4000000 in
set_option maxRecDepth 100000 in
theorem insE_end (base n : Nat) (v : Value) (xs news : List Value) (w : World) (hown : w.ownsRow base 90 2 v n xs) (hn : n ≤ 1000000) (b : Nat) (hb : w.heap[b]? = some (.cells news.toArray 90 (0, 0))) (hnl : news.length = 2) (h1n : ∀ u ∈ news, u.oneCell' = true) (hbase : base ≤ w.heap.size) :
    Calls Try.prog 50 #[v, .int .i64 n, .slice (some ⟨b, 0, none⟩) 1 1] w (InsPost base 90 2 v n (xs ++ news) w) := by
  obtain ⟨i0, hi0, hz0, hz1, hz2⟩ := info_parts Try.infoEnt
  have hsrc : Src Try.prog 2 65 (.slice (some ⟨b, 0, none⟩) 1 1) 1 news w := Src.ofSlice _ Try.underlying65 ⟨b, 0, none⟩ 1 1 news (by rw [hnl]) (fun j u hu => by rw [add_lit', Nat.zero_add, cell_row (cs := news) (by simpa using hb)]; exact hu) h1n
  have hap : ∀ ty, ∃ v' w', (Builtin.append_ #[65, 65] ty #[v, .slice (some ⟨b, 0, none⟩) 1 1]).run Try.prog w = .ok v' w' ∧ InsPost base 90 2 v n (xs ++ news) w (.returned v') w' := fun ty => by
    obtain ⟨v', w', hr, ho, hg, _, hat⟩ := run_append_src2 w base 65 65 ty 90 i0 _ 24 Try.underlying65 hi0 hz0 hz1 hz2 rfl v n xs hown _ 1 news hsrc (by unfold maxLen; omega) (by omega) hbase
    exact ⟨v', w', hr, grown_keeps ho hg hat⟩
  obtain ⟨v', w', hr, hp⟩ := hap 65
  have HP := hidden hp
  have hsh : ∃ ao cap, v = .slice ao n cap ∧ n ≤ cap ∧ cap ≤ maxLen ∧ (ao = none ∨ ∃ g, ao = some ⟨g, 0, none⟩) := by
    rcases hown.2 with ⟨rfl, rfl⟩ | ⟨g, cap, cur, rfl, _, _, h1, h2, _⟩
    · exact ⟨none, 0, rfl, by omega, by simp [maxLen], .inl rfl⟩
    · exact ⟨_, cap, rfl, h1, h2, .inr ⟨g, rfl⟩⟩
  obtain ⟨ao, cap, rfl, hnc, hcm, hao⟩ := hsh
  unfold maxLen at hcm
  clear hap hp hsrc hown hb
  rcases hao with rfl | ⟨g, rfl⟩
  · go_enter Try.func50, Try.ntmps50
    go_wp2_with (at_builtin; refine wpList_append_run _ rfl (.tmp 23) (.tmp 24) 65 65 rfl _ _ rfl rfl hr ?_)
    go_ret
    exact HP.out
  · go_enter Try.func50, Try.ntmps50
    go_wp2_with (at_builtin; refine wpList_append_run _ rfl (.tmp 23) (.tmp 24) 65 65 rfl _ _ rfl rfl hr ?_)
    all_goals
      go_ret
      exact HP.out

set_option maxHeartbeats 8000000 in
set_option maxRecDepth 100000 in
theorem insE_mid (base g n cap i : Nat) (xs news : List Value) (w : World) (hown : w.ownsRow base 90 2 (.slice (some ⟨g, 0, none⟩) n cap) n xs) (hn : n ≤ 1000000) (hi : i < n) (h1 : ∀ u ∈ xs, u.oneCell' = true) (b : Nat) (hb : w.heap[b]? = some (.cells news.toArray 90 (0, 0))) (hbg : b ≠ g) (hnl : news.length = 2) (h1n : ∀ u ∈ news, u.oneCell' = true) (hbase : base ≤ w.heap.size) :
    Calls Try.prog 50 #[.slice (some ⟨g, 0, none⟩) n cap, .int .i64 i, .slice (some ⟨b, 0, none⟩) 1 1] w (InsPost base 90 2 (.slice (some ⟨g, 0, none⟩) n cap) n (xs.take (i * 2) ++ news ++ xs.drop (i * 2)) w) := by
  obtain ⟨i0, hi0, hz0, hz1, hz2⟩ := info_parts Try.infoEnt
  have hcells := hown.cells (g := g) rfl
  obtain ⟨hxl, hor⟩ := hown
  obtain ⟨g', cap', cur, e, hbg2, hg, hnc, hcm, hcs, htake⟩ : ∃ g' cap' cur, (Value.slice (some ⟨g, 0, none⟩) n cap) = .slice (some ⟨g', 0, none⟩) n cap' ∧ base ≤ g' ∧ w.heap[g']? = some (.cells cur 90 (0, 0)) ∧ n ≤ cap' ∧ cap' ≤ maxLen ∧ cur.size = cap' * 2 ∧ cur.toList.take (n * 2) = xs := by
    rcases hor with ⟨h, _⟩ | h
    · cases h
    · exact h
  cases e
  have HM : Hid (cap ≤ maxLen) := hcm
  unfold maxLen at hcm
  have hcl : cur.toList.length = cap * 2 := by rw [Array.length_toList, hcs]
  have hdl : (xs.drop (i * 2)).length = (n - i) * 2 := by rw [List.length_drop, hxl]; omega
  have htl : (xs.take (i * 2)).length = i * 2 := by rw [List.length_take, hxl]; omega
  have h1d : ∀ u ∈ xs.drop (i * 2), u.oneCell' = true := fun u hu => h1 u (List.mem_of_mem_drop hu)
  have hnewsAt : ∀ (W : World), W.heap[b]? = w.heap[b]? → ∀ k u, news[k]? = some u → W.cell? ((⟨b, 0, none⟩ : Addr).add k) = some u := fun W hW k u hu => by
    rw [add_lit', Nat.zero_add, cell_row (cs := news) (by rw [hW]; simpa using hb)]; exact hu
  have hbl := lt_of_block hb
  have hgl := lt_of_block hg
  by_cases hroom : n + 1 ≤ cap
  · -- in place
    have hne2 : ¬ cap = i := by omega
    have hnj : ¬ cap = i + 1 := by omega
    obtain ⟨X, hX⟩ : ∃ X, X = over cur.toList ((i + 1) * 2) (xs.drop (i * 2)) := ⟨_, rfl⟩
    have hXl : X.length = cap * 2 := by rw [hX, over_length (by rw [hdl, hcl]; omega), hcl]
    have hg1 : (w.drew.setRow g X.toArray).heap[g]? = some (.cells X.toArray 90 (0, 0)) := setRow_heap _ g cur _ _ _ hg
    have hcp1 : ∀ ty dc sc, (Builtin.copy_ #[65, 65] ty #[.slice (some ⟨g, (i + 1) * 2, none⟩) (n - i) dc, .slice (some ⟨g, i * 2, none⟩) (n + 1 - i) sc]).run Try.prog w.drew = .ok (goInt (n - i : Nat)) (w.drew.setRow g X.toArray) := fun ty dc sc => by
      rw [hX]
      refine run_copy_in w.drew _ _ _ 90 i0 2 Try.underlying65 hi0 hz1 g ((i + 1) * 2) _ _ 90 cur hg _ _ _ (n - i) (by show min _ _ = _; omega) (xs.drop (i * 2)) hdl (fun k u hu => ?_) (by rw [hdl, hcs]; omega) h1d
      rw [List.getElem?_drop] at hu
      have := hcells _ u hu
      rw [add_lit', Nat.zero_add] at this
      rw [add_lit']
      exact this
    obtain ⟨Y, hY⟩ : ∃ Y, Y = over X (i * 2) news := ⟨_, rfl⟩
    have hYl : Y.length = cap * 2 := by rw [hY, over_length (by rw [hnl, hXl]; omega), hXl]
    have hYt : Y.take ((n + 1) * 2) = xs.take (i * 2) ++ news ++ xs.drop (i * 2) := by
      have e1 : X.take (i * 2) = xs.take (i * 2) := by rw [hX, over_take_le (by omega) (by rw [hcl]; omega), ← htake, List.take_take, Nat.min_eq_left (by omega)]
      have e2 : (X.drop (i * 2 + news.length)).take ((n - i) * 2) = xs.drop (i * 2) := by
        have : i * 2 + news.length = (i + 1) * 2 := by rw [hnl]; omega
        rw [this, hX]
        unfold over
        have hl : (cur.toList.take ((i + 1) * 2)).length = (i + 1) * 2 := by rw [List.length_take, hcl]; omega
        rw [List.append_assoc, List.drop_left' hl, List.take_left' hdl]
      have e3 : (n + 1) * 2 = (X.take (i * 2) ++ news).length + (n - i) * 2 := by rw [List.length_append, e1, htl, hnl]; omega
      rw [hY]
      show (X.take (i * 2) ++ news ++ X.drop (i * 2 + news.length)).take _ = _
      rw [e3, List.take_length_add_append, e2, e1]
    have hcp2 : ∀ ty dc, (Builtin.copy_ #[65, 65] ty #[.slice (some ⟨g, i * 2, none⟩) (n + 1 - i) dc, .slice (some ⟨b, 0, none⟩) 1 1]).run Try.prog (w.drew.setRow g X.toArray) = .ok (goInt (1 : Nat)) ((w.drew.setRow g X.toArray).setRow g Y.toArray) := fun ty dc => by
      have := run_copy_in (P := Try.prog) (w.drew.setRow g X.toArray) 65 65 ty 90 i0 2 Try.underlying65 hi0 hz1 g (i * 2) (n + 1 - i) dc 90 X.toArray hg1 ⟨b, 0, none⟩ 1 1 1 (by show min _ _ = _; omega) news (by rw [hnl]) (hnewsAt _ (by rw [setRow_other _ g b _ hbg]; rfl)) (by rw [hnl]; simp [hXl]; omega) h1n
      rw [List.toList_toArray, ← hY] at this
      exact this
    have hg2 : ((w.drew.setRow g X.toArray).setRow g Y.toArray).heap[g]? = some (.cells Y.toArray 90 (0, 0)) := setRow_heap _ g _ _ _ _ hg1
    have hend : InsPost base 90 2 (.slice (some ⟨g, 0, none⟩) n cap) n (xs.take (i * 2) ++ news ++ xs.drop (i * 2)) w (.returned (.slice (some ⟨g, 0, none⟩) (n + 1) cap)) ((w.drew.setRow g X.toArray).setRow g Y.toArray) := by
      refine ⟨_, rfl, ⟨by rw [List.length_append, List.length_append, htl, hnl, hdl]; omega, .inr ⟨g, cap, Y.toArray, rfl, hbg2, hg2, hroom, HM.out, by simp [hYl], by simpa using hYt⟩⟩, ⟨rfl, rfl, rfl, by simp, fun k _ hk => ?_⟩, .inl rfl⟩
      have hkg : k ≠ g := fun e => hk (by rw [e]; rfl)
      rw [setRow_other _ g k _ hkg, setRow_other _ g k _ hkg]
      rfl
    have HE := hidden hend
    have hov : ∀ lb cb, (callFunc 65 #[.slice (some ⟨b, 0, none⟩) 1 1, .slice (some ⟨g, (i + 1) * 2, none⟩) lb cb]).run Try.prog w = .ok (.value (.bool false)) w := fun lb cb => by
      rw [run_callFunc_extern Try.func65 (by kernel_rfl) (by kernel_rfl) (by kernel_rfl) (e := Extern.SlicesOverlaps.overlaps #[65, 65] #[4]) (by kernel_rfl),
        Lib.run_overlaps_apart w 65 4 90 Try.underlying65 2 sizeEnt ⟨b, 0, none⟩ ⟨g, (i + 1) * 2, none⟩ 1 1 lb cb hbg 90 90 2 (cap * 2) (by simp [World.shape?, hb, hnl]) (by simp [World.shape?, hg, hcs]) (by omega) (by simp [World.frozen?, hb]) (by simp [World.frozen?, hb])]
      rfl
    have hq1 : i ≤ n := by omega
    have hq2 : i + 1 ≤ n + 1 := by omega
    have hq3 : i ≤ n + 1 := by omega
    have hq4 : i ≤ cap := by omega
    have hq5 : i + 1 ≤ cap := by omega
    have hq6 : ((i : Int) == (n : Int)) = false := by rw [beq_eq_false_iff_ne]; omega
    have hq7 : ¬ ((cap : Int) < (n : Int) + 1) := by omega
    have hq9 : IntKind.i64.wrap ((n : Int) + 1) = (n : Int) + 1 := by rw [IntKind.wrap_i64]; omega
    have hq10 : IntKind.i64.wrap ((i : Int) + 1) = (i : Int) + 1 := by rw [IntKind.wrap_i64]; omega
    have hq17 : (i : Int) ≤ (n : Int) + 1 := by omega
    have hq15 : (0 : Int) ≤ (i : Int) + 1 := by omega
    have hq16 : ((i : Int) + 1).toNat = i + 1 := by omega
    clear hend hX hXl hY hYl hYt hg2 hg1 hcl hdl htl htake hxl hor hnewsAt hcells h1d hcs hb hg
    go_enter Try.func50, Try.ntmps50
    go_wp2_with (simp only [hov])
    go_region_law (refine step_copy_run _ rfl (.tmp 73) (.tmp 76) 65 65 rfl _ _ (by simp [Act.eval, Act.put]) (by simp [Act.eval, Act.put]) (hcp1 _ _ _) ?_)
    go_wp2_with (at_builtin; refine wpList_copy_run _ rfl (.tmp 80) (.tmp 81) 65 65 rfl _ _ rfl rfl (hcp2 _ _) ?_)
    go_ret
    exact HE.out
  · -- a new row
    obtain rfl : cap = n := by omega
    have hC := grownCap_ge w (cap + 1) cap 90
    have hCm := grownCap_le_maxLen w (cap + 1) cap 90 (by unfold maxLen; omega)
    have hap := run_append_zeros_grow w 65 3 65 90 i0 _ 2 _ Try.underlying65 Try.underlying3 hi0 hz0 hz1 (by omega) (by omega) g i cap (cap + 1 - i) (xs.take (i * 2)) htl (fun k u hu => hcells k u (by rw [List.getElem?_take] at hu; split at hu; exact hu; cases hu)) (by omega) (by omega) (by rw [hz2]; omega)
    rw [show i + (cap + 1 - i) = cap + 1 by omega] at hap
    generalize hCd : grownCap w (cap + 1) cap 90 = C at hap hC hCm
    obtain ⟨D, hD⟩ : ∃ D, D = (xs.take (i * 2) ++ (Builtin.zeroCells (Value.agg #[.string ⟨#[]⟩, .pointer none]).cells (cap + 1 - i)).toList).toArray ++ Builtin.zeroCells (Value.agg #[.string ⟨#[]⟩, .pointer none]).cells (C - (cap + 1)) := ⟨_, rfl⟩
    rw [← hD] at hap
    obtain ⟨W1, hW1⟩ : ∃ W, W = w.drew.alloc (.cells D 90) := ⟨_, rfl⟩
    rw [← hW1] at hap
    have hz2s : (Value.agg #[.string ⟨#[]⟩, .pointer none]).cells.size = 2 := rfl
    have hDs : D.size = C * 2 := by
      rw [hD]; simp only [Array.size_append, List.size_toArray, List.length_append, Array.length_toList, size_zeroCells, htl, hz2s]; omega
    have hDt : D.toList.take (i * 2) = xs.take (i * 2) := by
      rw [hD, Array.toList_append, List.toList_toArray, List.append_assoc, List.take_left' htl]
    have hDl : D.toList.length = C * 2 := by rw [Array.length_toList, hDs]
    have hg0 : W1.heap[w.heap.size]? = some (.cells D 90 (0, 0)) := by rw [hW1]; exact heap_alloc_new w.drew _
    have hold : ∀ k, k < w.heap.size → W1.heap[k]? = w.heap[k]? := fun k hk => by rw [hW1]; exact Below.heap_alloc w.drew _ k hk
    have hsz1 : W1.heap.size = w.heap.size + 1 := by rw [hW1]; simp
    have hos1 : W1.os = w.os ∧ W1.tape = w.tape ∧ W1.output = w.output := by rw [hW1]; exact ⟨rfl, rfl, rfl⟩
    obtain ⟨X, hX⟩ : ∃ X, X = over D.toList (i * 2) news := ⟨_, rfl⟩
    have hXl : X.length = C * 2 := by rw [hX, over_length (by rw [hnl, hDl]; omega), hDl]
    have hXt : X.take ((i + 1) * 2) = xs.take (i * 2) ++ news := by
      have e : (i + 1) * 2 = i * 2 + news.length := by rw [hnl]; omega
      rw [hX, e, over_take (by rw [hnl, hDl]; omega), hDt]
    obtain ⟨W2, hW2⟩ : ∃ W, W = W1.setRow w.heap.size X.toArray := ⟨_, rfl⟩
    have hcpA : ∀ ty dc, (Builtin.copy_ #[65, 65] ty #[.slice (some ⟨w.heap.size, i * 2, none⟩) (cap + 1 - i) dc, .slice (some ⟨b, 0, none⟩) 1 1]).run Try.prog W1 = .ok (goInt (1 : Nat)) W2 := fun ty dc => by
      have := run_copy_in (P := Try.prog) W1 65 65 ty 90 i0 2 Try.underlying65 hi0 hz1 w.heap.size (i * 2) (cap + 1 - i) dc 90 D hg0 ⟨b, 0, none⟩ 1 1 1 (by show min _ _ = _; omega) news (by rw [hnl]) (hnewsAt _ (hold b hbl)) (by rw [hnl]; omega) h1n
      rw [← hX, ← hW2] at this
      exact this
    have hg1 : W2.heap[w.heap.size]? = some (.cells X.toArray 90 (0, 0)) := by rw [hW2]; exact setRow_heap _ _ D _ _ _ hg0
    have hold2 : ∀ k, k < w.heap.size → W2.heap[k]? = w.heap[k]? := fun k hk => by rw [hW2, setRow_other _ _ k _ (by omega)]; exact hold k hk
    have hsz2 : W2.heap.size = w.heap.size + 1 := by rw [hW2]; simpa using hsz1
    have hos2 : W2.os = w.os ∧ W2.tape = w.tape ∧ W2.output = w.output := by rw [hW2]; exact hos1
    obtain ⟨Y, hY⟩ : ∃ Y, Y = over X ((i + 1) * 2) (xs.drop (i * 2)) := ⟨_, rfl⟩
    have hYl : Y.length = C * 2 := by rw [hY, over_length (by rw [hdl, hXl]; omega), hXl]
    have hYt : Y.take ((cap + 1) * 2) = xs.take (i * 2) ++ news ++ xs.drop (i * 2) := by
      have e : (cap + 1) * 2 = (i + 1) * 2 + (xs.drop (i * 2)).length := by rw [hdl]; omega
      rw [hY, e, over_take (by rw [hdl, hXl]; omega), hXt]
    have hcpB : ∀ ty dc sc, (Builtin.copy_ #[65, 65] ty #[.slice (some ⟨w.heap.size, (i + 1) * 2, none⟩) (cap - i) dc, .slice (some ⟨g, i * 2, none⟩) (cap - i) sc]).run Try.prog W2.drew = .ok (goInt (cap - i : Nat)) (W2.drew.setRow w.heap.size Y.toArray) := fun ty dc sc => by
      have := run_copy_in (P := Try.prog) W2.drew 65 65 ty 90 i0 2 Try.underlying65 hi0 hz1 w.heap.size ((i + 1) * 2) (cap - i) dc 90 X.toArray hg1 ⟨g, i * 2, none⟩ (cap - i) sc (cap - i) (by show min _ _ = _; omega) (xs.drop (i * 2)) hdl (fun k u hu => by
        rw [List.getElem?_drop] at hu
        have := hcells _ u hu
        rw [add_lit', Nat.zero_add] at this
        rw [add_lit']
        refine (World.cell?_of_block ?_).trans this
        exact hold2 g hgl) (by rw [hdl]; simp [hXl]; omega) h1d
      rw [List.toList_toArray, ← hY] at this
      exact this
    have hg2 : (W2.drew.setRow w.heap.size Y.toArray).heap[w.heap.size]? = some (.cells Y.toArray 90 (0, 0)) := setRow_heap _ _ _ _ _ _ hg1
    have hend : InsPost base 90 2 (.slice (some ⟨g, 0, none⟩) cap cap) cap (xs.take (i * 2) ++ news ++ xs.drop (i * 2)) w (.returned (.slice (some ⟨w.heap.size, 0, none⟩) (cap + 1) C)) (W2.drew.setRow w.heap.size Y.toArray) := by
      refine ⟨_, rfl, ⟨by rw [List.length_append, List.length_append, htl, hnl, hdl]; omega, .inr ⟨w.heap.size, C, Y.toArray, rfl, hbase, hg2, hC, hCm, by simp [hYl], by simpa using hYt⟩⟩, ⟨hos2.1, hos2.2.1, hos2.2.2, by show _ ≤ (W2.drew.setRow _ _).heap.size; simp [hsz2], fun k hk _ => ?_⟩, .inr fun k e => by cases e; exact Nat.le_refl _⟩
      rw [setRow_other _ _ k _ (by omega)]
      exact hold2 k hk
    have HE := hidden hend
    rw [show ((cap + 1 - i : Nat) : Int) = (cap : Int) + 1 - (i : Int) by omega] at hap
    unfold maxLen at hCm
    have hq1 : i ≤ cap := by omega
    have hq2 : i + 1 ≤ cap + 1 := by omega
    have hq3 : i ≤ cap + 1 := by omega
    have hq4 : i ≤ C := by omega
    have hq5 : i + 1 ≤ C := by omega
    have hq6 : ((i : Int) == (cap : Int)) = false := by rw [beq_eq_false_iff_ne]; omega
    have hq7 : (cap : Int) < (cap : Int) + 1 := by omega
    have hq8 : ¬ C = i := by omega
    have hq9 : IntKind.i64.wrap ((cap : Int) + 1) = (cap : Int) + 1 := by rw [IntKind.wrap_i64]; omega
    have hq10 : IntKind.i64.wrap ((i : Int) + 1) = (i : Int) + 1 := by rw [IntKind.wrap_i64]; omega
    have hq15 : (0 : Int) ≤ (i : Int) + 1 := by omega
    have hq16 : ((i : Int) + 1).toNat = i + 1 := by omega
    have hq11 : IntKind.i64.wrap ((cap : Int) + 1 - (i : Int)) = (cap : Int) + 1 - (i : Int) := by rw [IntKind.wrap_i64]; omega
    have hq12 : ¬ C = i + 1 := by omega
    have hq14 : ¬ cap = i := by omega
    clear hend hX hXl hXt hY hYl hYt hg2 hg1 hg0 hcl hdl htl htake hxl hor hnewsAt hcells h1d hcs hb hg hD hDs hDt hDl hz2s hCd hW1 hW2 hold hold2 hsz1 hsz2 hos1 hos2
    go_enter Try.func50, Try.ntmps50
    go_wp2_with (first | (at_builtin; refine wpList_append_run _ rfl (.tmp 34) (.tmp 39) 65 3 rfl _ _ rfl rfl hap ?_) | (at_builtin; refine wpList_copy_run _ rfl (.tmp 43) (.tmp 44) 65 65 rfl _ _ rfl rfl (hcpA _ _) ?_))
    go_region_law (refine step_copy_run _ rfl (.tmp 50) (.tmp 53) 65 65 rfl _ _ (by simp [Act.eval, Act.put]) (by simp [Act.eval, Act.put]) (hcpB _ _ _) ?_)
    go_wp2
    go_ret
    exact HE.out
theorem insE_c (base n i : Nat) (v : Value) (xs news : List Value) (w : World) (hown : w.ownsRow base 90 2 v n xs) (hn : n ≤ 1000000) (hi : i ≤ n) (h1 : ∀ u ∈ xs, u.oneCell' = true) (b : Nat) (hb : w.heap[b]? = some (.cells news.toArray 90 (0, 0))) (hbv : v.ownBlock ≠ some b) (hnl : news.length = 2) (h1n : ∀ u ∈ news, u.oneCell' = true) (hbase : base ≤ w.heap.size) :
    Calls Try.prog 50 #[v, .int .i64 i, .slice (some ⟨b, 0, none⟩) 1 1] w (InsPost base 90 2 v n (xs.take (i * 2) ++ news ++ xs.drop (i * 2)) w) := by
  by_cases e : i = n
  · subst e
    have hl := hown.1
    have := insE_end base i v xs news w hown hn b hb hnl h1n hbase
    rwa [List.take_of_length_le (by omega), List.drop_of_length_le (by omega), List.append_nil]
  · have hlt : i < n := by omega
    obtain ⟨g, cap, rfl⟩ : ∃ g cap, v = .slice (some ⟨g, 0, none⟩) n cap := by
      rcases hown.2 with ⟨_, h⟩ | ⟨g, cap, cur, h, _⟩
      · omega
      · exact ⟨g, cap, h⟩
    exact insE_mid base g n cap i xs news w hown hn hlt h1 b hb (fun e => hbv (by rw [e]; rfl)) hnl h1n hbase
-- rows of pointers
theorem sizePtr : ∀ w, (Go.sizeOf 53).run Try.prog w = .ok 1 w := fun w => by
  obtain ⟨i0, hi0, hz0, hz1, hz2⟩ := info_parts Try.infoPtr
  simp [sizeOf, typeInfo, hi0, hz1]



end Go.Proofs.Ytnigfnikajejaab
