/- What both ends keep alike: the key and the count; what is asked of them. -/
import Derived.Test.YthkaibkmpenclaaDoorPkC
namespace Go.Proofs.YthkaibkmpenclaaDoor
open Go Go.RowKit

/-- At block g there are a key and a count. -/
structure LineS (w : World) (g : Nat) (key : List UInt8) (c : Nat) : Prop where
  ex : ∃ kv, w.cell? ⟨g, 0, none⟩ = some kv ∧ w.cell? ⟨g, 1, none⟩ = some (.int .u64 (c : Int)) ∧ BSl w kv key
  ok : KeyOk key
  le : c ≤ 1000000
theorem LineS.fresh {w w' : World} {g : Nat} {key : List UInt8} {c : Nat} (h : LineS w g key c) (hb : Below w.heap.size w w') : LineS w' g key c := by
  obtain ⟨⟨kv, h1, h2, h3⟩, h4, h5⟩ := h
  exact ⟨⟨kv, cell_kept h1 hb, cell_kept h2 hb, h3.fresh hb⟩, h4, h5⟩
set_option maxHeartbeats 400000 in
theorem sealed_c (w : World) {g : Nat} {key : List UInt8} {c : Nat} (h : LineS w g key c) :
    Calls Tryd.prog 47 #[.pointer (some ⟨g, 0, none⟩)] w fun e w' => e = .returned (.bool (decide (key ≠ []))) ∧ w' = w := by
  obtain ⟨⟨kv, h1, h2, h3⟩, h4, h5⟩ := h
  obtain ⟨ao, cap, rfl⟩ := h3.len
  by_cases hk : key = []
  · subst hk
    simp only [List.length_nil] at h1
    clear h3 h4
    go_enter Tryd.func47, Tryd.ntmps47
    go_wp2
    go_ret
    exact ⟨rfl, rfl⟩
  · have hd : decide (key ≠ []) = true := by simpa using hk
    rw [hd]
    have HL : Hid (decide (0 < key.length) = true) := by have := List.length_pos_iff.2 hk; show _ = _; simpa using this
    clear h3 h4 hk hd
    go_enter Tryd.func47, Tryd.ntmps47
    go_wp2
    go_ret
    exact ⟨by show Ending.returned (.bool (decide (0 < key.length))) = _; rw [HL.out], rfl⟩
set_option maxHeartbeats 400000 in
theorem behind_c (w : World) {g : Nat} {key : List UInt8} {c : Nat} (h : LineS w g key c) :
    Calls Tryd.prog 42 #[.pointer (some ⟨g, 0, none⟩)] w fun e w' => e = .returned (.int .i64 (tagN key : Nat)) ∧ w' = w := by
  have HS := hidden (sealed_c w h)
  clear h
  by_cases hk : key = []
  · rw [tagN, if_pos hk]
    rw [show decide (key ≠ []) = false by simpa using hk] at HS
    go_enter Tryd.func42, Tryd.ntmps42
    go_wp2_with fail
    refine HS.out.mono ?_
    rintro e w2 ⟨rfl, rfl⟩
    go_wp2
    go_ret
    exact ⟨rfl, rfl⟩
  · rw [tagN, if_neg hk]
    rw [show decide (key ≠ []) = true by simpa using hk] at HS
    go_enter Tryd.func42, Tryd.ntmps42
    go_wp2_with fail
    refine HS.out.mono ?_
    rintro e w2 ⟨rfl, rfl⟩
    go_wp2
    go_ret
    exact ⟨rfl, rfl⟩
set_option maxHeartbeats 400000 in
theorem fillsUnits_c (n : Nat) (hn : n ≤ 1000000) (w : World) {g : Nat} {key : List UInt8} {c : Nat} (h : LineS w g key c) :
    Calls Tryd.prog 46 #[.pointer (some ⟨g, 0, none⟩), .int .i64 (n : Int)] w fun e w' => e = .returned (.bool (decide ((hdN key + n) % 8 = 0))) ∧ w' = w := by
  have HS := hidden (sealed_c w h)
  clear h
  by_cases hk : key = []
  · rw [hdN, if_pos hk]
    rw [show decide (key ≠ []) = false by simpa using hk] at HS
    have HE : Hid (decide ((4 + n) % 8 = 0) = ((4 + (n : Int)) % 8 == 0)) := by
      show _ = _
      rw [Bool.eq_iff_iff]
      simp
      omega
    go_enter Tryd.func46, Tryd.ntmps46
    go_wp2_with fail
    refine HS.out.mono ?_
    rintro e w2 ⟨rfl, rfl⟩
    go_wp2
    go_ret
    exact ⟨by rw [HE.out]; rfl, rfl⟩
  · rw [hdN, if_neg hk, Nat.zero_add]
    rw [show decide (key ≠ []) = true by simpa using hk] at HS
    have HE : Hid (decide (n % 8 = 0) = ((n : Int) % 8 == 0)) := by
      show _ = _
      rw [Bool.eq_iff_iff]
      simp
      omega
    go_enter Tryd.func46, Tryd.ntmps46
    go_wp2_with fail
    refine HS.out.mono ?_
    rintro e w2 ⟨rfl, rfl⟩
    go_wp2
    go_ret
    exact ⟨by rw [HE.out]; rfl, rfl⟩
theorem made4 : ∃ Z, (∀ w : World, (Instr.makeSlice 22 (.int .i64 4) (.int .i64 4)).run Tryd.prog w = .ok (.slice (some ⟨w.heap.size, 0, none⟩) 4 4) (w.alloc (.cells Z 5))) ∧ ∀ w : World, (w.alloc (.cells Z 5)).ownsRow w.heap.size 5 1 (.slice (some ⟨w.heap.size, 0, none⟩) 4 4) 4 (bcells (List.replicate 4 0)) :=
  ⟨_, fun w => made_run 4 (by omega) w, fun w => by
    have h := own_block (base := w.heap.size) (heap_alloc_new w (.cells (bcells (List.replicate 4 0)).toArray 5)) (Nat.le_refl _) (by simp)
    rw [List.length_replicate] at h
    exact h⟩
set_option maxHeartbeats 400000 in
set_option maxRecDepth 100000 in
theorem nonce_c (w : World) {g : Nat} {key : List UInt8} {c : Nat} (h : LineS w g key c) :
    Calls Tryd.prog 49 #[.pointer (some ⟨g, 0, none⟩)] w fun e w' => Fresh w (nonceL c) e w' := by
  obtain ⟨⟨kv, h1, h2, h3⟩, h4, h5⟩ := h
  obtain ⟨Z, hm, hz⟩ := made4
  have HZ := hidden hz
  clear h1 h3 h4 hz
  have hlt := World.block_lt_of_cell? w _ h2
  have hA := hidden (fun (wx : World) (hb : Below w.heap.size w wx) => appendNumber_c c 8 (by omega) (by omega) _ (List.replicate 4 0) w (wx.alloc (.cells Z 5)) ⟨by have := HZ.out wx; exact ⟨this.1, this.2.imp_right fun ⟨g, cap, cur, e1, e2, e3⟩ => ⟨g, cap, cur, e1, Nat.le_trans hb.size e2, e3⟩⟩, hb.alloc hb.size _⟩ (by simp))
  go_enter Tryd.func49, Tryd.ntmps49
  go_wp2_with fail
  have hc2 : ∀ o, (w.alloc o).cell? ⟨g, 1, none⟩ = some (.int .u64 (c : Int)) := fun o => cell_kept h2 ((Below.refl _ w).alloc (Nat.le_refl _) o)
  go_region_with (go_at_call 30; refine (hA.out _ (Below.refl _ _).drew).mono ?_; rintro e w3 ⟨v3, rfl, ho3⟩)
  all_goals
    have HF := hidden ho3.fresh
    clear ho3
    go_wp2
    go_ret
    exact HF.out
end Go.Proofs.YthkaibkmpenclaaDoor
