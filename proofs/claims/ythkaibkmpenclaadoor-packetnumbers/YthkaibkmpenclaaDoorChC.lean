/- The document's quarter round. -/
import Derived.Test.YthkaibkmpenclaaDoorChB
namespace Go.Proofs.YthkaibkmpenclaaDoor
open Go Go.RowKit

theorem sets_eq (L : List Int) (a b c d : Nat) (h1 : a < 4) (h2 : 4 ≤ b) (h3 : b < 8) (h4 : 8 ≤ c) (h5 : c < 12) (h6 : 12 ≤ d) (y1 y2 y3 y4 y5 y6 y7 y8 : Int) :
    (((((((L.set a y1).set d y2).set c y3).set b y4).set a y5).set d y6).set c y7).set b y8 = (((L.set a y5).set b y8).set c y7).set d y6 := by
  apply List.ext_getElem (by simp)
  intro i h7 h8
  simp only [List.getElem_set]
  by_cases ha : a = i
  · have : b ≠ i := by omega
    have : c ≠ i := by omega
    have : d ≠ i := by omega
    simp_all
  · by_cases hb : b = i
    · have : c ≠ i := by omega
      have : d ≠ i := by omega
      simp_all
    · by_cases hc : c = i
      · have : d ≠ i := by omega
        simp_all
      · by_cases hd : d = i <;> simp_all
theorem getD_set_at {L : List Int} {i : Nat} {x : Int} (h : i < L.length) : (L.set i x).getD i 0 = x := by simp [h]
theorem getD_set_off {L : List Int} {i j : Nat} {x : Int} (h : i ≠ j) : (L.set i x).getD j 0 = L.getD j 0 := by simp [h]

set_option maxHeartbeats 1600000 in
set_option maxRecDepth 100000 in
theorem rquarter_c (a b c d g : Nat) (h1 : a < 4) (h2 : 4 ≤ b) (h3 : b < 8) (h4 : 8 ≤ c) (h5 : c < 12) (h6 : 12 ≤ d) (h7 : d < 16) (L : List Int) (hL : L.length = 16) (w : World) (h : WB w g 97 L) :
    Calls Tryd.prog 83 #[.pointer (some ⟨g, 0, none⟩), .int .i64 a, .int .i64 b, .int .i64 c, .int .i64 d] w fun e w' => e = .returned (.tuple #[]) ∧ WB w' g 97 (quarterAt L a b c d) ∧ Keeps (fun k => k = g) w w' := by
  have hc0a := h.cell a (by omega)
  have hc0b := h.cell b (by omega)
  have hc0c := h.cell c (by omega)
  have hc0d := h.cell d (by omega)
  have fz0 := h.frozen
  have HE : Hid (∀ y, y = quarterAt L a b c d → y = quarterAt L a b c d) := fun _ h => h
  have HQ : Hid (quarterAt L a b c d = (((L.set a (qa (L.getD a 0) (L.getD b 0) (L.getD c 0) (L.getD d 0))).set b (qb (L.getD a 0) (L.getD b 0) (L.getD c 0) (L.getD d 0))).set c (qc (L.getD a 0) (L.getD b 0) (L.getD c 0) (L.getD d 0))).set d (qd (L.getD a 0) (L.getD b 0) (L.getD c 0) (L.getD d 0))) := rfl
  clear HE
  generalize L.getD a 0 = xa at hc0a HQ
  generalize L.getD b 0 = xb at hc0b HQ
  generalize L.getD c 0 = xc at hc0c HQ
  generalize L.getD d 0 = xd at hc0d HQ
  have HW0 : Hid (WB w g 97 L) := h
  have HK0 : Hid (Keeps (fun k => k = g) w w) := Keeps.refl _ _
  have HL0 : Hid (L.length = 16) := hL
  have HSE : Hid (∀ y1 y2 y3 y4 y5 y6 y7 y8, (((((((L.set a y1).set d y2).set c y3).set b y4).set a y5).set d y6).set c y7).set b y8 = (((L.set a y5).set b y8).set c y7).set d y6) := fun y1 y2 y3 y4 y5 y6 y7 y8 => sets_eq L a b c d h1 h2 h3 h4 h5 h6 y1 y2 y3 y4 y5 y6 y7 y8
  clear h hL
  go_enter Tryd.func83, Tryd.ntmps83
  go_wp2_with fail
  obtain ⟨w0, e0⟩ : ∃ x, x = w := ⟨w, rfl⟩
  obtain ⟨L0, l0⟩ : ∃ x, x = L := ⟨L, rfl⟩
  have HLe : Hid (L0 = L) := l0
  clear l0
  -- step 1
  refine region_ord [0,1,2,3,4,5,7,8,9,10,13,6,11,12,14,15] (by kernel_rfl) (by kernel_rfl) fun N9 H9 => ?_
  simp only [List.filterMap_cons, List.filterMap_nil, List.getElem?_toArray, List.getElem?_cons_succ, List.getElem?_cons_zero]
  go_wp2_with fail
  have hw1 : WB ((w.setCell ⟨g, a, none⟩ (.int .u32 ((xa + xb) % 4294967296))).drew) g 97 (L.set a ((xa + xb) % 4294967296)) := (HW0.out.set a _).drew
  have hk1 : Keeps (fun k => k = g) w ((w.setCell ⟨g, a, none⟩ (.int .u32 ((xa + xb) % 4294967296))).drew) := (HK0.out.setCell (.inl rfl) _).drew
  have HL1 : Hid ((L.set a ((xa + xb) % 4294967296)).length = 16) := by show _ = 16; rw [List.length_set]; exact HL0.out
  generalize hY1 : (xa + xb) % 4294967296 = y1 at hw1 hk1 HL1 ⊢
  have Y1 := hidden hY1
  clear hY1
  have hc1a : ((w.setCell ⟨g, a, none⟩ (.int .u32 y1)).drew).cell? ⟨g, a, none⟩ = some (.int .u32 y1) := by rw [hw1.cell a (by rw [HL1.out]; omega), getD_set_at (by rw [HL0.out]; omega)]
  have hc1b : ((w.setCell ⟨g, a, none⟩ (.int .u32 y1)).drew).cell? ⟨g, b, none⟩ = some (.int .u32 xb) := by
    rw [hw1.cell b (by rw [HL1.out]; omega), getD_set_off (by omega), ← HW0.out.cell b (by rw [HL0.out]; omega)] <;> exact hc0b
  have hc1c : ((w.setCell ⟨g, a, none⟩ (.int .u32 y1)).drew).cell? ⟨g, c, none⟩ = some (.int .u32 xc) := by
    rw [hw1.cell c (by rw [HL1.out]; omega), getD_set_off (by omega), ← HW0.out.cell c (by rw [HL0.out]; omega)] <;> exact hc0c
  have hc1d : ((w.setCell ⟨g, a, none⟩ (.int .u32 y1)).drew).cell? ⟨g, d, none⟩ = some (.int .u32 xd) := by
    rw [hw1.cell d (by rw [HL1.out]; omega), getD_set_off (by omega), ← HW0.out.cell d (by rw [HL0.out]; omega)] <;> exact hc0d
  have fz1 := hw1.frozen
  generalize (w.setCell ⟨g, a, none⟩ (.int .u32 y1)).drew = w1 at hw1 hk1 fz1 hc1a hc1b hc1c hc1d ⊢
  have HW1 := hidden hw1
  have HK1 := hidden hk1
  clear hw1 hk1 hc0a hc0b hc0c hc0d fz0
  -- step 2
  refine region_ord [0,1,2,3,4,5,7,8,9,10,14,6,11,12,13,15,16] (by kernel_rfl) (by kernel_rfl) fun N9 H9 => ?_
  simp only [List.filterMap_cons, List.filterMap_nil, List.getElem?_toArray, List.getElem?_cons_succ, List.getElem?_cons_zero]
  go_wp2_with (go_at_call 89; refine (turn16_c _ _).mono ?_; rintro e w9 ⟨rfl, rfl⟩)
  have hw2 : WB ((w1.setCell ⟨g, d, none⟩ (.int .u32 (r16 (bits BinOp.xor IntKind.u32 xd y1)))).drew) g 97 ((L.set a y1).set d (r16 (bits BinOp.xor IntKind.u32 xd y1))) := (HW1.out.set d _).drew
  have hk2 : Keeps (fun k => k = g) w ((w1.setCell ⟨g, d, none⟩ (.int .u32 (r16 (bits BinOp.xor IntKind.u32 xd y1)))).drew) := (HK1.out.setCell (.inl rfl) _).drew
  have HL2 : Hid (((L.set a y1).set d (r16 (bits BinOp.xor IntKind.u32 xd y1))).length = 16) := by show _ = 16; rw [List.length_set]; exact HL1.out
  generalize hY2 : r16 (bits BinOp.xor IntKind.u32 xd y1) = y2 at hw2 hk2 HL2 ⊢
  have Y2 := hidden hY2
  clear hY2
  have hc2d : ((w1.setCell ⟨g, d, none⟩ (.int .u32 y2)).drew).cell? ⟨g, d, none⟩ = some (.int .u32 y2) := by rw [hw2.cell d (by rw [HL2.out]; omega), getD_set_at (by rw [HL1.out]; omega)]
  have hc2a : ((w1.setCell ⟨g, d, none⟩ (.int .u32 y2)).drew).cell? ⟨g, a, none⟩ = some (.int .u32 y1) := by
    rw [hw2.cell a (by rw [HL2.out]; omega), getD_set_off (by omega), ← HW1.out.cell a (by rw [HL1.out]; omega)] <;> exact hc1a
  have hc2b : ((w1.setCell ⟨g, d, none⟩ (.int .u32 y2)).drew).cell? ⟨g, b, none⟩ = some (.int .u32 xb) := by
    rw [hw2.cell b (by rw [HL2.out]; omega), getD_set_off (by omega), ← HW1.out.cell b (by rw [HL1.out]; omega)] <;> exact hc1b
  have hc2c : ((w1.setCell ⟨g, d, none⟩ (.int .u32 y2)).drew).cell? ⟨g, c, none⟩ = some (.int .u32 xc) := by
    rw [hw2.cell c (by rw [HL2.out]; omega), getD_set_off (by omega), ← HW1.out.cell c (by rw [HL1.out]; omega)] <;> exact hc1c
  have fz2 := hw2.frozen
  generalize (w1.setCell ⟨g, d, none⟩ (.int .u32 y2)).drew = w2 at hw2 hk2 fz2 hc2a hc2b hc2c hc2d ⊢
  have HW2 := hidden hw2
  have HK2 := hidden hk2
  clear hw2 hk2 hc1a hc1b hc1c hc1d fz1
  -- step 3
  refine region_ord [0,1,2,3,4,5,7,8,9,10,13,6,11,12,14,15] (by kernel_rfl) (by kernel_rfl) fun N9 H9 => ?_
  simp only [List.filterMap_cons, List.filterMap_nil, List.getElem?_toArray, List.getElem?_cons_succ, List.getElem?_cons_zero]
  go_wp2_with fail
  have hw3 : WB ((w2.setCell ⟨g, c, none⟩ (.int .u32 ((xc + y2) % 4294967296))).drew) g 97 (((L.set a y1).set d y2).set c ((xc + y2) % 4294967296)) := (HW2.out.set c _).drew
  have hk3 : Keeps (fun k => k = g) w ((w2.setCell ⟨g, c, none⟩ (.int .u32 ((xc + y2) % 4294967296))).drew) := (HK2.out.setCell (.inl rfl) _).drew
  have HL3 : Hid ((((L.set a y1).set d y2).set c ((xc + y2) % 4294967296)).length = 16) := by show _ = 16; rw [List.length_set]; exact HL2.out
  generalize hY3 : (xc + y2) % 4294967296 = y3 at hw3 hk3 HL3 ⊢
  have Y3 := hidden hY3
  clear hY3
  have hc3c : ((w2.setCell ⟨g, c, none⟩ (.int .u32 y3)).drew).cell? ⟨g, c, none⟩ = some (.int .u32 y3) := by rw [hw3.cell c (by rw [HL3.out]; omega), getD_set_at (by rw [HL2.out]; omega)]
  have hc3a : ((w2.setCell ⟨g, c, none⟩ (.int .u32 y3)).drew).cell? ⟨g, a, none⟩ = some (.int .u32 y1) := by
    rw [hw3.cell a (by rw [HL3.out]; omega), getD_set_off (by omega), ← HW2.out.cell a (by rw [HL2.out]; omega)] <;> exact hc2a
  have hc3b : ((w2.setCell ⟨g, c, none⟩ (.int .u32 y3)).drew).cell? ⟨g, b, none⟩ = some (.int .u32 xb) := by
    rw [hw3.cell b (by rw [HL3.out]; omega), getD_set_off (by omega), ← HW2.out.cell b (by rw [HL2.out]; omega)] <;> exact hc2b
  have hc3d : ((w2.setCell ⟨g, c, none⟩ (.int .u32 y3)).drew).cell? ⟨g, d, none⟩ = some (.int .u32 y2) := by
    rw [hw3.cell d (by rw [HL3.out]; omega), getD_set_off (by omega), ← HW2.out.cell d (by rw [HL2.out]; omega)] <;> exact hc2d
  have fz3 := hw3.frozen
  generalize (w2.setCell ⟨g, c, none⟩ (.int .u32 y3)).drew = w3 at hw3 hk3 fz3 hc3a hc3b hc3c hc3d ⊢
  have HW3 := hidden hw3
  have HK3 := hidden hk3
  clear hw3 hk3 hc2a hc2b hc2c hc2d fz2
  -- step 4
  refine region_ord [0,1,2,3,4,5,7,8,9,10,14,6,11,12,13,15,16] (by kernel_rfl) (by kernel_rfl) fun N9 H9 => ?_
  simp only [List.filterMap_cons, List.filterMap_nil, List.getElem?_toArray, List.getElem?_cons_succ, List.getElem?_cons_zero]
  go_wp2_with (go_at_call 89; refine (turn12_c _ _).mono ?_; rintro e w9 ⟨rfl, rfl⟩)
  have hw4 : WB ((w3.setCell ⟨g, b, none⟩ (.int .u32 (r12 (bits BinOp.xor IntKind.u32 xb y3)))).drew) g 97 ((((L.set a y1).set d y2).set c y3).set b (r12 (bits BinOp.xor IntKind.u32 xb y3))) := (HW3.out.set b _).drew
  have hk4 : Keeps (fun k => k = g) w ((w3.setCell ⟨g, b, none⟩ (.int .u32 (r12 (bits BinOp.xor IntKind.u32 xb y3)))).drew) := (HK3.out.setCell (.inl rfl) _).drew
  have HL4 : Hid (((((L.set a y1).set d y2).set c y3).set b (r12 (bits BinOp.xor IntKind.u32 xb y3))).length = 16) := by show _ = 16; rw [List.length_set]; exact HL3.out
  generalize hY4 : r12 (bits BinOp.xor IntKind.u32 xb y3) = y4 at hw4 hk4 HL4 ⊢
  have Y4 := hidden hY4
  clear hY4
  have hc4b : ((w3.setCell ⟨g, b, none⟩ (.int .u32 y4)).drew).cell? ⟨g, b, none⟩ = some (.int .u32 y4) := by rw [hw4.cell b (by rw [HL4.out]; omega), getD_set_at (by rw [HL3.out]; omega)]
  have hc4a : ((w3.setCell ⟨g, b, none⟩ (.int .u32 y4)).drew).cell? ⟨g, a, none⟩ = some (.int .u32 y1) := by
    rw [hw4.cell a (by rw [HL4.out]; omega), getD_set_off (by omega), ← HW3.out.cell a (by rw [HL3.out]; omega)] <;> exact hc3a
  have hc4c : ((w3.setCell ⟨g, b, none⟩ (.int .u32 y4)).drew).cell? ⟨g, c, none⟩ = some (.int .u32 y3) := by
    rw [hw4.cell c (by rw [HL4.out]; omega), getD_set_off (by omega), ← HW3.out.cell c (by rw [HL3.out]; omega)] <;> exact hc3c
  have hc4d : ((w3.setCell ⟨g, b, none⟩ (.int .u32 y4)).drew).cell? ⟨g, d, none⟩ = some (.int .u32 y2) := by
    rw [hw4.cell d (by rw [HL4.out]; omega), getD_set_off (by omega), ← HW3.out.cell d (by rw [HL3.out]; omega)] <;> exact hc3d
  have fz4 := hw4.frozen
  generalize (w3.setCell ⟨g, b, none⟩ (.int .u32 y4)).drew = w4 at hw4 hk4 fz4 hc4a hc4b hc4c hc4d ⊢
  have HW4 := hidden hw4
  have HK4 := hidden hk4
  clear hw4 hk4 hc3a hc3b hc3c hc3d fz3
  -- step 5
  refine region_ord [0,1,2,3,4,5,7,8,9,10,13,6,11,12,14,15] (by kernel_rfl) (by kernel_rfl) fun N9 H9 => ?_
  simp only [List.filterMap_cons, List.filterMap_nil, List.getElem?_toArray, List.getElem?_cons_succ, List.getElem?_cons_zero]
  go_wp2_with fail
  have hw5 : WB ((w4.setCell ⟨g, a, none⟩ (.int .u32 ((y1 + y4) % 4294967296))).drew) g 97 (((((L.set a y1).set d y2).set c y3).set b y4).set a ((y1 + y4) % 4294967296)) := (HW4.out.set a _).drew
  have hk5 : Keeps (fun k => k = g) w ((w4.setCell ⟨g, a, none⟩ (.int .u32 ((y1 + y4) % 4294967296))).drew) := (HK4.out.setCell (.inl rfl) _).drew
  have HL5 : Hid ((((((L.set a y1).set d y2).set c y3).set b y4).set a ((y1 + y4) % 4294967296)).length = 16) := by show _ = 16; rw [List.length_set]; exact HL4.out
  generalize hY5 : (y1 + y4) % 4294967296 = y5 at hw5 hk5 HL5 ⊢
  have Y5 := hidden hY5
  clear hY5
  have hc5a : ((w4.setCell ⟨g, a, none⟩ (.int .u32 y5)).drew).cell? ⟨g, a, none⟩ = some (.int .u32 y5) := by rw [hw5.cell a (by rw [HL5.out]; omega), getD_set_at (by rw [HL4.out]; omega)]
  have hc5b : ((w4.setCell ⟨g, a, none⟩ (.int .u32 y5)).drew).cell? ⟨g, b, none⟩ = some (.int .u32 y4) := by
    rw [hw5.cell b (by rw [HL5.out]; omega), getD_set_off (by omega), ← HW4.out.cell b (by rw [HL4.out]; omega)] <;> exact hc4b
  have hc5c : ((w4.setCell ⟨g, a, none⟩ (.int .u32 y5)).drew).cell? ⟨g, c, none⟩ = some (.int .u32 y3) := by
    rw [hw5.cell c (by rw [HL5.out]; omega), getD_set_off (by omega), ← HW4.out.cell c (by rw [HL4.out]; omega)] <;> exact hc4c
  have hc5d : ((w4.setCell ⟨g, a, none⟩ (.int .u32 y5)).drew).cell? ⟨g, d, none⟩ = some (.int .u32 y2) := by
    rw [hw5.cell d (by rw [HL5.out]; omega), getD_set_off (by omega), ← HW4.out.cell d (by rw [HL4.out]; omega)] <;> exact hc4d
  have fz5 := hw5.frozen
  generalize (w4.setCell ⟨g, a, none⟩ (.int .u32 y5)).drew = w5 at hw5 hk5 fz5 hc5a hc5b hc5c hc5d ⊢
  have HW5 := hidden hw5
  have HK5 := hidden hk5
  clear hw5 hk5 hc4a hc4b hc4c hc4d fz4
  -- step 6
  refine region_ord [0,1,2,3,4,5,7,8,9,10,14,6,11,12,13,15,16] (by kernel_rfl) (by kernel_rfl) fun N9 H9 => ?_
  simp only [List.filterMap_cons, List.filterMap_nil, List.getElem?_toArray, List.getElem?_cons_succ, List.getElem?_cons_zero]
  go_wp2_with (go_at_call 89; refine (turn8_c _ _).mono ?_; rintro e w9 ⟨rfl, rfl⟩)
  have hw6 : WB ((w5.setCell ⟨g, d, none⟩ (.int .u32 (r8 (bits BinOp.xor IntKind.u32 y2 y5)))).drew) g 97 ((((((L.set a y1).set d y2).set c y3).set b y4).set a y5).set d (r8 (bits BinOp.xor IntKind.u32 y2 y5))) := (HW5.out.set d _).drew
  have hk6 : Keeps (fun k => k = g) w ((w5.setCell ⟨g, d, none⟩ (.int .u32 (r8 (bits BinOp.xor IntKind.u32 y2 y5)))).drew) := (HK5.out.setCell (.inl rfl) _).drew
  have HL6 : Hid (((((((L.set a y1).set d y2).set c y3).set b y4).set a y5).set d (r8 (bits BinOp.xor IntKind.u32 y2 y5))).length = 16) := by show _ = 16; rw [List.length_set]; exact HL5.out
  generalize hY6 : r8 (bits BinOp.xor IntKind.u32 y2 y5) = y6 at hw6 hk6 HL6 ⊢
  have Y6 := hidden hY6
  clear hY6
  have hc6d : ((w5.setCell ⟨g, d, none⟩ (.int .u32 y6)).drew).cell? ⟨g, d, none⟩ = some (.int .u32 y6) := by rw [hw6.cell d (by rw [HL6.out]; omega), getD_set_at (by rw [HL5.out]; omega)]
  have hc6a : ((w5.setCell ⟨g, d, none⟩ (.int .u32 y6)).drew).cell? ⟨g, a, none⟩ = some (.int .u32 y5) := by
    rw [hw6.cell a (by rw [HL6.out]; omega), getD_set_off (by omega), ← HW5.out.cell a (by rw [HL5.out]; omega)] <;> exact hc5a
  have hc6b : ((w5.setCell ⟨g, d, none⟩ (.int .u32 y6)).drew).cell? ⟨g, b, none⟩ = some (.int .u32 y4) := by
    rw [hw6.cell b (by rw [HL6.out]; omega), getD_set_off (by omega), ← HW5.out.cell b (by rw [HL5.out]; omega)] <;> exact hc5b
  have hc6c : ((w5.setCell ⟨g, d, none⟩ (.int .u32 y6)).drew).cell? ⟨g, c, none⟩ = some (.int .u32 y3) := by
    rw [hw6.cell c (by rw [HL6.out]; omega), getD_set_off (by omega), ← HW5.out.cell c (by rw [HL5.out]; omega)] <;> exact hc5c
  have fz6 := hw6.frozen
  generalize (w5.setCell ⟨g, d, none⟩ (.int .u32 y6)).drew = w6 at hw6 hk6 fz6 hc6a hc6b hc6c hc6d ⊢
  have HW6 := hidden hw6
  have HK6 := hidden hk6
  clear hw6 hk6 hc5a hc5b hc5c hc5d fz5
  -- step 7
  refine region_ord [0,1,2,3,4,5,7,8,9,10,13,6,11,12,14,15] (by kernel_rfl) (by kernel_rfl) fun N9 H9 => ?_
  simp only [List.filterMap_cons, List.filterMap_nil, List.getElem?_toArray, List.getElem?_cons_succ, List.getElem?_cons_zero]
  go_wp2_with fail
  have hw7 : WB ((w6.setCell ⟨g, c, none⟩ (.int .u32 ((y3 + y6) % 4294967296))).drew) g 97 (((((((L.set a y1).set d y2).set c y3).set b y4).set a y5).set d y6).set c ((y3 + y6) % 4294967296)) := (HW6.out.set c _).drew
  have hk7 : Keeps (fun k => k = g) w ((w6.setCell ⟨g, c, none⟩ (.int .u32 ((y3 + y6) % 4294967296))).drew) := (HK6.out.setCell (.inl rfl) _).drew
  have HL7 : Hid ((((((((L.set a y1).set d y2).set c y3).set b y4).set a y5).set d y6).set c ((y3 + y6) % 4294967296)).length = 16) := by show _ = 16; rw [List.length_set]; exact HL6.out
  generalize hY7 : (y3 + y6) % 4294967296 = y7 at hw7 hk7 HL7 ⊢
  have Y7 := hidden hY7
  clear hY7
  have hc7c : ((w6.setCell ⟨g, c, none⟩ (.int .u32 y7)).drew).cell? ⟨g, c, none⟩ = some (.int .u32 y7) := by rw [hw7.cell c (by rw [HL7.out]; omega), getD_set_at (by rw [HL6.out]; omega)]
  have hc7a : ((w6.setCell ⟨g, c, none⟩ (.int .u32 y7)).drew).cell? ⟨g, a, none⟩ = some (.int .u32 y5) := by
    rw [hw7.cell a (by rw [HL7.out]; omega), getD_set_off (by omega), ← HW6.out.cell a (by rw [HL6.out]; omega)] <;> exact hc6a
  have hc7b : ((w6.setCell ⟨g, c, none⟩ (.int .u32 y7)).drew).cell? ⟨g, b, none⟩ = some (.int .u32 y4) := by
    rw [hw7.cell b (by rw [HL7.out]; omega), getD_set_off (by omega), ← HW6.out.cell b (by rw [HL6.out]; omega)] <;> exact hc6b
  have hc7d : ((w6.setCell ⟨g, c, none⟩ (.int .u32 y7)).drew).cell? ⟨g, d, none⟩ = some (.int .u32 y6) := by
    rw [hw7.cell d (by rw [HL7.out]; omega), getD_set_off (by omega), ← HW6.out.cell d (by rw [HL6.out]; omega)] <;> exact hc6d
  have fz7 := hw7.frozen
  generalize (w6.setCell ⟨g, c, none⟩ (.int .u32 y7)).drew = w7 at hw7 hk7 fz7 hc7a hc7b hc7c hc7d ⊢
  have HW7 := hidden hw7
  have HK7 := hidden hk7
  clear hw7 hk7 hc6a hc6b hc6c hc6d fz6
  -- step 8
  refine region_ord [0,1,2,3,4,5,7,8,9,10,14,6,11,12,13,15,16] (by kernel_rfl) (by kernel_rfl) fun N9 H9 => ?_
  simp only [List.filterMap_cons, List.filterMap_nil, List.getElem?_toArray, List.getElem?_cons_succ, List.getElem?_cons_zero]
  go_wp2_with (go_at_call 89; refine (turn7_c _ _).mono ?_; rintro e w9 ⟨rfl, rfl⟩)
  have hw8 : WB ((w7.setCell ⟨g, b, none⟩ (.int .u32 (r7 (bits BinOp.xor IntKind.u32 y4 y7)))).drew) g 97 ((((((((L.set a y1).set d y2).set c y3).set b y4).set a y5).set d y6).set c y7).set b (r7 (bits BinOp.xor IntKind.u32 y4 y7))) := (HW7.out.set b _).drew
  have hk8 : Keeps (fun k => k = g) w ((w7.setCell ⟨g, b, none⟩ (.int .u32 (r7 (bits BinOp.xor IntKind.u32 y4 y7)))).drew) := (HK7.out.setCell (.inl rfl) _).drew
  have HL8 : Hid (((((((((L.set a y1).set d y2).set c y3).set b y4).set a y5).set d y6).set c y7).set b (r7 (bits BinOp.xor IntKind.u32 y4 y7))).length = 16) := by show _ = 16; rw [List.length_set]; exact HL7.out
  generalize hY8 : r7 (bits BinOp.xor IntKind.u32 y4 y7) = y8 at hw8 hk8 HL8 ⊢
  have Y8 := hidden hY8
  clear hY8
  go_end0
  refine ⟨rfl, ?_, hk8⟩
  have e8 : ((((((((L.set a y1).set d y2).set c y3).set b y4).set a y5).set d y6).set c y7).set b y8) = quarterAt L a b c d := by
    rw [HSE.out, HQ.out]
    have h5 : y5 = qa xa xb xc xd := by
      rw [← Y5.out, ← Y4.out, ← Y3.out, ← Y2.out, ← Y1.out]
      unfold qa qb1 qc1 qd1 qa1 xor32 add32
      rw [Int.emod_add_emod]
    have h6 : y6 = qd xa xb xc xd := by
      rw [← Y6.out, h5, ← Y2.out, ← Y1.out]
      rfl
    have h7 : y7 = qc xa xb xc xd := by
      rw [← Y7.out, h6, ← Y3.out, ← Y2.out, ← Y1.out]
      unfold qc qd1 qa1 xor32 add32
      rw [Int.emod_add_emod]
    have h8 : y8 = qb xa xb xc xd := by
      rw [← Y8.out, h7, ← Y4.out, ← Y3.out, ← Y2.out, ← Y1.out]
      rfl
    rw [h5, h6, h7, h8]
  rw [← e8]
  exact hw8

end Go.Proofs.YthkaibkmpenclaaDoor
