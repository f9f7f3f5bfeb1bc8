/- The walk of the law WindowNumbers. -/
import Derived.Test.YtjkjejconcggpaaWiG
namespace Go.Proofs.Ytjkjejconcggpaa
open Go Go.RowKit

/-- Take, and Add, of both sides at once: one answer, none of its parts not a number. -/
theorem take_both {x y : Nat} {r : Bool} {a b : Nat} (h : Win x y r a b) (n : Int) : ∃ (p q : Nat) (ok : Bool),
    (∀ w, Calls Try.prog 13 #[.complex .f64 x y, .int .i64 n] w fun e w' => e = .returned (.tuple #[.complex .f64 p q, .bool ok]) ∧ w' = w) ∧
    (∀ w, Calls Try.prog 14 #[.complex .f64 x y, .int .i64 n] w fun e w' => e = .returned (.tuple #[.complex .f64 p q, .bool ok]) ∧ w' = w) ∧
    FloatKind.f64.format.order p p = some .eq ∧ FloatKind.f64.format.order q q = some .eq := by
  have q0 : FloatKind.f64.format.order 0 0 = some .eq := by rw [zero_nb]; exact ord_refl 0 (by omega)
  by_cases hc : r = false ∨ n < 0 ∨ (a : Int) < n
  · exact ⟨0, 0, false, fun w => take_no h n hc w, fun w => rtake_no h n hc w, q0, q0⟩
  · have hr : r = true := by
      cases r
      · exact absurd (.inl rfl) hc
      · rfl
    subst hr
    obtain ⟨k, rfl⟩ : ∃ k : Nat, n = (k : Int) := ⟨n.toNat, by omega⟩
    obtain ⟨_, _, ha, h1, h2⟩ := h.right rfl
    exact ⟨nb (a - k), nb b, true, fun w => take_yes h k (by omega) w, fun w => rtake_yes h k (by omega) w, ord_refl _ (by omega), ord_refl _ (by omega)⟩
theorem add_both {x y : Nat} {r : Bool} {a b : Nat} (h : Win x y r a b) (n : Int) : ∃ (p q : Nat) (ok : Bool),
    (∀ w, Calls Try.prog 15 #[.complex .f64 x y, .int .i64 n] w fun e w' => e = .returned (.tuple #[.complex .f64 p q, .bool ok]) ∧ w' = w) ∧
    (∀ w, Calls Try.prog 16 #[.complex .f64 x y, .int .i64 n] w fun e w' => e = .returned (.tuple #[.complex .f64 p q, .bool ok]) ∧ w' = w) ∧
    FloatKind.f64.format.order p p = some .eq ∧ FloatKind.f64.format.order q q = some .eq := by
  have q0 : FloatKind.f64.format.order 0 0 = some .eq := by rw [zero_nb]; exact ord_refl 0 (by omega)
  by_cases hc : r = false ∨ n < 0 ∨ (4294967295 : Int) - (a : Int) < n
  · exact ⟨0, 0, false, fun w => add_no h n hc w, fun w => radd_no h n hc w, q0, q0⟩
  · have hr : r = true := by
      cases r
      · exact absurd (.inl rfl) hc
      · rfl
    subst hr
    obtain ⟨k, rfl⟩ : ∃ k : Nat, n = (k : Int) := ⟨n.toNat, by omega⟩
    obtain ⟨_, _, ha, h1, h2⟩ := h.right rfl
    exact ⟨nb (a + k), nb b, true, fun w => add_yes h k (by omega) w, fun w => radd_yes h k (by omega) w, ord_refl _ (by omega), ord_refl _ (by omega)⟩

/-- A window that is not right, told by its words. -/
theorem win_no (x y : Nat) (n m : Int) (h1 : (Ieee.double.read x).isNaN = false) (h2 : (Ieee.double.read y).isNaN = false) (h3 : rB x y = false) (h4 : floatToIntVal .f64 x .i64 = some n) (h5 : floatToIntVal .f64 y .i64 = some m) (h6 : qB x y n m = false) : Win x y false 0 0 :=
  ⟨h1, h2, h3, ⟨n, m, h4, h5, h6⟩, (fun h => by cases h), fun _ => ⟨rfl, rfl⟩⟩

def winL : List (Nat × Nat) := [(0, 0), (4607182418800017408, 0), (4617315517961601024, 4611686018427387904), (0, 4607182418800017408), (13830554455654793216, 4617315517961601024), (4602678819172646912, 4607182418800017408), (4607182418800017408, 4602678819172646912), (4751297606873776128, 4674736413210574848), (4751297606875873280, 4607182418800017408), (4617315517961601024, 4674736550649528320), (4617315517961601024, 13830554455654793216)]
theorem win0 : Win 0 0 false 0 0 :=
  win_no 0 0 (0) (0) (by decide +kernel) (by decide +kernel) (by decide +kernel) (by decide +kernel) (by decide +kernel) (by decide +kernel)
theorem win1 : Win 4607182418800017408 0 false 0 0 :=
  win_no 4607182418800017408 0 (1) (0) (by decide +kernel) (by decide +kernel) (by decide +kernel) (by decide +kernel) (by decide +kernel) (by decide +kernel)
theorem win2 : Win 4617315517961601024 4611686018427387904 true 5 2 := by
  have e1 : 4617315517961601024 = nb 5 := by decide +kernel
  have e2 : 4611686018427387904 = nb 2 := by decide +kernel
  rw [e1, e2]
  exact Win.mk' 5 2 (by omega) (by omega) (by omega)
theorem win3 : Win 0 4607182418800017408 true 0 1 := by
  have e1 : 0 = nb 0 := by decide +kernel
  have e2 : 4607182418800017408 = nb 1 := by decide +kernel
  rw [e1, e2]
  exact Win.mk' 0 1 (by omega) (by omega) (by omega)
theorem win4 : Win 13830554455654793216 4617315517961601024 false 0 0 :=
  win_no 13830554455654793216 4617315517961601024 (-1) (5) (by decide +kernel) (by decide +kernel) (by decide +kernel) (by decide +kernel) (by decide +kernel) (by decide +kernel)
theorem win5 : Win 4602678819172646912 4607182418800017408 false 0 0 :=
  win_no 4602678819172646912 4607182418800017408 (0) (1) (by decide +kernel) (by decide +kernel) (by decide +kernel) (by decide +kernel) (by decide +kernel) (by decide +kernel)
theorem win6 : Win 4607182418800017408 4602678819172646912 false 0 0 :=
  win_no 4607182418800017408 4602678819172646912 (1) (0) (by decide +kernel) (by decide +kernel) (by decide +kernel) (by decide +kernel) (by decide +kernel) (by decide +kernel)
theorem win7 : Win 4751297606873776128 4674736413210574848 true 4294967295 32768 := by
  have e1 : 4751297606873776128 = nb 4294967295 := by decide +kernel
  have e2 : 4674736413210574848 = nb 32768 := by decide +kernel
  rw [e1, e2]
  exact Win.mk' 4294967295 32768 (by omega) (by omega) (by omega)
theorem win8 : Win 4751297606875873280 4607182418800017408 false 0 0 :=
  win_no 4751297606875873280 4607182418800017408 (4294967296) (1) (by decide +kernel) (by decide +kernel) (by decide +kernel) (by decide +kernel) (by decide +kernel) (by decide +kernel)
theorem win9 : Win 4617315517961601024 4674736550649528320 false 0 0 :=
  win_no 4617315517961601024 4674736550649528320 (5) (32769) (by decide +kernel) (by decide +kernel) (by decide +kernel) (by decide +kernel) (by decide +kernel) (by decide +kernel)
theorem win10 : Win 4617315517961601024 13830554455654793216 false 0 0 :=
  win_no 4617315517961601024 13830554455654793216 (5) (-1) (by decide +kernel) (by decide +kernel) (by decide +kernel) (by decide +kernel) (by decide +kernel) (by decide +kernel)
theorem winL_win (i : Nat) (h : i < 11) : ∃ (x y : Nat) (r : Bool) (a b : Nat), winL[i]? = some (x, y) ∧ Win x y r a b := by
  match i, h with
  | 0, _ => exact ⟨_, _, _, _, _, rfl, win0⟩
  | 1, _ => exact ⟨_, _, _, _, _, rfl, win1⟩
  | 2, _ => exact ⟨_, _, _, _, _, rfl, win2⟩
  | 3, _ => exact ⟨_, _, _, _, _, rfl, win3⟩
  | 4, _ => exact ⟨_, _, _, _, _, rfl, win4⟩
  | 5, _ => exact ⟨_, _, _, _, _, rfl, win5⟩
  | 6, _ => exact ⟨_, _, _, _, _, rfl, win6⟩
  | 7, _ => exact ⟨_, _, _, _, _, rfl, win7⟩
  | 8, _ => exact ⟨_, _, _, _, _, rfl, win8⟩
  | 9, _ => exact ⟨_, _, _, _, _, rfl, win9⟩
  | 10, _ => exact ⟨_, _, _, _, _, rfl, win10⟩
def ccells (l : List (Nat × Nat)) : List Value := l.map fun t => Value.complex .f64 t.1 t.2
def nums9 : List Int := [-1, 0, 1, 5, 6, 4294967295, 4294967296, 9223372036854775807, -9223372036854775808]
def zcells (l : List Int) : List Value := l.map fun z => Value.int .i64 z
theorem cell_cc {w : World} {g : Nat} {l : List (Nat × Nat)} (h : w.heap[g]? = some (.cells (ccells l).toArray 22 (0, 0))) {i x y : Nat} (hi : l[i]? = some (x, y)) : w.cell? ⟨g, i, none⟩ = some (.complex .f64 x y) := by
  rw [cell_row h]
  simp [ccells, hi]
theorem cell_z {w : World} {g : Nat} {l : List Int} (h : w.heap[g]? = some (.cells (zcells l).toArray 2 (0, 0))) {i : Nat} {z : Int} (hi : l[i]? = some z) : w.cell? ⟨g, i, none⟩ = some (.int .i64 z) := by
  rw [cell_row h]
  simp [zcells, hi]

set_option maxHeartbeats 3200000 in
set_option maxRecDepth 100000 in
theorem windowNumbers_c (w : World) :
    Calls Try.prog 3 #[] w fun e w' => e = .returned (.bool true) ∧ Below w.heap.size w w' := by
  have o3 : ∀ w, Calls Try.prog 17 #[.int .i64 3, .int .i64 1099511627776] w fun e w' => e = .returned (.complex .f64 4613937818241073152 4674736413210574848) ∧ w' = w := by
    intro w
    have e1 : floatOfInt .f64 3 = 4613937818241073152 := by decide +kernel
    have e2 : floatOfInt .f64 32768 = 4674736413210574848 := by decide +kernel
    rw [← e1, ← e2]
    go_enter Try.func17, Try.ntmps17
    go_wp2
    go_ret
    exact ⟨rfl, rfl⟩
  have q3 : FloatKind.f64.format.order 4613937818241073152 4613937818241073152 = some .eq := by decide +kernel
  have q4 : FloatKind.f64.format.order 4674736413210574848 4674736413210574848 = some .eq := by decide +kernel
  have O3 := hidden o3
  have Q3 := hidden q3
  have Q4 := hidden q4
  clear o3 q3 q4
  go_enter Try.func3, Try.ntmps3
  go_wp2_with fail
  have hw1 : Below w.heap.size w (w.alloc (.cells (ccells winL).toArray 22)) := (Below.refl _ w).alloc (by omega) _
  have hg1 : (w.alloc (.cells (ccells winL).toArray 22)).heap[w.heap.size]? = some (.cells (ccells winL).toArray 22 (0, 0)) := heap_alloc_new w _
  change Code.wp _ _ _ _ (w.alloc (.cells (ccells winL).toArray 22))
  generalize w.alloc (.cells (ccells winL).toArray 22) = w1 at hw1 hg1 ⊢
  have HW1 := hidden hw1
  have HG1 := hidden hg1
  clear hw1 hg1
  go_loopw [15] (fun i wr => ∃ j : Nat, j ≤ 11 ∧ i = .int .i64 (j : Int) ∧ wr.heap[w.heap.size]? = some (.cells (ccells winL).toArray 22 (0, 0)) ∧ Below w.heap.size w wr) (fun i _ => 11 - (intOf i).toNat)
  case atStart => exact ⟨0, by omega, rfl, HG1.out, HW1.out⟩
  case round =>
    clear HG1 HW1
    obtain ⟨wo, ew⟩ : ∃ x, x = wr := ⟨wr, rfl⟩
    subst ew
    obtain ⟨j, hj, rfl, hg, hb⟩ := hrel
    by_cases hlt : j < 11
    · have hlt' : (j : Int) < 11 := by omega
      obtain ⟨x, y, r, a, b, hxy, W⟩ := winL_win j hlt
      have hcell := cell_cc hg hxy
      have HG := hidden hg
      have HB := hidden hb
      have HW := hidden W
      clear hg hb hxy W
      go_wp2_with fail
      refine (right_w HW.out _).mono ?_
      rintro e w2 ⟨rfl, rfl⟩
      go_wp2_with fail
      refine (rright_w HW.out _).mono ?_
      rintro e w3 ⟨rfl, rfl⟩
      go_wp2_with fail
      refine (left_w HW.out _).mono ?_
      rintro e w4 ⟨rfl, rfl⟩
      go_wp2_with fail
      refine (rleft_w HW.out _).mono ?_
      rintro e w5 ⟨rfl, rfl⟩
      go_wp2_with fail
      refine (most_w HW.out _).mono ?_
      rintro e w6 ⟨rfl, rfl⟩
      go_wp2_with fail
      refine (rmost_w HW.out _).mono ?_
      rintro e w7 ⟨rfl, rfl⟩
      clear hcell
      go_wp2_with fail
      have hw8 : Below w7.heap.size w7 (w7.alloc (.cells (zcells nums9).toArray 2)) := (Below.refl _ w7).alloc (by omega) _
      have hg8 : (w7.alloc (.cells (zcells nums9).toArray 2)).heap[w7.heap.size]? = some (.cells (zcells nums9).toArray 2 (0, 0)) := heap_alloc_new w7 _
      change Code.wp _ _ _ _ (w7.alloc (.cells (zcells nums9).toArray 2))
      generalize w7.alloc (.cells (zcells nums9).toArray 2) = w8 at hw8 hg8 ⊢
      have hlt7 := lt_of_block HG.out
      have HG8 := hidden ((hw8.block w.heap.size hlt7).trans HG.out)
      have HB8 := hidden (HB.out.trans (hw8.mono HB.out.size))
      have HZ8 := hidden hg8
      have HL7 := hidden hlt7
      clear hw8 hg8 hlt7
      go_loopw [40] (fun i wq => ∃ l : Nat, l ≤ 9 ∧ i = .int .i64 (l : Int) ∧ wq = w8) (fun i _ => 9 - (intOf i).toNat)
      case atStart => exact ⟨0, by omega, rfl, rfl⟩
      case round =>
        obtain ⟨l, hl, rfl, rfl⟩ := hrel
        by_cases hll : l < 9
        · have hll' : (l : Int) < 9 := by omega
          obtain ⟨z, hz⟩ : ∃ z, nums9[l]? = some z := ⟨_, List.getElem?_eq_getElem (by simpa [nums9] using hll)⟩
          have hcell := cell_z HZ8.out hz
          obtain ⟨tp, tq, tk, t1, t2, o1, o2⟩ := take_both HW.out z
          obtain ⟨ap, aq, ak, a1, a2, o3, o4⟩ := add_both HW.out z
          have T1 := hidden t1
          have T2 := hidden t2
          have A1 := hidden a1
          have A2 := hidden a2
          clear t1 t2 a1 a2 hz
          go_wp2_with fail
          refine (T1.out _).mono ?_
          rintro e w9 ⟨rfl, rfl⟩
          go_wp2_with fail
          refine (T2.out _).mono ?_
          rintro e w10 ⟨rfl, rfl⟩
          go_wp2_with fail
          refine (A1.out _).mono ?_
          rintro e w11 ⟨rfl, rfl⟩
          go_wp2_with fail
          refine (A2.out _).mono ?_
          rintro e w12 ⟨rfl, rfl⟩
          go_wp2_with fail
          refine ⟨⟨l + 1, by omega, by go_num, trivial⟩, ?_⟩
          simp [intOf]; omega
        · have hll' : ¬ (l : Int) < 9 := by omega
          go_wp2_with fail
          refine ⟨⟨j + 1, by omega, by go_num, HG8.out, HB8.out⟩, ?_⟩
          simp [intOf]; omega
    · have hlt' : ¬ (j : Int) < 11 := by omega
      have HB := hidden hb
      clear hg hb
      go_wp2_with fail
      refine (O3.out _).mono ?_
      rintro e w2 ⟨rfl, rfl⟩
      have q3 := Q3.out
      have q4 := Q4.out
      go_wp2_with fail
      refine (known_c _).mono ?_
      rintro e w3 ⟨rfl, hb⟩
      have HB3 := hidden (HB.out.trans (hb.mono HB.out.size))
      clear hb HB
      go_wp2_with fail
      go_ret
      exact ⟨rfl, HB3.out⟩
end Go.Proofs.Ytjkjejconcggpaa
