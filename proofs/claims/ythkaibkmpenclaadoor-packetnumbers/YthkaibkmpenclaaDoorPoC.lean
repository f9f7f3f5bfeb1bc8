/- Bytes into limbs. -/
import Derived.Test.YthkaibkmpenclaaDoorPoB
namespace Go.Proofs.YthkaibkmpenclaaDoor
open Go Go.RowKit

/-- A number's limbs. -/
def L26 (V : Nat) : List Nat := [V % 67108864, V / 67108864 % 67108864, V / 4503599627370496 % 67108864, V / 302231454903657293676544 % 67108864, V / 20282409603651670423947251286016 % 67108864]
theorem L26_length (V : Nat) : (L26 V).length = 5 := rfl
theorem V5_L26 (V : Nat) (h : V < 1361129467683753853853498429727072845824) : V5 (L26 V) = V := by
  rw [L26, V5_list]
  omega
theorem or_low (x y s : Nat) (hx : x < 2 ^ s) (hy : y % 2 ^ s = 0) (hx2 : x ≤ 67108863) (hy2 : y ≤ 67108863) : bits BinOp.or IntKind.u64 (x : Int) (y : Int) = ((x + y : Nat) : Int) := by
  rw [u64_or_nat x y (by omega) (by omega), Nat.or_comm, nat_join s y x hy hx, Nat.add_comm]
theorem or_zero (y : Nat) (hy : y ≤ 67108863) : bits BinOp.or IntKind.u64 0 (y : Int) = (y : Int) := by
  have := u64_or_nat 0 y (by omega) (by omega)
  rw [show ((0 : Nat) : Int) = 0 from rfl] at this
  rw [this, Nat.zero_or]
theorem pb0 (V b : Nat) (hV : V < 1) (hb : b ≤ 255) : L26 (V + b * 1) = (((L26 V).set 0 ((L26 V).getD 0 0 + b * 1 % 67108864)).set 1 (b * 1 / 67108864)) := by
  have e0 : (V + b * 1) % 67108864 = (V % 67108864) + b * 1 % 67108864 := by omega
  have e1 : (V + b * 1) / 67108864 % 67108864 = b * 1 / 67108864 := by omega
  have e2 : (V + b * 1) / 4503599627370496 % 67108864 = V / 4503599627370496 % 67108864 := by omega
  have e3 : (V + b * 1) / 302231454903657293676544 % 67108864 = V / 302231454903657293676544 % 67108864 := by omega
  have e4 : (V + b * 1) / 20282409603651670423947251286016 % 67108864 = V / 20282409603651670423947251286016 % 67108864 := by omega
  show [(V + b * 1) % 67108864, (V + b * 1) / 67108864 % 67108864, (V + b * 1) / 4503599627370496 % 67108864, (V + b * 1) / 302231454903657293676544 % 67108864, (V + b * 1) / 20282409603651670423947251286016 % 67108864] = [(V % 67108864) + b * 1 % 67108864, b * 1 / 67108864, V / 4503599627370496 % 67108864, V / 302231454903657293676544 % 67108864, V / 20282409603651670423947251286016 % 67108864]
  rw [e0, e1, e2, e3, e4]
set_option maxHeartbeats 400000 in
set_option maxRecDepth 100000 in
theorem put0_c (g V b : Nat) (hV : V < 1) (hb : b ≤ 255) (w : World) (h : NB .u64 w g 103 (L26 V)) :
    Calls Tryd.prog 87 #[.pointer (some ⟨g, 0, none⟩), .int .i64 0, .int .u8 (b : Int)] w fun e w' => e = .returned (.tuple #[]) ∧ NB .u64 w' g 103 (L26 (V + b * 1)) ∧ Keeps (fun k => k = g) w w' := by
  have HP := hidden (pb0 V b hV hb)
  have H := hidden h
  have hc := h.cell 0 (by rw [L26_length]; omega)
  have hf := h.frozen
  have hx : (L26 V).getD 0 0 < 2 ^ 0 := by
    show V % 67108864 < 2 ^ 0
    omega
  obtain ⟨u, hu⟩ : ∃ u, u = b * 1 := ⟨_, rfl⟩
  have hu2 : (b : Int) = (u : Int) := by omega
  have hand := mask26 u (by omega)
  have hor := or_low ((L26 V).getD 0 0) (u % 67108864) 0 hx (by omega) (by omega) (by omega)
  rw [← hu] at HP
  have HU := hidden hu
  have hc2 : w.cell? ⟨g, 1, none⟩ = some (.int .u64 0) := by
    rw [h.cell 1 (by rw [L26_length]; omega)]
    show some (Value.int .u64 ((V / 67108864 % 67108864 : Nat) : Int)) = _
    rw [show V / 67108864 % 67108864 = 0 by omega]
    rfl
  have hor2 := or_zero (u / 67108864) (by omega)
  have hdiv : (u : Int) / 67108864 = ((u / 67108864 : Nat) : Int) := by omega
  have hub : u ≤ 8700000000 := by omega
  generalize (L26 V).getD 0 0 = x at hc hor HP
  clear hx hu h hV
  generalize hy : u % 67108864 = y at hand hor HP
  generalize hz : u / 67108864 = z at hor2 hdiv HP
  clear hy hz
  go_enter Tryd.func87, Tryd.ntmps87
  go_wp2_with fail
  go_region
  go_wp2_with fail
  go_region
  go_end0
  rw [← HU.out, HP.out]
  exact ⟨rfl, NB.set (w := (w.setCell ⟨g, 0, none⟩ (.int .u64 ((x + y : Nat) : Int))).drew) (H.out.set 0 (x + y)) 1 z, (((Keeps.refl (fun k => k = g) w).setCell (p := ⟨g, 0, none⟩) (.inl rfl) _).drew.setCell (p := ⟨g, 1, none⟩) (.inl rfl) _).drew⟩
theorem pb1 (V b : Nat) (hV : V < 256) (hb : b ≤ 255) : L26 (V + b * 256) = (((L26 V).set 0 ((L26 V).getD 0 0 + b * 256 % 67108864)).set 1 (b * 256 / 67108864)) := by
  have e0 : (V + b * 256) % 67108864 = (V % 67108864) + b * 256 % 67108864 := by omega
  have e1 : (V + b * 256) / 67108864 % 67108864 = b * 256 / 67108864 := by omega
  have e2 : (V + b * 256) / 4503599627370496 % 67108864 = V / 4503599627370496 % 67108864 := by omega
  have e3 : (V + b * 256) / 302231454903657293676544 % 67108864 = V / 302231454903657293676544 % 67108864 := by omega
  have e4 : (V + b * 256) / 20282409603651670423947251286016 % 67108864 = V / 20282409603651670423947251286016 % 67108864 := by omega
  show [(V + b * 256) % 67108864, (V + b * 256) / 67108864 % 67108864, (V + b * 256) / 4503599627370496 % 67108864, (V + b * 256) / 302231454903657293676544 % 67108864, (V + b * 256) / 20282409603651670423947251286016 % 67108864] = [(V % 67108864) + b * 256 % 67108864, b * 256 / 67108864, V / 4503599627370496 % 67108864, V / 302231454903657293676544 % 67108864, V / 20282409603651670423947251286016 % 67108864]
  rw [e0, e1, e2, e3, e4]
set_option maxHeartbeats 400000 in
set_option maxRecDepth 100000 in
theorem put1_c (g V b : Nat) (hV : V < 256) (hb : b ≤ 255) (w : World) (h : NB .u64 w g 103 (L26 V)) :
    Calls Tryd.prog 87 #[.pointer (some ⟨g, 0, none⟩), .int .i64 1, .int .u8 (b : Int)] w fun e w' => e = .returned (.tuple #[]) ∧ NB .u64 w' g 103 (L26 (V + b * 256)) ∧ Keeps (fun k => k = g) w w' := by
  have HP := hidden (pb1 V b hV hb)
  have H := hidden h
  have hc := h.cell 0 (by rw [L26_length]; omega)
  have hf := h.frozen
  have hx : (L26 V).getD 0 0 < 2 ^ 8 := by
    show V % 67108864 < 2 ^ 8
    omega
  obtain ⟨u, hu⟩ : ∃ u, u = b * 256 := ⟨_, rfl⟩
  have hu2 : (b : Int) * 256 = (u : Int) := by omega
  have hand := mask26 u (by omega)
  have hor := or_low ((L26 V).getD 0 0) (u % 67108864) 8 hx (by omega) (by omega) (by omega)
  rw [← hu] at HP
  have HU := hidden hu
  have hc2 : w.cell? ⟨g, 1, none⟩ = some (.int .u64 0) := by
    rw [h.cell 1 (by rw [L26_length]; omega)]
    show some (Value.int .u64 ((V / 67108864 % 67108864 : Nat) : Int)) = _
    rw [show V / 67108864 % 67108864 = 0 by omega]
    rfl
  have hor2 := or_zero (u / 67108864) (by omega)
  have hdiv : (u : Int) / 67108864 = ((u / 67108864 : Nat) : Int) := by omega
  have hub : u ≤ 8700000000 := by omega
  generalize (L26 V).getD 0 0 = x at hc hor HP
  clear hx hu h hV
  generalize hy : u % 67108864 = y at hand hor HP
  generalize hz : u / 67108864 = z at hor2 hdiv HP
  clear hy hz
  go_enter Tryd.func87, Tryd.ntmps87
  go_wp2_with fail
  go_region
  go_wp2_with fail
  go_region
  go_end0
  rw [← HU.out, HP.out]
  exact ⟨rfl, NB.set (w := (w.setCell ⟨g, 0, none⟩ (.int .u64 ((x + y : Nat) : Int))).drew) (H.out.set 0 (x + y)) 1 z, (((Keeps.refl (fun k => k = g) w).setCell (p := ⟨g, 0, none⟩) (.inl rfl) _).drew.setCell (p := ⟨g, 1, none⟩) (.inl rfl) _).drew⟩
theorem pb2 (V b : Nat) (hV : V < 65536) (hb : b ≤ 255) : L26 (V + b * 65536) = (((L26 V).set 0 ((L26 V).getD 0 0 + b * 65536 % 67108864)).set 1 (b * 65536 / 67108864)) := by
  have e0 : (V + b * 65536) % 67108864 = (V % 67108864) + b * 65536 % 67108864 := by omega
  have e1 : (V + b * 65536) / 67108864 % 67108864 = b * 65536 / 67108864 := by omega
  have e2 : (V + b * 65536) / 4503599627370496 % 67108864 = V / 4503599627370496 % 67108864 := by omega
  have e3 : (V + b * 65536) / 302231454903657293676544 % 67108864 = V / 302231454903657293676544 % 67108864 := by omega
  have e4 : (V + b * 65536) / 20282409603651670423947251286016 % 67108864 = V / 20282409603651670423947251286016 % 67108864 := by omega
  show [(V + b * 65536) % 67108864, (V + b * 65536) / 67108864 % 67108864, (V + b * 65536) / 4503599627370496 % 67108864, (V + b * 65536) / 302231454903657293676544 % 67108864, (V + b * 65536) / 20282409603651670423947251286016 % 67108864] = [(V % 67108864) + b * 65536 % 67108864, b * 65536 / 67108864, V / 4503599627370496 % 67108864, V / 302231454903657293676544 % 67108864, V / 20282409603651670423947251286016 % 67108864]
  rw [e0, e1, e2, e3, e4]
set_option maxHeartbeats 400000 in
set_option maxRecDepth 100000 in
theorem put2_c (g V b : Nat) (hV : V < 65536) (hb : b ≤ 255) (w : World) (h : NB .u64 w g 103 (L26 V)) :
    Calls Tryd.prog 87 #[.pointer (some ⟨g, 0, none⟩), .int .i64 2, .int .u8 (b : Int)] w fun e w' => e = .returned (.tuple #[]) ∧ NB .u64 w' g 103 (L26 (V + b * 65536)) ∧ Keeps (fun k => k = g) w w' := by
  have HP := hidden (pb2 V b hV hb)
  have H := hidden h
  have hc := h.cell 0 (by rw [L26_length]; omega)
  have hf := h.frozen
  have hx : (L26 V).getD 0 0 < 2 ^ 16 := by
    show V % 67108864 < 2 ^ 16
    omega
  obtain ⟨u, hu⟩ : ∃ u, u = b * 65536 := ⟨_, rfl⟩
  have hu2 : (b : Int) * 65536 = (u : Int) := by omega
  have hand := mask26 u (by omega)
  have hor := or_low ((L26 V).getD 0 0) (u % 67108864) 16 hx (by omega) (by omega) (by omega)
  rw [← hu] at HP
  have HU := hidden hu
  have hc2 : w.cell? ⟨g, 1, none⟩ = some (.int .u64 0) := by
    rw [h.cell 1 (by rw [L26_length]; omega)]
    show some (Value.int .u64 ((V / 67108864 % 67108864 : Nat) : Int)) = _
    rw [show V / 67108864 % 67108864 = 0 by omega]
    rfl
  have hor2 := or_zero (u / 67108864) (by omega)
  have hdiv : (u : Int) / 67108864 = ((u / 67108864 : Nat) : Int) := by omega
  have hub : u ≤ 8700000000 := by omega
  generalize (L26 V).getD 0 0 = x at hc hor HP
  clear hx hu h hV
  generalize hy : u % 67108864 = y at hand hor HP
  generalize hz : u / 67108864 = z at hor2 hdiv HP
  clear hy hz
  go_enter Tryd.func87, Tryd.ntmps87
  go_wp2_with fail
  go_region
  go_wp2_with fail
  go_region
  go_end0
  rw [← HU.out, HP.out]
  exact ⟨rfl, NB.set (w := (w.setCell ⟨g, 0, none⟩ (.int .u64 ((x + y : Nat) : Int))).drew) (H.out.set 0 (x + y)) 1 z, (((Keeps.refl (fun k => k = g) w).setCell (p := ⟨g, 0, none⟩) (.inl rfl) _).drew.setCell (p := ⟨g, 1, none⟩) (.inl rfl) _).drew⟩
theorem pb3 (V b : Nat) (hV : V < 16777216) (hb : b ≤ 255) : L26 (V + b * 16777216) = (((L26 V).set 0 ((L26 V).getD 0 0 + b * 16777216 % 67108864)).set 1 (b * 16777216 / 67108864)) := by
  have e0 : (V + b * 16777216) % 67108864 = (V % 67108864) + b * 16777216 % 67108864 := by omega
  have e1 : (V + b * 16777216) / 67108864 % 67108864 = b * 16777216 / 67108864 := by omega
  have e2 : (V + b * 16777216) / 4503599627370496 % 67108864 = V / 4503599627370496 % 67108864 := by omega
  have e3 : (V + b * 16777216) / 302231454903657293676544 % 67108864 = V / 302231454903657293676544 % 67108864 := by omega
  have e4 : (V + b * 16777216) / 20282409603651670423947251286016 % 67108864 = V / 20282409603651670423947251286016 % 67108864 := by omega
  show [(V + b * 16777216) % 67108864, (V + b * 16777216) / 67108864 % 67108864, (V + b * 16777216) / 4503599627370496 % 67108864, (V + b * 16777216) / 302231454903657293676544 % 67108864, (V + b * 16777216) / 20282409603651670423947251286016 % 67108864] = [(V % 67108864) + b * 16777216 % 67108864, b * 16777216 / 67108864, V / 4503599627370496 % 67108864, V / 302231454903657293676544 % 67108864, V / 20282409603651670423947251286016 % 67108864]
  rw [e0, e1, e2, e3, e4]
set_option maxHeartbeats 400000 in
set_option maxRecDepth 100000 in
theorem put3_c (g V b : Nat) (hV : V < 16777216) (hb : b ≤ 255) (w : World) (h : NB .u64 w g 103 (L26 V)) :
    Calls Tryd.prog 87 #[.pointer (some ⟨g, 0, none⟩), .int .i64 3, .int .u8 (b : Int)] w fun e w' => e = .returned (.tuple #[]) ∧ NB .u64 w' g 103 (L26 (V + b * 16777216)) ∧ Keeps (fun k => k = g) w w' := by
  have HP := hidden (pb3 V b hV hb)
  have H := hidden h
  have hc := h.cell 0 (by rw [L26_length]; omega)
  have hf := h.frozen
  have hx : (L26 V).getD 0 0 < 2 ^ 24 := by
    show V % 67108864 < 2 ^ 24
    omega
  obtain ⟨u, hu⟩ : ∃ u, u = b * 16777216 := ⟨_, rfl⟩
  have hu2 : (b : Int) * 16777216 = (u : Int) := by omega
  have hand := mask26 u (by omega)
  have hor := or_low ((L26 V).getD 0 0) (u % 67108864) 24 hx (by omega) (by omega) (by omega)
  rw [← hu] at HP
  have HU := hidden hu
  have hc2 : w.cell? ⟨g, 1, none⟩ = some (.int .u64 0) := by
    rw [h.cell 1 (by rw [L26_length]; omega)]
    show some (Value.int .u64 ((V / 67108864 % 67108864 : Nat) : Int)) = _
    rw [show V / 67108864 % 67108864 = 0 by omega]
    rfl
  have hor2 := or_zero (u / 67108864) (by omega)
  have hdiv : (u : Int) / 67108864 = ((u / 67108864 : Nat) : Int) := by omega
  have hub : u ≤ 8700000000 := by omega
  generalize (L26 V).getD 0 0 = x at hc hor HP
  clear hx hu h hV
  generalize hy : u % 67108864 = y at hand hor HP
  generalize hz : u / 67108864 = z at hor2 hdiv HP
  clear hy hz
  go_enter Tryd.func87, Tryd.ntmps87
  go_wp2_with fail
  go_region
  go_wp2_with fail
  go_region
  go_end0
  rw [← HU.out, HP.out]
  exact ⟨rfl, NB.set (w := (w.setCell ⟨g, 0, none⟩ (.int .u64 ((x + y : Nat) : Int))).drew) (H.out.set 0 (x + y)) 1 z, (((Keeps.refl (fun k => k = g) w).setCell (p := ⟨g, 0, none⟩) (.inl rfl) _).drew.setCell (p := ⟨g, 1, none⟩) (.inl rfl) _).drew⟩
theorem pb4 (V b : Nat) (hV : V < 4294967296) (hb : b ≤ 255) : L26 (V + b * 4294967296) = (((L26 V).set 1 ((L26 V).getD 1 0 + b * 64 % 67108864)).set 2 (b * 64 / 67108864)) := by
  have e0 : (V + b * 4294967296) % 67108864 = V % 67108864 := by omega
  have e1 : (V + b * 4294967296) / 67108864 % 67108864 = (V / 67108864 % 67108864) + b * 64 % 67108864 := by omega
  have e2 : (V + b * 4294967296) / 4503599627370496 % 67108864 = b * 64 / 67108864 := by omega
  have e3 : (V + b * 4294967296) / 302231454903657293676544 % 67108864 = V / 302231454903657293676544 % 67108864 := by omega
  have e4 : (V + b * 4294967296) / 20282409603651670423947251286016 % 67108864 = V / 20282409603651670423947251286016 % 67108864 := by omega
  show [(V + b * 4294967296) % 67108864, (V + b * 4294967296) / 67108864 % 67108864, (V + b * 4294967296) / 4503599627370496 % 67108864, (V + b * 4294967296) / 302231454903657293676544 % 67108864, (V + b * 4294967296) / 20282409603651670423947251286016 % 67108864] = [V % 67108864, (V / 67108864 % 67108864) + b * 64 % 67108864, b * 64 / 67108864, V / 302231454903657293676544 % 67108864, V / 20282409603651670423947251286016 % 67108864]
  rw [e0, e1, e2, e3, e4]
set_option maxHeartbeats 400000 in
set_option maxRecDepth 100000 in
theorem put4_c (g V b : Nat) (hV : V < 4294967296) (hb : b ≤ 255) (w : World) (h : NB .u64 w g 103 (L26 V)) :
    Calls Tryd.prog 87 #[.pointer (some ⟨g, 0, none⟩), .int .i64 4, .int .u8 (b : Int)] w fun e w' => e = .returned (.tuple #[]) ∧ NB .u64 w' g 103 (L26 (V + b * 4294967296)) ∧ Keeps (fun k => k = g) w w' := by
  have HP := hidden (pb4 V b hV hb)
  have H := hidden h
  have hc := h.cell 1 (by rw [L26_length]; omega)
  have hf := h.frozen
  have hx : (L26 V).getD 1 0 < 2 ^ 6 := by
    show V / 67108864 % 67108864 < 2 ^ 6
    omega
  obtain ⟨u, hu⟩ : ∃ u, u = b * 64 := ⟨_, rfl⟩
  have hu2 : (b : Int) * 64 = (u : Int) := by omega
  have hand := mask26 u (by omega)
  have hor := or_low ((L26 V).getD 1 0) (u % 67108864) 6 hx (by omega) (by omega) (by omega)
  rw [← hu] at HP
  have HU := hidden hu
  have hc2 : w.cell? ⟨g, 2, none⟩ = some (.int .u64 0) := by
    rw [h.cell 2 (by rw [L26_length]; omega)]
    show some (Value.int .u64 ((V / 4503599627370496 % 67108864 : Nat) : Int)) = _
    rw [show V / 4503599627370496 % 67108864 = 0 by omega]
    rfl
  have hor2 := or_zero (u / 67108864) (by omega)
  have hdiv : (u : Int) / 67108864 = ((u / 67108864 : Nat) : Int) := by omega
  have hub : u ≤ 8700000000 := by omega
  generalize (L26 V).getD 1 0 = x at hc hor HP
  clear hx hu h hV
  generalize hy : u % 67108864 = y at hand hor HP
  generalize hz : u / 67108864 = z at hor2 hdiv HP
  clear hy hz
  go_enter Tryd.func87, Tryd.ntmps87
  go_wp2_with fail
  go_region
  go_wp2_with fail
  go_region
  go_end0
  rw [HP.out]
  exact ⟨rfl, NB.set (w := (w.setCell ⟨g, 1, none⟩ (.int .u64 ((x + y : Nat) : Int))).drew) (H.out.set 1 (x + y)) 2 z, (((Keeps.refl (fun k => k = g) w).setCell (p := ⟨g, 1, none⟩) (.inl rfl) _).drew.setCell (p := ⟨g, 2, none⟩) (.inl rfl) _).drew⟩
theorem pb5 (V b : Nat) (hV : V < 1099511627776) (hb : b ≤ 255) : L26 (V + b * 1099511627776) = (((L26 V).set 1 ((L26 V).getD 1 0 + b * 16384 % 67108864)).set 2 (b * 16384 / 67108864)) := by
  have e0 : (V + b * 1099511627776) % 67108864 = V % 67108864 := by omega
  have e1 : (V + b * 1099511627776) / 67108864 % 67108864 = (V / 67108864 % 67108864) + b * 16384 % 67108864 := by omega
  have e2 : (V + b * 1099511627776) / 4503599627370496 % 67108864 = b * 16384 / 67108864 := by omega
  have e3 : (V + b * 1099511627776) / 302231454903657293676544 % 67108864 = V / 302231454903657293676544 % 67108864 := by omega
  have e4 : (V + b * 1099511627776) / 20282409603651670423947251286016 % 67108864 = V / 20282409603651670423947251286016 % 67108864 := by omega
  show [(V + b * 1099511627776) % 67108864, (V + b * 1099511627776) / 67108864 % 67108864, (V + b * 1099511627776) / 4503599627370496 % 67108864, (V + b * 1099511627776) / 302231454903657293676544 % 67108864, (V + b * 1099511627776) / 20282409603651670423947251286016 % 67108864] = [V % 67108864, (V / 67108864 % 67108864) + b * 16384 % 67108864, b * 16384 / 67108864, V / 302231454903657293676544 % 67108864, V / 20282409603651670423947251286016 % 67108864]
  rw [e0, e1, e2, e3, e4]
set_option maxHeartbeats 400000 in
set_option maxRecDepth 100000 in
theorem put5_c (g V b : Nat) (hV : V < 1099511627776) (hb : b ≤ 255) (w : World) (h : NB .u64 w g 103 (L26 V)) :
    Calls Tryd.prog 87 #[.pointer (some ⟨g, 0, none⟩), .int .i64 5, .int .u8 (b : Int)] w fun e w' => e = .returned (.tuple #[]) ∧ NB .u64 w' g 103 (L26 (V + b * 1099511627776)) ∧ Keeps (fun k => k = g) w w' := by
  have HP := hidden (pb5 V b hV hb)
  have H := hidden h
  have hc := h.cell 1 (by rw [L26_length]; omega)
  have hf := h.frozen
  have hx : (L26 V).getD 1 0 < 2 ^ 14 := by
    show V / 67108864 % 67108864 < 2 ^ 14
    omega
  obtain ⟨u, hu⟩ : ∃ u, u = b * 16384 := ⟨_, rfl⟩
  have hu2 : (b : Int) * 16384 = (u : Int) := by omega
  have hand := mask26 u (by omega)
  have hor := or_low ((L26 V).getD 1 0) (u % 67108864) 14 hx (by omega) (by omega) (by omega)
  rw [← hu] at HP
  have HU := hidden hu
  have hc2 : w.cell? ⟨g, 2, none⟩ = some (.int .u64 0) := by
    rw [h.cell 2 (by rw [L26_length]; omega)]
    show some (Value.int .u64 ((V / 4503599627370496 % 67108864 : Nat) : Int)) = _
    rw [show V / 4503599627370496 % 67108864 = 0 by omega]
    rfl
  have hor2 := or_zero (u / 67108864) (by omega)
  have hdiv : (u : Int) / 67108864 = ((u / 67108864 : Nat) : Int) := by omega
  have hub : u ≤ 8700000000 := by omega
  generalize (L26 V).getD 1 0 = x at hc hor HP
  clear hx hu h hV
  generalize hy : u % 67108864 = y at hand hor HP
  generalize hz : u / 67108864 = z at hor2 hdiv HP
  clear hy hz
  go_enter Tryd.func87, Tryd.ntmps87
  go_wp2_with fail
  go_region
  go_wp2_with fail
  go_region
  go_end0
  rw [HP.out]
  exact ⟨rfl, NB.set (w := (w.setCell ⟨g, 1, none⟩ (.int .u64 ((x + y : Nat) : Int))).drew) (H.out.set 1 (x + y)) 2 z, (((Keeps.refl (fun k => k = g) w).setCell (p := ⟨g, 1, none⟩) (.inl rfl) _).drew.setCell (p := ⟨g, 2, none⟩) (.inl rfl) _).drew⟩
theorem pb6 (V b : Nat) (hV : V < 281474976710656) (hb : b ≤ 255) : L26 (V + b * 281474976710656) = (((L26 V).set 1 ((L26 V).getD 1 0 + b * 4194304 % 67108864)).set 2 (b * 4194304 / 67108864)) := by
  have e0 : (V + b * 281474976710656) % 67108864 = V % 67108864 := by omega
  have e1 : (V + b * 281474976710656) / 67108864 % 67108864 = (V / 67108864 % 67108864) + b * 4194304 % 67108864 := by omega
  have e2 : (V + b * 281474976710656) / 4503599627370496 % 67108864 = b * 4194304 / 67108864 := by omega
  have e3 : (V + b * 281474976710656) / 302231454903657293676544 % 67108864 = V / 302231454903657293676544 % 67108864 := by omega
  have e4 : (V + b * 281474976710656) / 20282409603651670423947251286016 % 67108864 = V / 20282409603651670423947251286016 % 67108864 := by omega
  show [(V + b * 281474976710656) % 67108864, (V + b * 281474976710656) / 67108864 % 67108864, (V + b * 281474976710656) / 4503599627370496 % 67108864, (V + b * 281474976710656) / 302231454903657293676544 % 67108864, (V + b * 281474976710656) / 20282409603651670423947251286016 % 67108864] = [V % 67108864, (V / 67108864 % 67108864) + b * 4194304 % 67108864, b * 4194304 / 67108864, V / 302231454903657293676544 % 67108864, V / 20282409603651670423947251286016 % 67108864]
  rw [e0, e1, e2, e3, e4]
set_option maxHeartbeats 400000 in
set_option maxRecDepth 100000 in
theorem put6_c (g V b : Nat) (hV : V < 281474976710656) (hb : b ≤ 255) (w : World) (h : NB .u64 w g 103 (L26 V)) :
    Calls Tryd.prog 87 #[.pointer (some ⟨g, 0, none⟩), .int .i64 6, .int .u8 (b : Int)] w fun e w' => e = .returned (.tuple #[]) ∧ NB .u64 w' g 103 (L26 (V + b * 281474976710656)) ∧ Keeps (fun k => k = g) w w' := by
  have HP := hidden (pb6 V b hV hb)
  have H := hidden h
  have hc := h.cell 1 (by rw [L26_length]; omega)
  have hf := h.frozen
  have hx : (L26 V).getD 1 0 < 2 ^ 22 := by
    show V / 67108864 % 67108864 < 2 ^ 22
    omega
  obtain ⟨u, hu⟩ : ∃ u, u = b * 4194304 := ⟨_, rfl⟩
  have hu2 : (b : Int) * 4194304 = (u : Int) := by omega
  have hand := mask26 u (by omega)
  have hor := or_low ((L26 V).getD 1 0) (u % 67108864) 22 hx (by omega) (by omega) (by omega)
  rw [← hu] at HP
  have HU := hidden hu
  have hc2 : w.cell? ⟨g, 2, none⟩ = some (.int .u64 0) := by
    rw [h.cell 2 (by rw [L26_length]; omega)]
    show some (Value.int .u64 ((V / 4503599627370496 % 67108864 : Nat) : Int)) = _
    rw [show V / 4503599627370496 % 67108864 = 0 by omega]
    rfl
  have hor2 := or_zero (u / 67108864) (by omega)
  have hdiv : (u : Int) / 67108864 = ((u / 67108864 : Nat) : Int) := by omega
  have hub : u ≤ 8700000000 := by omega
  generalize (L26 V).getD 1 0 = x at hc hor HP
  clear hx hu h hV
  generalize hy : u % 67108864 = y at hand hor HP
  generalize hz : u / 67108864 = z at hor2 hdiv HP
  clear hy hz
  go_enter Tryd.func87, Tryd.ntmps87
  go_wp2_with fail
  go_region
  go_wp2_with fail
  go_region
  go_end0
  rw [HP.out]
  exact ⟨rfl, NB.set (w := (w.setCell ⟨g, 1, none⟩ (.int .u64 ((x + y : Nat) : Int))).drew) (H.out.set 1 (x + y)) 2 z, (((Keeps.refl (fun k => k = g) w).setCell (p := ⟨g, 1, none⟩) (.inl rfl) _).drew.setCell (p := ⟨g, 2, none⟩) (.inl rfl) _).drew⟩
theorem pb7 (V b : Nat) (hV : V < 72057594037927936) (hb : b ≤ 255) : L26 (V + b * 72057594037927936) = (((L26 V).set 2 ((L26 V).getD 2 0 + b * 16 % 67108864)).set 3 (b * 16 / 67108864)) := by
  have e0 : (V + b * 72057594037927936) % 67108864 = V % 67108864 := by omega
  have e1 : (V + b * 72057594037927936) / 67108864 % 67108864 = V / 67108864 % 67108864 := by omega
  have e2 : (V + b * 72057594037927936) / 4503599627370496 % 67108864 = (V / 4503599627370496 % 67108864) + b * 16 % 67108864 := by omega
  have e3 : (V + b * 72057594037927936) / 302231454903657293676544 % 67108864 = b * 16 / 67108864 := by omega
  have e4 : (V + b * 72057594037927936) / 20282409603651670423947251286016 % 67108864 = V / 20282409603651670423947251286016 % 67108864 := by omega
  show [(V + b * 72057594037927936) % 67108864, (V + b * 72057594037927936) / 67108864 % 67108864, (V + b * 72057594037927936) / 4503599627370496 % 67108864, (V + b * 72057594037927936) / 302231454903657293676544 % 67108864, (V + b * 72057594037927936) / 20282409603651670423947251286016 % 67108864] = [V % 67108864, V / 67108864 % 67108864, (V / 4503599627370496 % 67108864) + b * 16 % 67108864, b * 16 / 67108864, V / 20282409603651670423947251286016 % 67108864]
  rw [e0, e1, e2, e3, e4]
set_option maxHeartbeats 400000 in
set_option maxRecDepth 100000 in
theorem put7_c (g V b : Nat) (hV : V < 72057594037927936) (hb : b ≤ 255) (w : World) (h : NB .u64 w g 103 (L26 V)) :
    Calls Tryd.prog 87 #[.pointer (some ⟨g, 0, none⟩), .int .i64 7, .int .u8 (b : Int)] w fun e w' => e = .returned (.tuple #[]) ∧ NB .u64 w' g 103 (L26 (V + b * 72057594037927936)) ∧ Keeps (fun k => k = g) w w' := by
  have HP := hidden (pb7 V b hV hb)
  have H := hidden h
  have hc := h.cell 2 (by rw [L26_length]; omega)
  have hf := h.frozen
  have hx : (L26 V).getD 2 0 < 2 ^ 4 := by
    show V / 4503599627370496 % 67108864 < 2 ^ 4
    omega
  obtain ⟨u, hu⟩ : ∃ u, u = b * 16 := ⟨_, rfl⟩
  have hu2 : (b : Int) * 16 = (u : Int) := by omega
  have hand := mask26 u (by omega)
  have hor := or_low ((L26 V).getD 2 0) (u % 67108864) 4 hx (by omega) (by omega) (by omega)
  rw [← hu] at HP
  have HU := hidden hu
  have hc2 : w.cell? ⟨g, 3, none⟩ = some (.int .u64 0) := by
    rw [h.cell 3 (by rw [L26_length]; omega)]
    show some (Value.int .u64 ((V / 302231454903657293676544 % 67108864 : Nat) : Int)) = _
    rw [show V / 302231454903657293676544 % 67108864 = 0 by omega]
    rfl
  have hor2 := or_zero (u / 67108864) (by omega)
  have hdiv : (u : Int) / 67108864 = ((u / 67108864 : Nat) : Int) := by omega
  have hub : u ≤ 8700000000 := by omega
  generalize (L26 V).getD 2 0 = x at hc hor HP
  clear hx hu h hV
  generalize hy : u % 67108864 = y at hand hor HP
  generalize hz : u / 67108864 = z at hor2 hdiv HP
  clear hy hz
  go_enter Tryd.func87, Tryd.ntmps87
  go_wp2_with fail
  go_region
  go_wp2_with fail
  go_region
  go_end0
  rw [HP.out]
  exact ⟨rfl, NB.set (w := (w.setCell ⟨g, 2, none⟩ (.int .u64 ((x + y : Nat) : Int))).drew) (H.out.set 2 (x + y)) 3 z, (((Keeps.refl (fun k => k = g) w).setCell (p := ⟨g, 2, none⟩) (.inl rfl) _).drew.setCell (p := ⟨g, 3, none⟩) (.inl rfl) _).drew⟩
theorem pb8 (V b : Nat) (hV : V < 18446744073709551616) (hb : b ≤ 255) : L26 (V + b * 18446744073709551616) = (((L26 V).set 2 ((L26 V).getD 2 0 + b * 4096 % 67108864)).set 3 (b * 4096 / 67108864)) := by
  have e0 : (V + b * 18446744073709551616) % 67108864 = V % 67108864 := by omega
  have e1 : (V + b * 18446744073709551616) / 67108864 % 67108864 = V / 67108864 % 67108864 := by omega
  have e2 : (V + b * 18446744073709551616) / 4503599627370496 % 67108864 = (V / 4503599627370496 % 67108864) + b * 4096 % 67108864 := by omega
  have e3 : (V + b * 18446744073709551616) / 302231454903657293676544 % 67108864 = b * 4096 / 67108864 := by omega
  have e4 : (V + b * 18446744073709551616) / 20282409603651670423947251286016 % 67108864 = V / 20282409603651670423947251286016 % 67108864 := by omega
  show [(V + b * 18446744073709551616) % 67108864, (V + b * 18446744073709551616) / 67108864 % 67108864, (V + b * 18446744073709551616) / 4503599627370496 % 67108864, (V + b * 18446744073709551616) / 302231454903657293676544 % 67108864, (V + b * 18446744073709551616) / 20282409603651670423947251286016 % 67108864] = [V % 67108864, V / 67108864 % 67108864, (V / 4503599627370496 % 67108864) + b * 4096 % 67108864, b * 4096 / 67108864, V / 20282409603651670423947251286016 % 67108864]
  rw [e0, e1, e2, e3, e4]
set_option maxHeartbeats 400000 in
set_option maxRecDepth 100000 in
theorem put8_c (g V b : Nat) (hV : V < 18446744073709551616) (hb : b ≤ 255) (w : World) (h : NB .u64 w g 103 (L26 V)) :
    Calls Tryd.prog 87 #[.pointer (some ⟨g, 0, none⟩), .int .i64 8, .int .u8 (b : Int)] w fun e w' => e = .returned (.tuple #[]) ∧ NB .u64 w' g 103 (L26 (V + b * 18446744073709551616)) ∧ Keeps (fun k => k = g) w w' := by
  have HP := hidden (pb8 V b hV hb)
  have H := hidden h
  have hc := h.cell 2 (by rw [L26_length]; omega)
  have hf := h.frozen
  have hx : (L26 V).getD 2 0 < 2 ^ 12 := by
    show V / 4503599627370496 % 67108864 < 2 ^ 12
    omega
  obtain ⟨u, hu⟩ : ∃ u, u = b * 4096 := ⟨_, rfl⟩
  have hu2 : (b : Int) * 4096 = (u : Int) := by omega
  have hand := mask26 u (by omega)
  have hor := or_low ((L26 V).getD 2 0) (u % 67108864) 12 hx (by omega) (by omega) (by omega)
  rw [← hu] at HP
  have HU := hidden hu
  have hc2 : w.cell? ⟨g, 3, none⟩ = some (.int .u64 0) := by
    rw [h.cell 3 (by rw [L26_length]; omega)]
    show some (Value.int .u64 ((V / 302231454903657293676544 % 67108864 : Nat) : Int)) = _
    rw [show V / 302231454903657293676544 % 67108864 = 0 by omega]
    rfl
  have hor2 := or_zero (u / 67108864) (by omega)
  have hdiv : (u : Int) / 67108864 = ((u / 67108864 : Nat) : Int) := by omega
  have hub : u ≤ 8700000000 := by omega
  generalize (L26 V).getD 2 0 = x at hc hor HP
  clear hx hu h hV
  generalize hy : u % 67108864 = y at hand hor HP
  generalize hz : u / 67108864 = z at hor2 hdiv HP
  clear hy hz
  go_enter Tryd.func87, Tryd.ntmps87
  go_wp2_with fail
  go_region
  go_wp2_with fail
  go_region
  go_end0
  rw [HP.out]
  exact ⟨rfl, NB.set (w := (w.setCell ⟨g, 2, none⟩ (.int .u64 ((x + y : Nat) : Int))).drew) (H.out.set 2 (x + y)) 3 z, (((Keeps.refl (fun k => k = g) w).setCell (p := ⟨g, 2, none⟩) (.inl rfl) _).drew.setCell (p := ⟨g, 3, none⟩) (.inl rfl) _).drew⟩
theorem pb9 (V b : Nat) (hV : V < 4722366482869645213696) (hb : b ≤ 255) : L26 (V + b * 4722366482869645213696) = (((L26 V).set 2 ((L26 V).getD 2 0 + b * 1048576 % 67108864)).set 3 (b * 1048576 / 67108864)) := by
  have e0 : (V + b * 4722366482869645213696) % 67108864 = V % 67108864 := by omega
  have e1 : (V + b * 4722366482869645213696) / 67108864 % 67108864 = V / 67108864 % 67108864 := by omega
  have e2 : (V + b * 4722366482869645213696) / 4503599627370496 % 67108864 = (V / 4503599627370496 % 67108864) + b * 1048576 % 67108864 := by omega
  have e3 : (V + b * 4722366482869645213696) / 302231454903657293676544 % 67108864 = b * 1048576 / 67108864 := by omega
  have e4 : (V + b * 4722366482869645213696) / 20282409603651670423947251286016 % 67108864 = V / 20282409603651670423947251286016 % 67108864 := by omega
  show [(V + b * 4722366482869645213696) % 67108864, (V + b * 4722366482869645213696) / 67108864 % 67108864, (V + b * 4722366482869645213696) / 4503599627370496 % 67108864, (V + b * 4722366482869645213696) / 302231454903657293676544 % 67108864, (V + b * 4722366482869645213696) / 20282409603651670423947251286016 % 67108864] = [V % 67108864, V / 67108864 % 67108864, (V / 4503599627370496 % 67108864) + b * 1048576 % 67108864, b * 1048576 / 67108864, V / 20282409603651670423947251286016 % 67108864]
  rw [e0, e1, e2, e3, e4]
set_option maxHeartbeats 400000 in
set_option maxRecDepth 100000 in
theorem put9_c (g V b : Nat) (hV : V < 4722366482869645213696) (hb : b ≤ 255) (w : World) (h : NB .u64 w g 103 (L26 V)) :
    Calls Tryd.prog 87 #[.pointer (some ⟨g, 0, none⟩), .int .i64 9, .int .u8 (b : Int)] w fun e w' => e = .returned (.tuple #[]) ∧ NB .u64 w' g 103 (L26 (V + b * 4722366482869645213696)) ∧ Keeps (fun k => k = g) w w' := by
  have HP := hidden (pb9 V b hV hb)
  have H := hidden h
  have hc := h.cell 2 (by rw [L26_length]; omega)
  have hf := h.frozen
  have hx : (L26 V).getD 2 0 < 2 ^ 20 := by
    show V / 4503599627370496 % 67108864 < 2 ^ 20
    omega
  obtain ⟨u, hu⟩ : ∃ u, u = b * 1048576 := ⟨_, rfl⟩
  have hu2 : (b : Int) * 1048576 = (u : Int) := by omega
  have hand := mask26 u (by omega)
  have hor := or_low ((L26 V).getD 2 0) (u % 67108864) 20 hx (by omega) (by omega) (by omega)
  rw [← hu] at HP
  have HU := hidden hu
  have hc2 : w.cell? ⟨g, 3, none⟩ = some (.int .u64 0) := by
    rw [h.cell 3 (by rw [L26_length]; omega)]
    show some (Value.int .u64 ((V / 302231454903657293676544 % 67108864 : Nat) : Int)) = _
    rw [show V / 302231454903657293676544 % 67108864 = 0 by omega]
    rfl
  have hor2 := or_zero (u / 67108864) (by omega)
  have hdiv : (u : Int) / 67108864 = ((u / 67108864 : Nat) : Int) := by omega
  have hub : u ≤ 8700000000 := by omega
  generalize (L26 V).getD 2 0 = x at hc hor HP
  clear hx hu h hV
  generalize hy : u % 67108864 = y at hand hor HP
  generalize hz : u / 67108864 = z at hor2 hdiv HP
  clear hy hz
  go_enter Tryd.func87, Tryd.ntmps87
  go_wp2_with fail
  go_region
  go_wp2_with fail
  go_region
  go_end0
  rw [HP.out]
  exact ⟨rfl, NB.set (w := (w.setCell ⟨g, 2, none⟩ (.int .u64 ((x + y : Nat) : Int))).drew) (H.out.set 2 (x + y)) 3 z, (((Keeps.refl (fun k => k = g) w).setCell (p := ⟨g, 2, none⟩) (.inl rfl) _).drew.setCell (p := ⟨g, 3, none⟩) (.inl rfl) _).drew⟩
theorem pb10 (V b : Nat) (hV : V < 1208925819614629174706176) (hb : b ≤ 255) : L26 (V + b * 1208925819614629174706176) = (((L26 V).set 3 ((L26 V).getD 3 0 + b * 4 % 67108864)).set 4 (b * 4 / 67108864)) := by
  have e0 : (V + b * 1208925819614629174706176) % 67108864 = V % 67108864 := by omega
  have e1 : (V + b * 1208925819614629174706176) / 67108864 % 67108864 = V / 67108864 % 67108864 := by omega
  have e2 : (V + b * 1208925819614629174706176) / 4503599627370496 % 67108864 = V / 4503599627370496 % 67108864 := by omega
  have e3 : (V + b * 1208925819614629174706176) / 302231454903657293676544 % 67108864 = (V / 302231454903657293676544 % 67108864) + b * 4 % 67108864 := by omega
  have e4 : (V + b * 1208925819614629174706176) / 20282409603651670423947251286016 % 67108864 = b * 4 / 67108864 := by omega
  show [(V + b * 1208925819614629174706176) % 67108864, (V + b * 1208925819614629174706176) / 67108864 % 67108864, (V + b * 1208925819614629174706176) / 4503599627370496 % 67108864, (V + b * 1208925819614629174706176) / 302231454903657293676544 % 67108864, (V + b * 1208925819614629174706176) / 20282409603651670423947251286016 % 67108864] = [V % 67108864, V / 67108864 % 67108864, V / 4503599627370496 % 67108864, (V / 302231454903657293676544 % 67108864) + b * 4 % 67108864, b * 4 / 67108864]
  rw [e0, e1, e2, e3, e4]
set_option maxHeartbeats 400000 in
set_option maxRecDepth 100000 in
theorem put10_c (g V b : Nat) (hV : V < 1208925819614629174706176) (hb : b ≤ 255) (w : World) (h : NB .u64 w g 103 (L26 V)) :
    Calls Tryd.prog 87 #[.pointer (some ⟨g, 0, none⟩), .int .i64 10, .int .u8 (b : Int)] w fun e w' => e = .returned (.tuple #[]) ∧ NB .u64 w' g 103 (L26 (V + b * 1208925819614629174706176)) ∧ Keeps (fun k => k = g) w w' := by
  have HP := hidden (pb10 V b hV hb)
  have H := hidden h
  have hc := h.cell 3 (by rw [L26_length]; omega)
  have hf := h.frozen
  have hx : (L26 V).getD 3 0 < 2 ^ 2 := by
    show V / 302231454903657293676544 % 67108864 < 2 ^ 2
    omega
  obtain ⟨u, hu⟩ : ∃ u, u = b * 4 := ⟨_, rfl⟩
  have hu2 : (b : Int) * 4 = (u : Int) := by omega
  have hand := mask26 u (by omega)
  have hor := or_low ((L26 V).getD 3 0) (u % 67108864) 2 hx (by omega) (by omega) (by omega)
  rw [← hu] at HP
  have HU := hidden hu
  have hc2 : w.cell? ⟨g, 4, none⟩ = some (.int .u64 0) := by
    rw [h.cell 4 (by rw [L26_length]; omega)]
    show some (Value.int .u64 ((V / 20282409603651670423947251286016 % 67108864 : Nat) : Int)) = _
    rw [show V / 20282409603651670423947251286016 % 67108864 = 0 by omega]
    rfl
  have hor2 := or_zero (u / 67108864) (by omega)
  have hdiv : (u : Int) / 67108864 = ((u / 67108864 : Nat) : Int) := by omega
  have hub : u ≤ 8700000000 := by omega
  generalize (L26 V).getD 3 0 = x at hc hor HP
  clear hx hu h hV
  generalize hy : u % 67108864 = y at hand hor HP
  generalize hz : u / 67108864 = z at hor2 hdiv HP
  clear hy hz
  go_enter Tryd.func87, Tryd.ntmps87
  go_wp2_with fail
  go_region
  go_wp2_with fail
  go_region
  go_end0
  rw [HP.out]
  exact ⟨rfl, NB.set (w := (w.setCell ⟨g, 3, none⟩ (.int .u64 ((x + y : Nat) : Int))).drew) (H.out.set 3 (x + y)) 4 z, (((Keeps.refl (fun k => k = g) w).setCell (p := ⟨g, 3, none⟩) (.inl rfl) _).drew.setCell (p := ⟨g, 4, none⟩) (.inl rfl) _).drew⟩
theorem pb11 (V b : Nat) (hV : V < 309485009821345068724781056) (hb : b ≤ 255) : L26 (V + b * 309485009821345068724781056) = (((L26 V).set 3 ((L26 V).getD 3 0 + b * 1024 % 67108864)).set 4 (b * 1024 / 67108864)) := by
  have e0 : (V + b * 309485009821345068724781056) % 67108864 = V % 67108864 := by omega
  have e1 : (V + b * 309485009821345068724781056) / 67108864 % 67108864 = V / 67108864 % 67108864 := by omega
  have e2 : (V + b * 309485009821345068724781056) / 4503599627370496 % 67108864 = V / 4503599627370496 % 67108864 := by omega
  have e3 : (V + b * 309485009821345068724781056) / 302231454903657293676544 % 67108864 = (V / 302231454903657293676544 % 67108864) + b * 1024 % 67108864 := by omega
  have e4 : (V + b * 309485009821345068724781056) / 20282409603651670423947251286016 % 67108864 = b * 1024 / 67108864 := by omega
  show [(V + b * 309485009821345068724781056) % 67108864, (V + b * 309485009821345068724781056) / 67108864 % 67108864, (V + b * 309485009821345068724781056) / 4503599627370496 % 67108864, (V + b * 309485009821345068724781056) / 302231454903657293676544 % 67108864, (V + b * 309485009821345068724781056) / 20282409603651670423947251286016 % 67108864] = [V % 67108864, V / 67108864 % 67108864, V / 4503599627370496 % 67108864, (V / 302231454903657293676544 % 67108864) + b * 1024 % 67108864, b * 1024 / 67108864]
  rw [e0, e1, e2, e3, e4]
set_option maxHeartbeats 400000 in
set_option maxRecDepth 100000 in
theorem put11_c (g V b : Nat) (hV : V < 309485009821345068724781056) (hb : b ≤ 255) (w : World) (h : NB .u64 w g 103 (L26 V)) :
    Calls Tryd.prog 87 #[.pointer (some ⟨g, 0, none⟩), .int .i64 11, .int .u8 (b : Int)] w fun e w' => e = .returned (.tuple #[]) ∧ NB .u64 w' g 103 (L26 (V + b * 309485009821345068724781056)) ∧ Keeps (fun k => k = g) w w' := by
  have HP := hidden (pb11 V b hV hb)
  have H := hidden h
  have hc := h.cell 3 (by rw [L26_length]; omega)
  have hf := h.frozen
  have hx : (L26 V).getD 3 0 < 2 ^ 10 := by
    show V / 302231454903657293676544 % 67108864 < 2 ^ 10
    omega
  obtain ⟨u, hu⟩ : ∃ u, u = b * 1024 := ⟨_, rfl⟩
  have hu2 : (b : Int) * 1024 = (u : Int) := by omega
  have hand := mask26 u (by omega)
  have hor := or_low ((L26 V).getD 3 0) (u % 67108864) 10 hx (by omega) (by omega) (by omega)
  rw [← hu] at HP
  have HU := hidden hu
  have hc2 : w.cell? ⟨g, 4, none⟩ = some (.int .u64 0) := by
    rw [h.cell 4 (by rw [L26_length]; omega)]
    show some (Value.int .u64 ((V / 20282409603651670423947251286016 % 67108864 : Nat) : Int)) = _
    rw [show V / 20282409603651670423947251286016 % 67108864 = 0 by omega]
    rfl
  have hor2 := or_zero (u / 67108864) (by omega)
  have hdiv : (u : Int) / 67108864 = ((u / 67108864 : Nat) : Int) := by omega
  have hub : u ≤ 8700000000 := by omega
  generalize (L26 V).getD 3 0 = x at hc hor HP
  clear hx hu h hV
  generalize hy : u % 67108864 = y at hand hor HP
  generalize hz : u / 67108864 = z at hor2 hdiv HP
  clear hy hz
  go_enter Tryd.func87, Tryd.ntmps87
  go_wp2_with fail
  go_region
  go_wp2_with fail
  go_region
  go_end0
  rw [HP.out]
  exact ⟨rfl, NB.set (w := (w.setCell ⟨g, 3, none⟩ (.int .u64 ((x + y : Nat) : Int))).drew) (H.out.set 3 (x + y)) 4 z, (((Keeps.refl (fun k => k = g) w).setCell (p := ⟨g, 3, none⟩) (.inl rfl) _).drew.setCell (p := ⟨g, 4, none⟩) (.inl rfl) _).drew⟩
theorem pb12 (V b : Nat) (hV : V < 79228162514264337593543950336) (hb : b ≤ 255) : L26 (V + b * 79228162514264337593543950336) = (((L26 V).set 3 ((L26 V).getD 3 0 + b * 262144 % 67108864)).set 4 (b * 262144 / 67108864)) := by
  have e0 : (V + b * 79228162514264337593543950336) % 67108864 = V % 67108864 := by omega
  have e1 : (V + b * 79228162514264337593543950336) / 67108864 % 67108864 = V / 67108864 % 67108864 := by omega
  have e2 : (V + b * 79228162514264337593543950336) / 4503599627370496 % 67108864 = V / 4503599627370496 % 67108864 := by omega
  have e3 : (V + b * 79228162514264337593543950336) / 302231454903657293676544 % 67108864 = (V / 302231454903657293676544 % 67108864) + b * 262144 % 67108864 := by omega
  have e4 : (V + b * 79228162514264337593543950336) / 20282409603651670423947251286016 % 67108864 = b * 262144 / 67108864 := by omega
  show [(V + b * 79228162514264337593543950336) % 67108864, (V + b * 79228162514264337593543950336) / 67108864 % 67108864, (V + b * 79228162514264337593543950336) / 4503599627370496 % 67108864, (V + b * 79228162514264337593543950336) / 302231454903657293676544 % 67108864, (V + b * 79228162514264337593543950336) / 20282409603651670423947251286016 % 67108864] = [V % 67108864, V / 67108864 % 67108864, V / 4503599627370496 % 67108864, (V / 302231454903657293676544 % 67108864) + b * 262144 % 67108864, b * 262144 / 67108864]
  rw [e0, e1, e2, e3, e4]
set_option maxHeartbeats 400000 in
set_option maxRecDepth 100000 in
theorem put12_c (g V b : Nat) (hV : V < 79228162514264337593543950336) (hb : b ≤ 255) (w : World) (h : NB .u64 w g 103 (L26 V)) :
    Calls Tryd.prog 87 #[.pointer (some ⟨g, 0, none⟩), .int .i64 12, .int .u8 (b : Int)] w fun e w' => e = .returned (.tuple #[]) ∧ NB .u64 w' g 103 (L26 (V + b * 79228162514264337593543950336)) ∧ Keeps (fun k => k = g) w w' := by
  have HP := hidden (pb12 V b hV hb)
  have H := hidden h
  have hc := h.cell 3 (by rw [L26_length]; omega)
  have hf := h.frozen
  have hx : (L26 V).getD 3 0 < 2 ^ 18 := by
    show V / 302231454903657293676544 % 67108864 < 2 ^ 18
    omega
  obtain ⟨u, hu⟩ : ∃ u, u = b * 262144 := ⟨_, rfl⟩
  have hu2 : (b : Int) * 262144 = (u : Int) := by omega
  have hand := mask26 u (by omega)
  have hor := or_low ((L26 V).getD 3 0) (u % 67108864) 18 hx (by omega) (by omega) (by omega)
  rw [← hu] at HP
  have HU := hidden hu
  have hc2 : w.cell? ⟨g, 4, none⟩ = some (.int .u64 0) := by
    rw [h.cell 4 (by rw [L26_length]; omega)]
    show some (Value.int .u64 ((V / 20282409603651670423947251286016 % 67108864 : Nat) : Int)) = _
    rw [show V / 20282409603651670423947251286016 % 67108864 = 0 by omega]
    rfl
  have hor2 := or_zero (u / 67108864) (by omega)
  have hdiv : (u : Int) / 67108864 = ((u / 67108864 : Nat) : Int) := by omega
  have hub : u ≤ 8700000000 := by omega
  generalize (L26 V).getD 3 0 = x at hc hor HP
  clear hx hu h hV
  generalize hy : u % 67108864 = y at hand hor HP
  generalize hz : u / 67108864 = z at hor2 hdiv HP
  clear hy hz
  go_enter Tryd.func87, Tryd.ntmps87
  go_wp2_with fail
  go_region
  go_wp2_with fail
  go_region
  go_end0
  rw [HP.out]
  exact ⟨rfl, NB.set (w := (w.setCell ⟨g, 3, none⟩ (.int .u64 ((x + y : Nat) : Int))).drew) (H.out.set 3 (x + y)) 4 z, (((Keeps.refl (fun k => k = g) w).setCell (p := ⟨g, 3, none⟩) (.inl rfl) _).drew.setCell (p := ⟨g, 4, none⟩) (.inl rfl) _).drew⟩
theorem pb13 (V b : Nat) (hV : V < 20282409603651670423947251286016) (_hb : b ≤ 255) : L26 (V + b * 20282409603651670423947251286016) = ((L26 V).set 4 ((L26 V).getD 4 0 + b * 1 % 67108864)) := by
  have e0 : (V + b * 20282409603651670423947251286016) % 67108864 = V % 67108864 := by omega
  have e1 : (V + b * 20282409603651670423947251286016) / 67108864 % 67108864 = V / 67108864 % 67108864 := by omega
  have e2 : (V + b * 20282409603651670423947251286016) / 4503599627370496 % 67108864 = V / 4503599627370496 % 67108864 := by omega
  have e3 : (V + b * 20282409603651670423947251286016) / 302231454903657293676544 % 67108864 = V / 302231454903657293676544 % 67108864 := by omega
  have e4 : (V + b * 20282409603651670423947251286016) / 20282409603651670423947251286016 % 67108864 = (V / 20282409603651670423947251286016 % 67108864) + b * 1 % 67108864 := by omega
  show [(V + b * 20282409603651670423947251286016) % 67108864, (V + b * 20282409603651670423947251286016) / 67108864 % 67108864, (V + b * 20282409603651670423947251286016) / 4503599627370496 % 67108864, (V + b * 20282409603651670423947251286016) / 302231454903657293676544 % 67108864, (V + b * 20282409603651670423947251286016) / 20282409603651670423947251286016 % 67108864] = [V % 67108864, V / 67108864 % 67108864, V / 4503599627370496 % 67108864, V / 302231454903657293676544 % 67108864, (V / 20282409603651670423947251286016 % 67108864) + b * 1 % 67108864]
  rw [e0, e1, e2, e3, e4]
set_option maxHeartbeats 400000 in
set_option maxRecDepth 100000 in
theorem put13_c (g V b : Nat) (hV : V < 20282409603651670423947251286016) (hb : b ≤ 255) (w : World) (h : NB .u64 w g 103 (L26 V)) :
    Calls Tryd.prog 87 #[.pointer (some ⟨g, 0, none⟩), .int .i64 13, .int .u8 (b : Int)] w fun e w' => e = .returned (.tuple #[]) ∧ NB .u64 w' g 103 (L26 (V + b * 20282409603651670423947251286016)) ∧ Keeps (fun k => k = g) w w' := by
  have HP := hidden (pb13 V b hV hb)
  have H := hidden h
  have hc := h.cell 4 (by rw [L26_length]; omega)
  have hf := h.frozen
  have hx : (L26 V).getD 4 0 < 2 ^ 0 := by
    show V / 20282409603651670423947251286016 % 67108864 < 2 ^ 0
    omega
  obtain ⟨u, hu⟩ : ∃ u, u = b * 1 := ⟨_, rfl⟩
  have hu2 : (b : Int) = (u : Int) := by omega
  have hand := mask26 u (by omega)
  have hor := or_low ((L26 V).getD 4 0) (u % 67108864) 0 hx (by omega) (by omega) (by omega)
  rw [← hu] at HP
  have HU := hidden hu
  have hub : u ≤ 8700000000 := by omega
  generalize (L26 V).getD 4 0 = x at hc hor HP
  clear hx hu h hV
  generalize hy : u % 67108864 = y at hand hor HP
  clear hy
  go_enter Tryd.func87, Tryd.ntmps87
  go_wp2_with fail
  go_region
  go_wp2_with fail
  go_end0
  rw [HP.out]
  exact ⟨rfl, H.out.set 4 (x + y), ((Keeps.refl (fun k => k = g) w).setCell (p := ⟨g, 4, none⟩) (.inl rfl) _).drew⟩
theorem pb14 (V b : Nat) (hV : V < 5192296858534827628530496329220096) (_hb : b ≤ 255) : L26 (V + b * 5192296858534827628530496329220096) = ((L26 V).set 4 ((L26 V).getD 4 0 + b * 256 % 67108864)) := by
  have e0 : (V + b * 5192296858534827628530496329220096) % 67108864 = V % 67108864 := by omega
  have e1 : (V + b * 5192296858534827628530496329220096) / 67108864 % 67108864 = V / 67108864 % 67108864 := by omega
  have e2 : (V + b * 5192296858534827628530496329220096) / 4503599627370496 % 67108864 = V / 4503599627370496 % 67108864 := by omega
  have e3 : (V + b * 5192296858534827628530496329220096) / 302231454903657293676544 % 67108864 = V / 302231454903657293676544 % 67108864 := by omega
  have e4 : (V + b * 5192296858534827628530496329220096) / 20282409603651670423947251286016 % 67108864 = (V / 20282409603651670423947251286016 % 67108864) + b * 256 % 67108864 := by omega
  show [(V + b * 5192296858534827628530496329220096) % 67108864, (V + b * 5192296858534827628530496329220096) / 67108864 % 67108864, (V + b * 5192296858534827628530496329220096) / 4503599627370496 % 67108864, (V + b * 5192296858534827628530496329220096) / 302231454903657293676544 % 67108864, (V + b * 5192296858534827628530496329220096) / 20282409603651670423947251286016 % 67108864] = [V % 67108864, V / 67108864 % 67108864, V / 4503599627370496 % 67108864, V / 302231454903657293676544 % 67108864, (V / 20282409603651670423947251286016 % 67108864) + b * 256 % 67108864]
  rw [e0, e1, e2, e3, e4]
set_option maxHeartbeats 400000 in
set_option maxRecDepth 100000 in
theorem put14_c (g V b : Nat) (hV : V < 5192296858534827628530496329220096) (hb : b ≤ 255) (w : World) (h : NB .u64 w g 103 (L26 V)) :
    Calls Tryd.prog 87 #[.pointer (some ⟨g, 0, none⟩), .int .i64 14, .int .u8 (b : Int)] w fun e w' => e = .returned (.tuple #[]) ∧ NB .u64 w' g 103 (L26 (V + b * 5192296858534827628530496329220096)) ∧ Keeps (fun k => k = g) w w' := by
  have HP := hidden (pb14 V b hV hb)
  have H := hidden h
  have hc := h.cell 4 (by rw [L26_length]; omega)
  have hf := h.frozen
  have hx : (L26 V).getD 4 0 < 2 ^ 8 := by
    show V / 20282409603651670423947251286016 % 67108864 < 2 ^ 8
    omega
  obtain ⟨u, hu⟩ : ∃ u, u = b * 256 := ⟨_, rfl⟩
  have hu2 : (b : Int) * 256 = (u : Int) := by omega
  have hand := mask26 u (by omega)
  have hor := or_low ((L26 V).getD 4 0) (u % 67108864) 8 hx (by omega) (by omega) (by omega)
  rw [← hu] at HP
  have HU := hidden hu
  have hub : u ≤ 8700000000 := by omega
  generalize (L26 V).getD 4 0 = x at hc hor HP
  clear hx hu h hV
  generalize hy : u % 67108864 = y at hand hor HP
  clear hy
  go_enter Tryd.func87, Tryd.ntmps87
  go_wp2_with fail
  go_region
  go_wp2_with fail
  go_end0
  rw [HP.out]
  exact ⟨rfl, H.out.set 4 (x + y), ((Keeps.refl (fun k => k = g) w).setCell (p := ⟨g, 4, none⟩) (.inl rfl) _).drew⟩
theorem pb15 (V b : Nat) (hV : V < 1329227995784915872903807060280344576) (_hb : b ≤ 255) : L26 (V + b * 1329227995784915872903807060280344576) = ((L26 V).set 4 ((L26 V).getD 4 0 + b * 65536 % 67108864)) := by
  have e0 : (V + b * 1329227995784915872903807060280344576) % 67108864 = V % 67108864 := by omega
  have e1 : (V + b * 1329227995784915872903807060280344576) / 67108864 % 67108864 = V / 67108864 % 67108864 := by omega
  have e2 : (V + b * 1329227995784915872903807060280344576) / 4503599627370496 % 67108864 = V / 4503599627370496 % 67108864 := by omega
  have e3 : (V + b * 1329227995784915872903807060280344576) / 302231454903657293676544 % 67108864 = V / 302231454903657293676544 % 67108864 := by omega
  have e4 : (V + b * 1329227995784915872903807060280344576) / 20282409603651670423947251286016 % 67108864 = (V / 20282409603651670423947251286016 % 67108864) + b * 65536 % 67108864 := by omega
  show [(V + b * 1329227995784915872903807060280344576) % 67108864, (V + b * 1329227995784915872903807060280344576) / 67108864 % 67108864, (V + b * 1329227995784915872903807060280344576) / 4503599627370496 % 67108864, (V + b * 1329227995784915872903807060280344576) / 302231454903657293676544 % 67108864, (V + b * 1329227995784915872903807060280344576) / 20282409603651670423947251286016 % 67108864] = [V % 67108864, V / 67108864 % 67108864, V / 4503599627370496 % 67108864, V / 302231454903657293676544 % 67108864, (V / 20282409603651670423947251286016 % 67108864) + b * 65536 % 67108864]
  rw [e0, e1, e2, e3, e4]
set_option maxHeartbeats 400000 in
set_option maxRecDepth 100000 in
theorem put15_c (g V b : Nat) (hV : V < 1329227995784915872903807060280344576) (hb : b ≤ 255) (w : World) (h : NB .u64 w g 103 (L26 V)) :
    Calls Tryd.prog 87 #[.pointer (some ⟨g, 0, none⟩), .int .i64 15, .int .u8 (b : Int)] w fun e w' => e = .returned (.tuple #[]) ∧ NB .u64 w' g 103 (L26 (V + b * 1329227995784915872903807060280344576)) ∧ Keeps (fun k => k = g) w w' := by
  have HP := hidden (pb15 V b hV hb)
  have H := hidden h
  have hc := h.cell 4 (by rw [L26_length]; omega)
  have hf := h.frozen
  have hx : (L26 V).getD 4 0 < 2 ^ 16 := by
    show V / 20282409603651670423947251286016 % 67108864 < 2 ^ 16
    omega
  obtain ⟨u, hu⟩ : ∃ u, u = b * 65536 := ⟨_, rfl⟩
  have hu2 : (b : Int) * 65536 = (u : Int) := by omega
  have hand := mask26 u (by omega)
  have hor := or_low ((L26 V).getD 4 0) (u % 67108864) 16 hx (by omega) (by omega) (by omega)
  rw [← hu] at HP
  have HU := hidden hu
  have hub : u ≤ 8700000000 := by omega
  generalize (L26 V).getD 4 0 = x at hc hor HP
  clear hx hu h hV
  generalize hy : u % 67108864 = y at hand hor HP
  clear hy
  go_enter Tryd.func87, Tryd.ntmps87
  go_wp2_with fail
  go_region
  go_wp2_with fail
  go_end0
  rw [HP.out]
  exact ⟨rfl, H.out.set 4 (x + y), ((Keeps.refl (fun k => k = g) w).setCell (p := ⟨g, 4, none⟩) (.inl rfl) _).drew⟩
theorem pb16 (V b : Nat) (hV : V < 340282366920938463463374607431768211456) (_hb : b ≤ 3) : L26 (V + b * 340282366920938463463374607431768211456) = ((L26 V).set 4 ((L26 V).getD 4 0 + b * 16777216 % 67108864)) := by
  have e0 : (V + b * 340282366920938463463374607431768211456) % 67108864 = V % 67108864 := by omega
  have e1 : (V + b * 340282366920938463463374607431768211456) / 67108864 % 67108864 = V / 67108864 % 67108864 := by omega
  have e2 : (V + b * 340282366920938463463374607431768211456) / 4503599627370496 % 67108864 = V / 4503599627370496 % 67108864 := by omega
  have e3 : (V + b * 340282366920938463463374607431768211456) / 302231454903657293676544 % 67108864 = V / 302231454903657293676544 % 67108864 := by omega
  have e4 : (V + b * 340282366920938463463374607431768211456) / 20282409603651670423947251286016 % 67108864 = (V / 20282409603651670423947251286016 % 67108864) + b * 16777216 % 67108864 := by omega
  show [(V + b * 340282366920938463463374607431768211456) % 67108864, (V + b * 340282366920938463463374607431768211456) / 67108864 % 67108864, (V + b * 340282366920938463463374607431768211456) / 4503599627370496 % 67108864, (V + b * 340282366920938463463374607431768211456) / 302231454903657293676544 % 67108864, (V + b * 340282366920938463463374607431768211456) / 20282409603651670423947251286016 % 67108864] = [V % 67108864, V / 67108864 % 67108864, V / 4503599627370496 % 67108864, V / 302231454903657293676544 % 67108864, (V / 20282409603651670423947251286016 % 67108864) + b * 16777216 % 67108864]
  rw [e0, e1, e2, e3, e4]
set_option maxHeartbeats 400000 in
set_option maxRecDepth 100000 in
theorem put16_c (g V b : Nat) (hV : V < 340282366920938463463374607431768211456) (hb : b ≤ 3) (w : World) (h : NB .u64 w g 103 (L26 V)) :
    Calls Tryd.prog 87 #[.pointer (some ⟨g, 0, none⟩), .int .i64 16, .int .u8 (b : Int)] w fun e w' => e = .returned (.tuple #[]) ∧ NB .u64 w' g 103 (L26 (V + b * 340282366920938463463374607431768211456)) ∧ Keeps (fun k => k = g) w w' := by
  have HP := hidden (pb16 V b hV hb)
  have H := hidden h
  have hc := h.cell 4 (by rw [L26_length]; omega)
  have hf := h.frozen
  have hx : (L26 V).getD 4 0 < 2 ^ 24 := by
    show V / 20282409603651670423947251286016 % 67108864 < 2 ^ 24
    omega
  obtain ⟨u, hu⟩ : ∃ u, u = b * 16777216 := ⟨_, rfl⟩
  have hu2 : (b : Int) * 16777216 = (u : Int) := by omega
  have hand := mask26 u (by omega)
  have hor := or_low ((L26 V).getD 4 0) (u % 67108864) 24 hx (by omega) (by omega) (by omega)
  rw [← hu] at HP
  have HU := hidden hu
  have hub : u ≤ 8700000000 := by omega
  generalize (L26 V).getD 4 0 = x at hc hor HP
  clear hx hu h hV
  generalize hy : u % 67108864 = y at hand hor HP
  clear hy
  go_enter Tryd.func87, Tryd.ntmps87
  go_wp2_with fail
  go_region
  go_wp2_with fail
  go_end0
  rw [HP.out]
  exact ⟨rfl, H.out.set 4 (x + y), ((Keeps.refl (fun k => k = g) w).setCell (p := ⟨g, 4, none⟩) (.inl rfl) _).drew⟩
end Go.Proofs.YthkaibkmpenclaaDoor
