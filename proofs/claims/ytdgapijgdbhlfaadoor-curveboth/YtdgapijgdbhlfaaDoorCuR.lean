/- 'bytes': a number told. -/
import Derived.Test.YtdgapijgdbhlfaaDoorCuQ
namespace Go.Proofs.YtdgapijgdbhlfaaDoor
open Go Go.RowKit

/-- The 32 bytes of a number, the lowest first. -/
def outL (a : Nat) (n : Nat) : List UInt8 := (List.range n).map fun i => UInt8.ofNat (a / 256 ^ i % 256)
theorem outL_length (a n : Nat) : (outL a n).length = n := by simp [outL]
theorem outL_succ (a n : Nat) : outL a (n + 1) = outL a n ++ [UInt8.ofNat (a / 256 ^ n % 256)] := by simp [outL, List.range_succ]
theorem out_set (a k : Nat) (h : k < 32) (y : Nat) (hy : y = a / 256 ^ k % 256) : (bcells (outL a k ++ List.replicate (32 - k) 0)).toArray.setIfInBounds k (.int .u8 (y : Int)) = (bcells (outL a (k + 1) ++ List.replicate (32 - (k + 1)) 0)).toArray := by
  rw [outL_succ, bcells_append, set_next _ _ _ _ (by simp [bcells_length, outL_length]) (by rw [show 32 - k = (32 - (k + 1)) + 1 by omega, List.replicate_succ]; simp [bcells])]
  rw [show 32 - k = (32 - (k + 1)) + 1 by omega, List.replicate_succ]
  have e : (UInt8.ofNat (a / 256 ^ k % 256)).toNat = y := by rw [hy, UInt8.toNat_ofNat']; omega
  simp only [bcells, List.map_append, List.map_cons, List.append_assoc, List.drop_succ_cons, List.drop_zero, e, List.cons_append, List.nil_append]
theorem wrap8 (n : Nat) : IntKind.u8.wrap (n : Int) = ((n % 256 : Nat) : Int) := by rw [IntKind.wrap_u8]; omega
/-- The two parts of a byte. -/
theorem or_high (x y s : Nat) (hs : s ≤ 50) (hx : x < 2251799813685248) : bits BinOp.or IntKind.u64 ((x / 2 ^ s : Nat) : Int) ((y * 2 ^ (51 - s) % 18446744073709551616 : Nat) : Int) = ((x / 2 ^ s + y * 2 ^ (51 - s) % 18446744073709551616 : Nat) : Int) := by
  have h1 : x / 2 ^ s < 2 ^ (51 - s) := by
    rw [Nat.div_lt_iff_lt_mul (Nat.two_pow_pos s), ← Nat.pow_add, show 51 - s + s = 51 by omega]
    exact hx
  have h3 : y * 2 ^ (51 - s) % 18446744073709551616 % 2 ^ (51 - s) = 0 := by
    obtain ⟨r, hr⟩ : ∃ r, 64 = (51 - s) + r := ⟨64 - (51 - s), by omega⟩
    rw [show 18446744073709551616 = 2 ^ (51 - s) * 2 ^ r by rw [← Nat.pow_add, ← hr], Nat.mod_mul_right_mod, Nat.mul_mod_left]
  have h4 : x / 2 ^ s ≤ x := Nat.div_le_self _ _
  rw [u64_or_nat _ _ (by omega) (by omega), Nat.or_comm, nat_join (51 - s) _ _ h3 h1, Nat.add_comm]

structure YI (w : World) (g gb : Nat) (wr : World) (L : List Nat) (xs : List UInt8) : Prop where
  n : NB .u64 wr g 40 L
  o : wr.heap[gb]? = some (.cells (bcells xs).toArray 5 (0, 0))
  k : Keeps (fun k => k = g) w wr

set_option maxHeartbeats 800000 in
set_option maxRecDepth 100000 in
theorem bytes_c (g : Nat) (L : List Nat) (a : Nat) (hT : Tm L a) (w : World) (h : NB .u64 w g 40 L) :
    Calls Tryd.prog 19 #[.pointer (some ⟨g, 0, none⟩)] w fun e w' => ∃ gb, e = .returned (.slice (some ⟨gb, 0, none⟩) 32 32) ∧ w.heap.size ≤ gb ∧ w'.heap[gb]? = some (.cells (bcells (outL a 32)).toArray 5 (0, 0)) ∧ Keeps (fun k => k = g) w w' := by
  have hap : a < 57896044618658097711785492504343953926634992332820282019728792003956564819968 := by have := hT.lt; unfold pC at this; omega
  have HC := hidden (reduce_c g L a hT w h)
  have hlt := h.lt
  have HAP := hidden hap
  clear h hT hap
  go_enter Tryd.func19, Tryd.ntmps19
  go_wp2_with fail
  refine HC.out.mono ?_
  rintro e w1 ⟨rfl, hn, hk⟩
  have HN := hidden hn
  have HK := hidden hk
  have HMK := made_run 32 (by omega) w1
  have hs1 := hidden hk.size
  clear HC hn hk
  rw [show ((32 : Nat) : Int) = 32 from rfl] at HMK
  obtain ⟨ZA, hZA⟩ : ∃ ZA, ZA = (bcells (List.replicate 32 0)).toArray := ⟨_, rfl⟩
  rw [← hZA] at HMK
  have HZA := hidden hZA
  clear hZA
  go_wp2_with fail
  obtain ⟨gb, hgb⟩ : ∃ x, x = w1.heap.size := ⟨_, rfl⟩
  have HY : Hid (YI w g gb (w1.alloc (.cells ZA 5)) (L51 a) (outL a 0 ++ List.replicate (32 - 0) 0)) :=
    ⟨HN.out.keep (S := fun _ => False) ((Keeps.refl _ w1).alloc _) (fun h => h), by rw [hgb, HZA.out]; exact heap_alloc_new w1 _, HK.out.alloc _⟩
  have HG : Hid (w.heap.size ≤ gb) := by show _ ≤ _; rw [hgb]; exact hs1.out
  rw [← hgb]
  generalize w1.alloc (.cells ZA 5) = wa at HY ⊢
  clear HN HK HMK hs1 hgb
  go_loopw [13] (fun c wr => ∃ i : Nat, i ≤ 32 ∧ c = .int .i64 (i : Int) ∧ YI w g gb wr (L51 a) (outL a i ++ List.replicate (32 - i) 0)) (fun c _ => 32 - (intOf c).toNat)
  case atStart => exact ⟨0, by omega, rfl, HY.out⟩
  case round =>
    clear HY
    obtain ⟨i, hi, rfl, hy⟩ := hrel
    have HY := hidden hy
    clear hy
    have hgg : g ≠ gb := by have := HG.out; omega
    by_cases hlt32 : i < 32
    · have hlt' : (i : Int) < 32 := by omega
      have hk5 : 8 * i / 51 < 5 := by omega
      have hs50 : 8 * i % 51 ≤ 50 := by omega
      have c1 := HY.out.n.cell (8 * i / 51) (by rw [L51_length]; omega)
      have hcell := cell_row HY.out.o i
      have hcl : i < (bcells (outL a i ++ List.replicate (32 - i) 0)).length := by simp [bcells_length, outL_length]; omega
      rw [List.getElem?_eq_getElem hcl] at hcell
      generalize (bcells (outL a i ++ List.replicate (32 - i) 0))[i] = uu at hcell
      have hfz := frozen_row HY.out.o i
      have hx51 : (L51 a).getD (8 * i / 51) 0 < 2251799813685248 := by
        have h2 : ∀ j, (L51 a).getD j 0 < 2251799813685248 := by
          intro j
          match j with
          | 0 => show a % _ < _; omega
          | 1 => show a / _ % _ < _; omega
          | 2 => show a / _ % _ < _; omega
          | 3 => show a / _ % _ < _; omega
          | 4 => show a / _ % _ < _; omega
          | k + 5 => simp [L51]
        exact h2 _
      by_cases h5 : 8 * i / 51 + 1 < 5
      · have h5' : 8 * (i : Int) / 51 + 1 < 5 := by omega
        have c2 := HY.out.n.cell (8 * i / 51 + 1) (by rw [L51_length]; omega)
        have HV := hidden (by_all i a hlt32 h5)
        have hor := or_high ((L51 a).getD (8 * i / 51) 0) ((L51 a).getD (8 * i / 51 + 1) 0) (8 * i % 51) hs50 hx51
        generalize (L51 a).getD (8 * i / 51) 0 = x at c1 hor HV hx51
        generalize (L51 a).getD (8 * i / 51 + 1) 0 = y at c2 hor HV
        have hdv : (x : Int) / 2 ^ (8 * i % 51) = ((x / 2 ^ (8 * i % 51) : Nat) : Int) := by simp
        have hsl : IntKind.u64.wrap ((y : Int) * 2 ^ (51 - 8 * i % 51)) = ((y * 2 ^ (51 - 8 * i % 51) % 18446744073709551616 : Nat) : Int) := by
          rw [← m64r]
          congr 1
        have hx1 : x / 2 ^ (8 * i % 51) ≤ x := Nat.div_le_self _ _
        have hy1 : y * 2 ^ (51 - 8 * i % 51) % 18446744073709551616 ≤ 18446744073709551615 := by omega
        generalize x / 2 ^ (8 * i % 51) = xq at hdv hor HV hx1
        generalize y * 2 ^ (51 - 8 * i % 51) % 18446744073709551616 = yq at hsl hor HV hy1
        have hw8 := wrap8 (xq + yq)
        rw [HV.out] at hw8
        obtain ⟨z, hz⟩ : ∃ z, z = a / 256 ^ i % 256 := ⟨_, rfl⟩
        rw [← hz] at hw8
        have HO := hidden (out_set a i hlt32 z hz)
        generalize xq + yq = xy at hor hw8
        clear hz HV hcl hx1 hy1
        go_wp2
        go_roundw
        case rel =>
          refine ⟨i + 1, by omega, by go_num, HY.out.n.keep (S := fun k => k = gb) ((Keeps.refl (fun k => k = gb) wr).setCell (p := ⟨gb, i, none⟩) (.inl rfl) _) hgg, ?_, HY.out.k.setCell (p := ⟨gb, i, none⟩) (.inr HG.out) _⟩
          rw [heap_setCell_same _ _ _ _ _ _ HY.out.o, HO.out]
        case measure => simp [intOf]; omega
      · have h5' : ¬ 8 * (i : Int) / 51 + 1 < 5 := by omega
        have HV := hidden (by_top i a hlt32 HAP.out h5)
        generalize (L51 a).getD (8 * i / 51) 0 = x at c1 HV hx51
        have hdv : (x : Int) / 2 ^ (8 * i % 51) = ((x / 2 ^ (8 * i % 51) : Nat) : Int) := by simp
        generalize x / 2 ^ (8 * i % 51) = xq at hdv HV
        have hw8 := wrap8 xq
        rw [HV.out] at hw8
        obtain ⟨z, hz⟩ : ∃ z, z = a / 256 ^ i % 256 := ⟨_, rfl⟩
        rw [← hz] at hw8
        have HO := hidden (out_set a i hlt32 z hz)
        clear hz HV hcl
        go_wp2
        go_roundw
        case rel =>
          refine ⟨i + 1, by omega, by go_num, HY.out.n.keep (S := fun k => k = gb) ((Keeps.refl (fun k => k = gb) wr).setCell (p := ⟨gb, i, none⟩) (.inl rfl) _) hgg, ?_, HY.out.k.setCell (p := ⟨gb, i, none⟩) (.inr HG.out) _⟩
          rw [heap_setCell_same _ _ _ _ _ _ HY.out.o, HO.out]
        case measure => simp [intOf]; omega
    · have hlt' : ¬ (i : Int) < 32 := by omega
      obtain rfl : i = 32 := by omega
      go_wp2
      go_ret
      refine ⟨gb, rfl, HG.out, ?_, HY.out.k⟩
      have := HY.out.o
      rwa [Nat.sub_self, List.replicate_zero, List.append_nil] at this
end Go.Proofs.YtdgapijgdbhlfaaDoor
