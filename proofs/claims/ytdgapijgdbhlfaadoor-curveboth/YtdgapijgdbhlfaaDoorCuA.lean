/- Blocks of words; the product of two words; the carry and the fold. -/
import Derived.Test.YtdgapijgdbhlfaaDoorCuS
import Derived.Test.YtdgapijgdbhlfaaDoorRowl
import Derived.Test.YtdgapijgdbhlfaaDoorOrdB
import Derived.Deep.RegionWith
import Derived.Deep.Cut
import Derived.Deep.CutRange
import Derived.Lib.Mul64
import Derived.Laws.Bits64b
import Derived.Laws.Externs
namespace Go.Proofs.YtdgapijgdbhlfaaDoor
open Go Go.RowKit

def ncells (k : IntKind) (L : List Nat) : List Value := L.map fun x : Nat => Value.int k (x : Int)
theorem ncells_length (k : IntKind) (L : List Nat) : (ncells k L).length = L.length := by simp [ncells]
/-- The block g holds the words L. -/
def NB (k : IntKind) (w : World) (g : Nat) (t : TypeId) (L : List Nat) : Prop := w.heap[g]? = some (.cells (ncells k L).toArray t (0, 0))
section
variable {k : IntKind} {w : World} {g : Nat} {t : TypeId} {L : List Nat}
theorem NB.lt (h : NB k w g t L) : g < w.heap.size := lt_of_block h
theorem NB.cell (h : NB k w g t L) (i : Nat) (hi : i < L.length) : w.cell? ⟨g, i, none⟩ = some (.int k (L.getD i 0 : Nat)) := by
  rw [cell_row h]
  simp [ncells, hi]
theorem NB.frozen (h : NB k w g t L) (i : Nat) : w.frozen? ⟨g, i, none⟩ = false := frozen_row h i
theorem NB.set (h : NB k w g t L) (i : Nat) (x : Nat) : NB k (w.setCell ⟨g, i, none⟩ (.int k (x : Int))) g t (L.set i x) := by
  unfold NB
  rw [heap_setCell_same _ _ _ _ _ _ h]
  simp [ncells, List.map_set]
theorem NB.keep {S : Nat → Prop} {w' : World} (h : NB k w g t L) (hk : Keeps S w w') (hn : ¬ S g) : NB k w' g t L := (hk.block g (lt_of_block h) hn).trans h
theorem NB.fresh {w' : World} (h : NB k w g t L) (hb : Below w.heap.size w w') : NB k w' g t L := h.keep (S := fun _ => False) (Keeps.ofFresh hb) (fun h => h)
theorem NB.new (w : World) (L : List Nat) : NB k (w.alloc (.cells (ncells k L).toArray t)) w.heap.size t L := heap_alloc_new w _
end

theorem m64N (a : Nat) (ha : a < 18446744073709551616) : bits .and .u64 (a : Int) 4294967295 = ((a % 4294967296 : Nat) : Int) := by
  have h := bits_and_u64_nat a 4294967295 ha (by omega)
  have e : a &&& 4294967295 = a % 4294967296 := Nat.and_two_pow_sub_one_eq_mod a 32
  rw [e] at h
  exact h
theorem m64d (a : Nat) : (a : Int) / 4294967296 = ((a / 4294967296 : Nat) : Int) := by omega
theorem m64m (a b : Nat) : (a : Int) * (b : Int) = ((a * b : Nat) : Int) := (Int.natCast_mul a b).symm
theorem m64a (a b : Nat) : (a : Int) + (b : Int) = ((a + b : Nat) : Int) := (Int.natCast_add a b).symm
theorem m64w (a : Nat) (ha : a < 18446744073709551616) : IntKind.u64.wrap (a : Int) = (a : Int) := by rw [IntKind.wrap_u64]; omega
theorem m64r (a : Nat) : IntKind.u64.wrap (a : Int) = ((a % 18446744073709551616 : Nat) : Int) := by rw [IntKind.wrap_u64]; omega

set_option maxHeartbeats 1000000 in
theorem mul64_c (x y : Nat) (hx : x < 18446744073709551616) (hy : y < 18446744073709551616) (w : World) :
    Calls Tryd.prog 38 #[.int .u64 x, .int .u64 y] w fun e w' => e = .returned (.tuple #[.int .u64 ((x * y / 18446744073709551616 : Nat) : Int), .int .u64 ((x * y % 18446744073709551616 : Nat) : Int)]) ∧ w' = w := by
  obtain ⟨bd, bt, bw, hhi⟩ := Lib.mul64_hi x y hx hy
  have ba := Lib.half_mul_le (a := x / 4294967296) (b := y / 4294967296) (by omega) (by omega)
  have bb := Lib.half_mul_le (a := x / 4294967296) (b := y % 4294967296) (by omega) (by omega)
  have bc := Lib.half_mul_le (a := x % 4294967296) (b := y / 4294967296) (by omega) (by omega)
  have ba' : x / 4294967296 * (y / 4294967296) < 18446744073709551616 := by omega
  have bb' : x / 4294967296 * (y % 4294967296) < 18446744073709551616 := by omega
  have bc' : x % 4294967296 * (y / 4294967296) < 18446744073709551616 := by omega
  have bh1 : x / 4294967296 * (y / 4294967296) + (x / 4294967296 * (y % 4294967296) + x % 4294967296 * (y % 4294967296) / 4294967296) / 4294967296 < 18446744073709551616 := by omega
  have bh : x / 4294967296 * (y / 4294967296) + (x / 4294967296 * (y % 4294967296) + x % 4294967296 * (y % 4294967296) / 4294967296) / 4294967296 + ((x / 4294967296 * (y % 4294967296) + x % 4294967296 * (y % 4294967296) / 4294967296) % 4294967296 + x % 4294967296 * (y / 4294967296)) / 4294967296 < 18446744073709551616 := by omega
  go_enter Tryd.func38, Tryd.ntmps38
  go_wp2
  simp only [m64N x hx, m64N y hy, m64d, m64m, m64a, m64w _ bd, m64w _ bb', m64w _ bt, m64N _ bt, m64w _ bc', m64w _ bw, m64w _ ba', m64w _ bh1, m64w _ bh, m64r (x * y)]
  rw [hhi]
  go_ret2
  exact ⟨rfl, rfl⟩

theorem add64_run (x y : Nat) (w : World) :
    (callFunc 39 #[.int .u64 x, .int .u64 y, .int .u64 0]).run Tryd.prog w =
      .ok (.value (.tuple #[.int .u64 (((x + y) % 18446744073709551616 : Nat) : Int), .int .u64 (((x + y) / 18446744073709551616 : Nat) : Int)])) w := by
  rw [run_callFunc_extern Tryd.func39 (by kernel_rfl) (by kernel_rfl) (by kernel_rfl) (e := add64Entry) (by kernel_rfl), run_add64 x y 0 (by omega) (by omega) (by omega) (by omega)]
  simp only [Result.andThen]
  congr 5 <;> omega

set_option maxHeartbeats 800000 in
set_option maxRecDepth 100000 in
/-- A product is added to what two words hold. -/
theorem addProduct_c (g s x y : Nat) (hx : x ≤ 18446744073709551615) (hy : y ≤ 18446744073709551615) (hs : s + x * y < 340282366920938463463374607431768211456) (w : World) (h : NB .u64 w g 67 [s / 18446744073709551616, s % 18446744073709551616]) :
    Calls Tryd.prog 35 #[.pointer (some ⟨g, 0, none⟩), .int .u64 (x : Int), .int .u64 (y : Int)] w fun e w' => e = .returned (.tuple #[]) ∧ NB .u64 w' g 67 [(s + x * y) / 18446744073709551616, (s + x * y) % 18446744073709551616] ∧ Keeps (fun k => k = g) w w' := by
  have HM := hidden (mul64_c x y (by omega) (by omega) w)
  obtain ⟨p, hp⟩ : ∃ p, p = x * y := ⟨_, rfl⟩
  rw [← hp] at HM hs ⊢
  obtain ⟨ph, hph⟩ : ∃ z, z = p / 18446744073709551616 := ⟨_, rfl⟩
  obtain ⟨pl, hpl⟩ : ∃ z, z = p % 18446744073709551616 := ⟨_, rfl⟩
  obtain ⟨sh, hsh⟩ : ∃ z, z = s / 18446744073709551616 := ⟨_, rfl⟩
  obtain ⟨sl, hsl⟩ : ∃ z, z = s % 18446744073709551616 := ⟨_, rfl⟩
  rw [← hph, ← hpl] at HM
  rw [← hsh, ← hsl] at h
  have HA := add64_run sl pl
  obtain ⟨rl, hrl⟩ : ∃ z, z = (sl + pl) % 18446744073709551616 := ⟨_, rfl⟩
  obtain ⟨ro, hro⟩ : ∃ z, z = (sl + pl) / 18446744073709551616 := ⟨_, rfl⟩
  rw [← hrl, ← hro] at HA
  have e1 : (s + p) / 18446744073709551616 = sh + (ph + ro) := by omega
  have e2 : (s + p) % 18446744073709551616 = rl := by omega
  have hb1 : ph + ro ≤ 18446744073709551615 := by omega
  have hb2 : sh + (ph + ro) ≤ 18446744073709551615 := by omega
  rw [e1, e2]
  have hi1 : (ph : Int) + (ro : Int) = ((ph + ro : Nat) : Int) := by omega
  have hi2 : (sh : Int) + ((ph + ro : Nat) : Int) = ((sh + (ph + ro) : Nat) : Int) := by omega
  generalize ph + ro = po at hb1 hb2 hi1 hi2 ⊢
  generalize sh + po = so at hb2 hi2 ⊢
  have hw1 := m64w po (by omega)
  have hw2 := m64w so (by omega)
  have hc0 := h.cell 0 (by simp)
  have hc1 := h.cell 1 (by simp)
  rw [show [sh, sl].getD 0 0 = sh from rfl] at hc0
  rw [show [sh, sl].getD 1 0 = sl from rfl] at hc1
  have hf := h.frozen
  have H := hidden h
  have HA' := HA w
  clear h HA hp hph hpl hsh hsl hrl hro hs e1 e2 hx hy hb1 hb2
  go_enter Tryd.func35, Tryd.ntmps35
  go_wp2_with fail
  refine HM.out.mono ?_
  rintro e w' ⟨rfl, hw⟩
  rw [hw]
  go_wp2
  go_end0
  refine ⟨rfl, ?_, ?_⟩
  · exact (H.out.set 1 rl).set 0 so
  · exact ((Keeps.refl (fun k => k = g) w).setCell (p := ⟨g, 1, none⟩) (.inl rfl) _).setCell (p := ⟨g, 0, none⟩) (.inl rfl) _

set_option maxHeartbeats 800000 in
set_option maxRecDepth 100000 in
theorem carry_c (g : Nat) (L : List Nat) (hL : L.length = 5) (hb : ∀ i, i < 5 → L.getD i 0 ≤ 1152921504606846976) (w : World) (h : NB .u64 w g 40 L) :
    Calls Tryd.prog 37 #[.pointer (some ⟨g, 0, none⟩)] w fun e w' => e = .returned (.int .u64 ((cyTo L 5).2 : Nat)) ∧ NB .u64 w' g 40 (cyTo L 5).1 ∧ Keeps (fun k => k = g) w w' := by
  have HB := hidden hb
  have H := hidden h
  clear hb h
  go_enter Tryd.func37, Tryd.ntmps37
  go_wp2_with fail
  go_loopw [3, 5] (fun o c wr => ∃ i : Nat, i ≤ 5 ∧ c = .int .i64 (i : Int) ∧ o = .int .u64 ((cyTo L i).2 : Nat) ∧ NB .u64 wr g 40 (cyTo L i).1 ∧ Keeps (fun k => k = g) w wr) (fun _ c _ => 5 - (intOf c).toNat)
  case atStart => exact ⟨0, by omega, rfl, rfl, H.out, Keeps.refl _ _⟩
  case round =>
    obtain ⟨i, hi, rfl, rfl, hn, hk⟩ := hrel
    have HN := hidden hn
    have HK := hidden hk
    clear hn hk
    by_cases hlt : i < 5
    · have hlt' : (i : Int) < 5 := by omega
      have hlen := cyTo_length L i
      have hc := HN.out.cell i (by omega)
      have hf := HN.out.frozen i
      have hbd := cyTo_small L HB.out i hlt
      obtain ⟨s, hs⟩ : ∃ s, s = (cyTo L i).2 + (cyTo L i).1.getD i 0 := ⟨_, rfl⟩
      have hs2 : s ≤ 1300000000000000000 := by omega
      have hand := mask51 s (by omega)
      have HS : Hid (cyTo L (i + 1) = ((cyTo L i).1.set i (s % 2251799813685248), s / 2251799813685248)) := by rw [hs]; rfl
      have hs3 : (((cyTo L i).2 : Nat) : Int) + (((cyTo L i).1.getD i 0 : Nat) : Int) = (s : Int) := by omega
      generalize (cyTo L i).1.getD i 0 = x at hc hs3
      generalize (cyTo L i).2 = o at hs3 ⊢
      clear hbd hs hlen
      go_wp2
      go_roundw
      case rel =>
        refine ⟨i + 1, by omega, by go_num, ?_, ?_, HK.out.setCell (p := ⟨g, i, none⟩) (.inl rfl) _⟩
        · rw [HS.out]; go_num
        · rw [HS.out]; exact HN.out.set i (s % 2251799813685248)
      case measure => simp [intOf]; omega
    · have hlt' : ¬ (i : Int) < 5 := by omega
      obtain rfl : i = 5 := by omega
      go_wp2
      go_ret
      exact ⟨rfl, HN.out, HK.out⟩
set_option maxHeartbeats 800000 in
set_option maxRecDepth 100000 in
theorem foldTop_c (g : Nat) (L : List Nat) (hL : L.length = 5) (hb : ∀ i, i < 5 → L.getD i 0 ≤ 1152921504606846976) (ho : (cyTo L 5).2 ≤ 2) (h0 : (cyTo L 5).1.getD 0 0 ≤ 2251799813685247) (w : World) (h : NB .u64 w g 40 L) :
    Calls Tryd.prog 36 #[.pointer (some ⟨g, 0, none⟩)] w fun e w' => e = .returned (.tuple #[]) ∧ NB .u64 w' g 40 (foldL L) ∧ Keeps (fun k => k = g) w w' := by
  have HC := hidden (carry_c g L hL hb w h)
  have hlen := cyTo_length L 5
  have HF : Hid (foldL L = (cyTo L 5).1.set 0 ((cyTo L 5).1.getD 0 0 + 19 * (cyTo L 5).2)) := rfl
  clear h hb
  go_enter Tryd.func36, Tryd.ntmps36
  go_wp2_with fail
  refine HC.out.mono ?_
  rintro e w1 ⟨rfl, hn, hk⟩
  have hc := hn.cell 0 (by omega)
  have hf := hn.frozen 0
  have HN := hidden hn
  have HK := hidden hk
  clear hn hk HC
  obtain ⟨s, hs⟩ : ∃ s, s = (cyTo L 5).1.getD 0 0 + 19 * (cyTo L 5).2 := ⟨_, rfl⟩
  rw [← hs] at HF
  have hs3 : (((cyTo L 5).1.getD 0 0 : Nat) : Int) + 19 * (((cyTo L 5).2 : Nat) : Int) = (s : Int) := by omega
  have hs2 : s ≤ 3000000000000000 := by omega
  generalize (cyTo L 5).1.getD 0 0 = x at hc hs3 h0
  generalize (cyTo L 5).2 = o at ho hs3 ⊢
  clear hs hlen
  go_wp2_with fail
  go_region
  go_end0
  refine ⟨rfl, ?_, (HK.out.setCell (p := ⟨g, 0, none⟩) (.inl rfl) _).drew⟩
  rw [HF.out]
  exact HN.out.set 0 s
end Go.Proofs.YtdgapijgdbhlfaaDoor
