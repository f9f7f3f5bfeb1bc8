/- What the Writer's numbers write. -/
import Derived.Test.YtnigfnikajejaabWrA
import Derived.Deep.RegionLaw
namespace Go.Proofs.Ytnigfnikajejaab
open Go Go.RowKit

/-- k bytes of n, the highest first. -/
def be : Nat → Nat → List UInt8
  | 0, _ => []
  | k + 1, n => UInt8.ofNat (n / 256 ^ k % 256) :: be k n
theorem be_length (k n : Nat) : (be k n).length = k := by
  induction k with
  | zero => rfl
  | succ k ih => simp [be, ih]

theorem be_cell (n i : Nat) : bcells [UInt8.ofNat (n / 256 ^ i % 256)] = [Value.int .u8 (IntKind.u8.wrap ((n : Int) / 2 ^ (8 * (i : Int)).toNat))] := by
  have h1 : (8 * (i : Int)).toNat = 8 * i := by omega
  have h2 : (2 : Nat) ^ (8 * i) = 256 ^ i := by rw [Nat.pow_mul]
  have h3 : ((n : Int) / 2 ^ (8 * i)) = ((n / 256 ^ i : Nat) : Int) := by rw [← h2]; simp
  rw [h1, h3]
  generalize n / 256 ^ i = x
  have h4 : IntKind.u8.wrap (x : Int) = ((x % 256 : Nat) : Int) := by simp [IntKind.wrap, IntKind.bits, IntKind.signed]
  rw [h4]
  simp [bcells]

theorem srcAt {W : World} {B : Nat} {x : Int} (hb : W.heap[B]? = some (.cells #[.int .u8 x] 5 (0, 0))) : Src Try.prog 1 28 (.slice (some ⟨B, 0, none⟩) 1 1) 1 [.int .u8 x] W :=
  Src.ofSlice _ Try.underlying28 ⟨B, 0, none⟩ 1 1 [.int .u8 x] rfl (World.news_of_block (cs := #[.int .u8 x]) (t := 5) (fr := (0, 0)) hb) (by intro u hu; simp at hu; subst hu; rfl)

set_option maxHeartbeats 800000 in
set_option maxRecDepth 100000 in
theorem number_c (n k : Nat) (_hn : n < 2 ^ 64) (hk : 1 ≤ k) (hk8 : k ≤ 8) (w : World) {base a : Nat} {g : Option Nat} {bs : List UInt8} (h : WS w base a g bs) (hl : bs.length + 8 ≤ 140737488355328) :
    Calls Try.prog 51 #[.pointer (some ⟨a, 0, none⟩), .int .u64 n, .int .i64 k] w fun e w' => e = .returned (.tuple #[]) ∧ ∃ g', WS w' base a g' (bs ++ be k n) ∧ Wrote a g g' w w' := by
  obtain ⟨i0, hi, hz0, hz1, hz2⟩ := info_parts Try.infoU8
  go_enter Try.func51, Try.ntmps51
  go_wp2
  go_loopw [6] (fun s wr => ∃ j : Nat, j ≤ k ∧ s = .int .i64 (8 * (j : Int) - 8) ∧ ∃ pre g', pre ++ be j n = be k n ∧ WS wr base a g' (bs ++ pre) ∧ Wrote a g g' w wr) (fun s _ => (intOf s + 8).toNat)
  case atStart => exact ⟨k, Nat.le_refl _, by go_num, [], g, rfl, by simpa using h, Wrote.refl _ _ _⟩
  case round =>
    obtain ⟨j, hj, rfl, pre, g', hpre, hws, hwr⟩ := hrel
    match j, hj, hpre with
    | 0, _, hpre =>
      have HP : Hid (bs ++ pre = bs ++ be k n) := by simp [be] at hpre; rw [hpre]; rfl
      clear hpre
      go_wp2
      go_end0
      exact ⟨rfl, g', by rw [← HP.out]; exact hws, hwr⟩
    | i + 1, hj, hpre =>
      have hpl : pre.length + (i + 1) = k := by have := congrArg List.length hpre; simpa [be_length] using this
      have hpl8 : pre.length + 1 ≤ 8 := by omega
      have HL : Hid (pre.length + (i + 1) = k) := hpl
      clear hpl
      have HP : Hid (pre ++ be (i + 1) n = be k n) := hpre
      clear hpre
      rw [show (8 * ((i + 1 : Nat) : Int) - 8) = ((8 * i : Nat) : Int) from by omega]
      have hp0 : (0 : Int) ≤ ((8 * i : Nat) : Int) := Int.natCast_nonneg _
      have hp1 : ((8 * i : Nat) : Int) < 64 := by omega
      obtain ⟨v, ha, hown, rfl, hne, hba⟩ := hws
      rw [List.length_append] at hown
      have hlt := lt_of_block ha
      have hc := cell_of_one ha
      have hf := free_of_one ha
      go_wp2_with fail
      go_region_law ((refine step_append_src _ (by rfl) (.tmp 18) (.tmp 23) 28 28 (by rfl) base 5 i0 _ 1 Try.underlying28 hi hz0 hz1 hz2 rfl v _ _ (by rfl) ((hown.alloc _).drew) _ 1 _ (by rfl) (srcAt (heap_alloc_new wr _)) (by unfold maxLen; simp; omega) (by simp; omega) (by simp; omega) (wr.heap.size + 1) (by simp) ?_; intro v' w1 hown' hgrow hnil hat; obtain ⟨ao, cp, rfl⟩ := ownsRow_shape hown'; have h1 := block_grown ha rfl hne ((Keeps.refl _ _).alloc _).drew hgrow; have hf1 := free_of_one h1; have hc1 := cell_of_one h1))
      all_goals
        have R := WS.stored (bs := bs ++ pre) (news := [UInt8.ofNat (n / 256 ^ i % 256)]) ha rfl hne hba ((Keeps.refl _ _).alloc _).drew (m := bs.length + pre.length + 1) (by simp) (by rw [be_cell]; exact hown') hgrow hat (by omega)
        clear hown' hgrow hnil hat h1 hown hc hf hc1 hf1 ha
        go_wp2
        go_roundw
        case rel => exact ⟨i, by omega, by go_num, pre ++ [UInt8.ofNat (n / 256 ^ i % 256)], _, by rw [← HP.out]; simp [be], by rw [← List.append_assoc]; exact R.1, hwr.trans R.2⟩
        case measure => simp [intOf]; omega

end Go.Proofs.Ytnigfnikajejaab
