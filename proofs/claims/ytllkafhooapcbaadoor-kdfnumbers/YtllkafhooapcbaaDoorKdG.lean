/- SHA-256 of a text, by the program. -/
import Derived.Test.YtllkafhooapcbaaDoorKdF
namespace Go.Proofs.YtllkafhooapcbaaDoor
open Go Go.RowKit

def wB (x : Int) : List UInt8 := [byteOf (x / 16777216), byteOf (x / 65536), byteOf (x / 256), byteOf x]
theorem wB_cells (x : Int) : (#[.int .u8 (x / 16777216 % 256), .int .u8 (x / 65536 % 256), .int .u8 (x / 256 % 256), .int .u8 (x % 256)] : Array Value) = (bcells (wB x)).toArray := by
  simp [bcells, wB, byteOf_nat]
def outB (L : List Int) : Nat → List UInt8
  | 0 => []
  | j + 1 => outB L j ++ wB (L.getD j 0)
theorem outB_length (L : List Int) (j : Nat) : (outB L j).length = 4 * j := by
  induction j with
  | zero => rfl
  | succ j ih => rw [outB, List.length_append, ih]; simp [wB]; omega

set_option maxHeartbeats 800000 in
set_option maxRecDepth 100000 in
theorem bytes_c (g : Nat) (L : List Int) (hL : L.length = 8) (w : World) (hg : WB w g 55 L) :
    Calls Tryd.prog 33 #[.pointer (some ⟨g, 0, none⟩)] w fun e w' => Fresh w (outB L 8) e w' := by
  obtain ⟨i0, hi, hz0, hz1, hz2⟩ := info_parts Tryd.infoU8
  have HG := hidden hg
  clear hg
  go_enter Tryd.func33, Tryd.ntmps33
  go_wp2_with (refine wpList_make_own _ rfl (.const (.int .i64 0)) (.const (.int .i64 32)) 22 rfl w.heap.size 5 i0 _ 1 Tryd.underlying22 hi hz0 hz1 .i64 .i64 _ 32 rfl rfl (by omega) (by rw [hz2]; omega) (by unfold maxLen; omega) (Nat.le_refl _) ?_)
  intro w1 ho1 hgr1
  have O1 : Hid (Own w w1 (.slice (some ⟨w.heap.size, 0, none⟩) 0 32) []) := ⟨ho1, (Below.refl _ w).grown hgr1 (by simp) (by simp)⟩
  clear ho1 hgr1 hi hz0 hz1 hz2
  go_wp2_with fail
  go_loopw [3, 8] (fun s c wr => ∃ j : Nat, j ≤ 8 ∧ c = .int .i64 (j : Int) ∧ Own w wr s (outB L j)) (fun _ c _ => 8 - (intOf c).toNat)
  case atStart => exact ⟨0, by omega, rfl, O1.out⟩
  case round =>
    clear O1
    obtain ⟨j, hj, rfl, ho⟩ := hrel
    have HO := hidden ho
    clear ho
    by_cases hlt : j < 8
    · have hlt' : (j : Int) < 8 := by omega
      have c1 := (HG.out.keep (S := fun _ => False) (Keeps.ofFresh HO.out.b) (fun h => h)).cell j (by omega)
      have HE : Hid (outB L (j + 1) = outB L j ++ wB (L.getD j 0)) := rfl
      have HLn := hidden (outB_length L j)
      generalize L.getD j 0 = x at c1 HE
      generalize outB L j = D at HO HE HLn
      go_wp2_with (at_builtin; (refine wpList_own _ rfl (.tmp 13) (.tmp 25) 22 rfl w _ D rfl (HO.out.alloc _) _ (wB x) rfl ?hc ?hl ?_))
      case hl => rw [HLn.out]; simp [wB]; omega
      case hc => exact srcBlock (wB_cells x) (heap_alloc_new wr _)
      intro v4 w4 o4 _ _
      have O4 := hidden o4
      clear o4
      go_wp2
      go_roundw
      case rel => exact ⟨j + 1, by omega, by go_num, by rw [HE.out]; exact O4.out⟩
      case measure => simp [intOf]; omega
    · have hlt' : ¬ (j : Int) < 8 := by omega
      obtain rfl : j = 8 := by omega
      go_wp2
      go_ret
      exact HO.out.fresh

theorem blocksTo_left (L : List Int) (A B : List UInt8) (i : Nat) (h : 64 * i ≤ A.length) : blocksTo L (A ++ B) i = blocksTo L A i := by
  induction i with
  | zero => rfl
  | succ i ih =>
    rw [blocksTo, blocksTo, ih (by omega), List.drop_append_of_le_length (by omega), List.take_append_of_le_length (by simp; omega)]
theorem blocksTo_append (L : List Int) (A B : List UInt8) (k e : Nat) (h : A.length = 64 * k) : blocksTo L (A ++ B) (k + e) = blocksTo (blocksTo L A k) B e := by
  induction e with
  | zero => exact blocksTo_left L A B k (by omega)
  | succ e ih =>
    rw [← Nat.add_assoc, blocksTo, blocksTo, ih]
    congr 2
    rw [show 64 * (k + e) = A.length + 64 * e by omega, List.drop_append, List.drop_of_length_le (by omega), List.nil_append]
    congr 1
    omega
/-- How many blocks a text of n bytes has. -/
def blocksN (n : Nat) : Nat := (n + 9 + zN n) / 64
theorem padTail_length (n : Nat) : (padTail n).length = 9 + zN n := by simp [padTail, be_length]; omega
theorem blocksN_len (n : Nat) : n + 9 + zN n = 64 * blocksN n := by unfold blocksN zN; omega
/-- SHA-256. -/
def sumL (xs : List UInt8) : List UInt8 := outB (blocksTo iv (xs ++ padTail xs.length) (blocksN xs.length)) 8
theorem sumL_length (xs : List UInt8) : (sumL xs).length = 32 := outB_length _ _
theorem sumL_split (xs : List UInt8) : sumL xs = outB (blocksTo (blocksTo iv (xs.take (64 * (xs.length / 64))) (xs.length / 64)) (xs.drop (64 * (xs.length / 64)) ++ padTail xs.length) (blocksN xs.length - xs.length / 64)) 8 := by
  have h := blocksTo_append iv (xs.take (64 * (xs.length / 64))) (xs.drop (64 * (xs.length / 64)) ++ padTail xs.length) (xs.length / 64) (blocksN xs.length - xs.length / 64) (by simp; omega)
  rw [← h, ← List.append_assoc, List.take_append_drop, sumL]
  congr 2
  unfold blocksN
  omega
end Go.Proofs.YtllkafhooapcbaaDoor
