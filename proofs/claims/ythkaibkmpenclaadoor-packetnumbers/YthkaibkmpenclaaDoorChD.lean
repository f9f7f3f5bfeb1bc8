/- Words out of bytes, both sides. -/
import Derived.Test.YthkaibkmpenclaaDoorChC
import Derived.Test.YthkaibkmpenclaaDoorBsl
import Derived.BigRegion
namespace Go.Proofs.YthkaibkmpenclaaDoor
open Go Go.RowKit

/-- Four bytes, the lowest first. -/
def word (b0 b1 b2 b3 : Nat) : Int :=
  bits BinOp.or IntKind.u32 (bits BinOp.or IntKind.u32 (bits BinOp.or IntKind.u32 ((b0 : Int) % 4294967296) ((b1 : Int) % 4294967296 * 256 % 4294967296)) ((b2 : Int) % 4294967296 * 65536 % 4294967296)) ((b3 : Int) % 4294967296 * 16777216 % 4294967296)
def wordAt (xs : List UInt8) (k : Nat) : Int := word (xs.getD k 0).toNat (xs.getD (k + 1) 0).toNat (xs.getD (k + 2) 0).toNat (xs.getD (k + 3) 0).toNat

set_option maxHeartbeats 400000 in
set_option maxRecDepth 100000 in
theorem get_c (b off n cap : Nat) (xs : List UInt8) (hx : 4 ≤ xs.length) (hn : n = xs.length) (w : World) (hv : BSl w (.slice (some ⟨b, off, none⟩) n cap) xs) :
    Calls Tryd.prog 82 #[.slice (some ⟨b, off, none⟩) n cap] w fun e w' => e = .returned (.int .u32 (wordAt xs 0)) ∧ Keeps (fun _ => False) w w' := by
  have k0 := hv.cellD 0 (by omega)
  rw [Nat.add_zero] at k0
  have k1 := hv.cellD 1 (by omega)
  have k2 := hv.cellD 2 (by omega)
  have k3 := hv.cellD 3 (by omega)
  have l0 : (0 : Int) < (n : Int) := by omega
  have l1 : (1 : Int) < (n : Int) := by omega
  have l2 : (2 : Int) < (n : Int) := by omega
  have l3 : (3 : Int) < (n : Int) := by omega
  have HE : Hid (wordAt xs 0 = word (xs.getD 0 0).toNat (xs.getD 1 0).toNat (xs.getD 2 0).toNat (xs.getD 3 0).toNat) := rfl
  generalize (xs.getD 0 0).toNat = b0 at k0 HE
  generalize (xs.getD 1 0).toNat = b1 at k1 HE
  generalize (xs.getD 2 0).toNat = b2 at k2 HE
  generalize (xs.getD 3 0).toNat = b3 at k3 HE
  generalize wordAt xs 0 = x at HE ⊢
  clear hv hn
  go_enter Tryd.func82, Tryd.ntmps82
  go_wp2_with fail
  go_big_region
  go_wp2
  go_ret
  refine ⟨?_, (Keeps.refl _ _).drew⟩
  rw [HE.out]
  rfl

def putL (L : List Int) (off : Nat) (xs : List UInt8) : Nat → List Int
  | 0 => L
  | j + 1 => (putL L off xs j).set (off + j) (wordAt xs (4 * j))
theorem putL_length (L : List Int) (off : Nat) (xs : List UInt8) (j : Nat) : (putL L off xs j).length = L.length := by
  induction j with
  | zero => rfl
  | succ j ih => rw [putL, List.length_set, ih]

set_option maxHeartbeats 1600000 in
set_option maxRecDepth 100000 in
theorem putWords_c (g off n cap : Nat) (hn : n ≤ 16) (L : List Int) (hL : L.length = 16) (ho : off + n ≤ 16) (B O N C : Nat) (xs : List UInt8) (hx : xs.length = 4 * n) (hN : N = 4 * n) (hBg : B ≠ g) (w : World) (h : WB w g 98 L) (hv : BSl w (.slice (some ⟨B, O, none⟩) N C) xs) :
    Calls Tryd.prog 85 #[.slice (some ⟨g, off, none⟩) n cap, .slice (some ⟨B, O, none⟩) N C] w fun e w' => e = .returned (.tuple #[]) ∧ WB w' g 98 (putL L off xs n) ∧ Keeps (fun k => k = g) w w' := by
  go_enter Tryd.func85, Tryd.ntmps85
  go_wp2_with fail
  go_loopw [7] (fun i wr => ∃ j : Nat, j ≤ n ∧ i = .int .i64 (j : Int) ∧ WB wr g 98 (putL L off xs j) ∧ Keeps (fun k => k = g) w wr) (fun i _ => n - (intOf i).toNat)
  case atStart => exact ⟨0, by omega, by simp, h, Keeps.refl _ _⟩
  case round =>
    obtain ⟨j, hj, rfl, hw, hk⟩ := hrel
    clear h
    by_cases hlt : j < n
    · have hlt' : (j : Int) < (n : Int) := by omega
      have hv1 := hv.keep hk (fun k e => by simp [Value.ownBlock] at e; omega)
      have k0 := hv1.cellD (4 * j) (by omega)
      have k1 := hv1.cellD (4 * j + 1) (by omega)
      have k2 := hv1.cellD (4 * j + 2) (by omega)
      have k3 := hv1.cellD (4 * j + 3) (by omega)
      have hl : (4 * (j : Int) + 4) ≤ (N : Int) := by omega
      have hlen := putL_length L off xs j
      have cg := hw.cell (off + j) (by omega)
      have fz := hw.frozen (off + j)
      have HW := hidden hw
      have HK := hidden hk
      have HE : Hid (putL L off xs (j + 1) = (putL L off xs j).set (off + j) (word (xs.getD (4 * j) 0).toNat (xs.getD (4 * j + 1) 0).toNat (xs.getD (4 * j + 2) 0).toNat (xs.getD (4 * j + 3) 0).toNat)) := rfl
      clear hw hk hv hv1 hlen hN hx
      generalize (xs.getD (4 * j) 0).toNat = b0 at k0 HE
      generalize (xs.getD (4 * j + 1) 0).toNat = b1 at k1 HE
      generalize (xs.getD (4 * j + 2) 0).toNat = b2 at k2 HE
      generalize (xs.getD (4 * j + 3) 0).toNat = b3 at k3 HE
      go_wp2_with fail
      go_big_region
      go_wp2
      go_roundw
      case rel =>
        refine ⟨j + 1, by omega, by go_num, ?_, ?_⟩
        · rw [HE.out]
          exact (HW.out.set (off + j) _).drew
        · exact (HK.out.setCell (.inl rfl) _).drew
      case measure => simp [intOf]; omega
    · have hlt' : ¬ (j : Int) < (n : Int) := by omega
      obtain rfl : j = n := by omega
      go_wp2
      go_end0
      exact ⟨rfl, hw, hk⟩
end Go.Proofs.YthkaibkmpenclaaDoor
