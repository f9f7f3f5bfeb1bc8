/- SHA-256's words: rotations, both sides. -/
import Derived.Test.YtllkafhooapcbaaDoorKp
import Derived.Test.YtllkafhooapcbaaDoorOrdB
import Derived.Test.YtllkafhooapcbaaDoorRowl
import Derived.BigRegion
import Derived.Deep.RegionWith
import Derived.Deep.Cut
import Derived.Deep.CutRange
import Derived.Laws.BitsAllLaws
namespace Go.Proofs.YtllkafhooapcbaaDoor
open Go Go.RowKit

/-- A word turned to the right, spelt with the powers that the two shifts multiply and divide by. -/
def rr (p q x : Int) : Int := bits BinOp.or IntKind.u32 (x * p % 4294967296) (x / q)
theorem or_comm32 (x y : Int) : bits BinOp.or IntKind.u32 x y = bits BinOp.or IntKind.u32 y x := by
  show IntKind.u32.wrap (((BitVec.ofInt IntKind.u32.bits x ||| BitVec.ofInt IntKind.u32.bits y).toNat : Nat) : Int) = _
  rw [BitVec.or_comm]
  rfl
def r6 (x : Int) : Int := rr 67108864 64 x
def r11 (x : Int) : Int := rr 2097152 2048 x
def r25 (x : Int) : Int := rr 128 33554432 x
def r2 (x : Int) : Int := rr 1073741824 4 x
def r13 (x : Int) : Int := rr 524288 8192 x
def r22 (x : Int) : Int := rr 1024 4194304 x
def r17 (x : Int) : Int := rr 32768 131072 x
def r19 (x : Int) : Int := rr 8192 524288 x
def r7 (x : Int) : Int := rr 33554432 128 x
def r18 (x : Int) : Int := rr 16384 262144 x
section
variable (x : Int) (w : World)
theorem rot6_c : Calls Tryd.prog 52 #[.int .u32 x, .int .i64 (-6)] w fun e w' => e = .returned (.int .u32 (r6 x)) ∧ w' = w := by
  have h : bits BinOp.and IntKind.u64 (IntKind.u64.wrap (-6)) 31 = 26 := by decide +kernel
  go_enter Tryd.func52, Tryd.ntmps52
  go_wp2
  go_ret
  exact ⟨rfl, rfl⟩
theorem turn6_c : Calls Tryd.prog 35 #[.int .u32 x, .int .u64 6] w fun e w' => e = .returned (.int .u32 (r6 x)) ∧ w' = w := by
  have HO := hidden (or_comm32 (x * 67108864 % 4294967296) (x / 64))
  go_enter Tryd.func35, Tryd.ntmps35
  go_wp2
  go_ret
  refine ⟨?_, rfl⟩
  unfold r6 rr
  rw [HO.out]
  rfl
theorem rot11_c : Calls Tryd.prog 52 #[.int .u32 x, .int .i64 (-11)] w fun e w' => e = .returned (.int .u32 (r11 x)) ∧ w' = w := by
  have h : bits BinOp.and IntKind.u64 (IntKind.u64.wrap (-11)) 31 = 21 := by decide +kernel
  go_enter Tryd.func52, Tryd.ntmps52
  go_wp2
  go_ret
  exact ⟨rfl, rfl⟩
theorem turn11_c : Calls Tryd.prog 35 #[.int .u32 x, .int .u64 11] w fun e w' => e = .returned (.int .u32 (r11 x)) ∧ w' = w := by
  have HO := hidden (or_comm32 (x * 2097152 % 4294967296) (x / 2048))
  go_enter Tryd.func35, Tryd.ntmps35
  go_wp2
  go_ret
  refine ⟨?_, rfl⟩
  unfold r11 rr
  rw [HO.out]
  rfl
theorem rot25_c : Calls Tryd.prog 52 #[.int .u32 x, .int .i64 (-25)] w fun e w' => e = .returned (.int .u32 (r25 x)) ∧ w' = w := by
  have h : bits BinOp.and IntKind.u64 (IntKind.u64.wrap (-25)) 31 = 7 := by decide +kernel
  go_enter Tryd.func52, Tryd.ntmps52
  go_wp2
  go_ret
  exact ⟨rfl, rfl⟩
theorem turn25_c : Calls Tryd.prog 35 #[.int .u32 x, .int .u64 25] w fun e w' => e = .returned (.int .u32 (r25 x)) ∧ w' = w := by
  have HO := hidden (or_comm32 (x * 128 % 4294967296) (x / 33554432))
  go_enter Tryd.func35, Tryd.ntmps35
  go_wp2
  go_ret
  refine ⟨?_, rfl⟩
  unfold r25 rr
  rw [HO.out]
  rfl
theorem rot2_c : Calls Tryd.prog 52 #[.int .u32 x, .int .i64 (-2)] w fun e w' => e = .returned (.int .u32 (r2 x)) ∧ w' = w := by
  have h : bits BinOp.and IntKind.u64 (IntKind.u64.wrap (-2)) 31 = 30 := by decide +kernel
  go_enter Tryd.func52, Tryd.ntmps52
  go_wp2
  go_ret
  exact ⟨rfl, rfl⟩
theorem turn2_c : Calls Tryd.prog 35 #[.int .u32 x, .int .u64 2] w fun e w' => e = .returned (.int .u32 (r2 x)) ∧ w' = w := by
  have HO := hidden (or_comm32 (x * 1073741824 % 4294967296) (x / 4))
  go_enter Tryd.func35, Tryd.ntmps35
  go_wp2
  go_ret
  refine ⟨?_, rfl⟩
  unfold r2 rr
  rw [HO.out]
  rfl
theorem rot13_c : Calls Tryd.prog 52 #[.int .u32 x, .int .i64 (-13)] w fun e w' => e = .returned (.int .u32 (r13 x)) ∧ w' = w := by
  have h : bits BinOp.and IntKind.u64 (IntKind.u64.wrap (-13)) 31 = 19 := by decide +kernel
  go_enter Tryd.func52, Tryd.ntmps52
  go_wp2
  go_ret
  exact ⟨rfl, rfl⟩
theorem turn13_c : Calls Tryd.prog 35 #[.int .u32 x, .int .u64 13] w fun e w' => e = .returned (.int .u32 (r13 x)) ∧ w' = w := by
  have HO := hidden (or_comm32 (x * 524288 % 4294967296) (x / 8192))
  go_enter Tryd.func35, Tryd.ntmps35
  go_wp2
  go_ret
  refine ⟨?_, rfl⟩
  unfold r13 rr
  rw [HO.out]
  rfl
theorem rot22_c : Calls Tryd.prog 52 #[.int .u32 x, .int .i64 (-22)] w fun e w' => e = .returned (.int .u32 (r22 x)) ∧ w' = w := by
  have h : bits BinOp.and IntKind.u64 (IntKind.u64.wrap (-22)) 31 = 10 := by decide +kernel
  go_enter Tryd.func52, Tryd.ntmps52
  go_wp2
  go_ret
  exact ⟨rfl, rfl⟩
theorem turn22_c : Calls Tryd.prog 35 #[.int .u32 x, .int .u64 22] w fun e w' => e = .returned (.int .u32 (r22 x)) ∧ w' = w := by
  have HO := hidden (or_comm32 (x * 1024 % 4294967296) (x / 4194304))
  go_enter Tryd.func35, Tryd.ntmps35
  go_wp2
  go_ret
  refine ⟨?_, rfl⟩
  unfold r22 rr
  rw [HO.out]
  rfl
theorem rot17_c : Calls Tryd.prog 52 #[.int .u32 x, .int .i64 (-17)] w fun e w' => e = .returned (.int .u32 (r17 x)) ∧ w' = w := by
  have h : bits BinOp.and IntKind.u64 (IntKind.u64.wrap (-17)) 31 = 15 := by decide +kernel
  go_enter Tryd.func52, Tryd.ntmps52
  go_wp2
  go_ret
  exact ⟨rfl, rfl⟩
theorem turn17_c : Calls Tryd.prog 35 #[.int .u32 x, .int .u64 17] w fun e w' => e = .returned (.int .u32 (r17 x)) ∧ w' = w := by
  have HO := hidden (or_comm32 (x * 32768 % 4294967296) (x / 131072))
  go_enter Tryd.func35, Tryd.ntmps35
  go_wp2
  go_ret
  refine ⟨?_, rfl⟩
  unfold r17 rr
  rw [HO.out]
  rfl
theorem rot19_c : Calls Tryd.prog 52 #[.int .u32 x, .int .i64 (-19)] w fun e w' => e = .returned (.int .u32 (r19 x)) ∧ w' = w := by
  have h : bits BinOp.and IntKind.u64 (IntKind.u64.wrap (-19)) 31 = 13 := by decide +kernel
  go_enter Tryd.func52, Tryd.ntmps52
  go_wp2
  go_ret
  exact ⟨rfl, rfl⟩
theorem turn19_c : Calls Tryd.prog 35 #[.int .u32 x, .int .u64 19] w fun e w' => e = .returned (.int .u32 (r19 x)) ∧ w' = w := by
  have HO := hidden (or_comm32 (x * 8192 % 4294967296) (x / 524288))
  go_enter Tryd.func35, Tryd.ntmps35
  go_wp2
  go_ret
  refine ⟨?_, rfl⟩
  unfold r19 rr
  rw [HO.out]
  rfl
theorem rot7_c : Calls Tryd.prog 52 #[.int .u32 x, .int .i64 (-7)] w fun e w' => e = .returned (.int .u32 (r7 x)) ∧ w' = w := by
  have h : bits BinOp.and IntKind.u64 (IntKind.u64.wrap (-7)) 31 = 25 := by decide +kernel
  go_enter Tryd.func52, Tryd.ntmps52
  go_wp2
  go_ret
  exact ⟨rfl, rfl⟩
theorem turn7_c : Calls Tryd.prog 35 #[.int .u32 x, .int .u64 7] w fun e w' => e = .returned (.int .u32 (r7 x)) ∧ w' = w := by
  have HO := hidden (or_comm32 (x * 33554432 % 4294967296) (x / 128))
  go_enter Tryd.func35, Tryd.ntmps35
  go_wp2
  go_ret
  refine ⟨?_, rfl⟩
  unfold r7 rr
  rw [HO.out]
  rfl
theorem rot18_c : Calls Tryd.prog 52 #[.int .u32 x, .int .i64 (-18)] w fun e w' => e = .returned (.int .u32 (r18 x)) ∧ w' = w := by
  have h : bits BinOp.and IntKind.u64 (IntKind.u64.wrap (-18)) 31 = 14 := by decide +kernel
  go_enter Tryd.func52, Tryd.ntmps52
  go_wp2
  go_ret
  exact ⟨rfl, rfl⟩
theorem turn18_c : Calls Tryd.prog 35 #[.int .u32 x, .int .u64 18] w fun e w' => e = .returned (.int .u32 (r18 x)) ∧ w' = w := by
  have HO := hidden (or_comm32 (x * 16384 % 4294967296) (x / 262144))
  go_enter Tryd.func35, Tryd.ntmps35
  go_wp2
  go_ret
  refine ⟨?_, rfl⟩
  unfold r18 rr
  rw [HO.out]
  rfl
end
end Go.Proofs.YtllkafhooapcbaaDoor
