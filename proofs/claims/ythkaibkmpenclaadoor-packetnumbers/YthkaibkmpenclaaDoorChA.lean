/- ChaCha's words: rotation and the quarter round, both sides. -/
import Derived.Test.YthkaibkmpenclaaDoorProg
import Derived.Test.YthkaibkmpenclaaDoorBase
import Derived.Test.YthkaibkmpenclaaDoorBsm
import Derived.Outline
import Derived.Laws.BitsAllLaws
namespace Go.Proofs.YthkaibkmpenclaaDoor
open Go Go.RowKit

/-- A word turned to the left by so many bits, spelt with the powers that the two shifts multiply and divide by. -/
def rotl (x p q : Int) : Int := bits BinOp.or IntKind.u32 (x * p % 4294967296) (x / q)
def xor32 (x y : Int) : Int := bits BinOp.xor IntKind.u32 x y
def add32 (x y : Int) : Int := (x + y) % 4294967296
def r16 (x : Int) : Int := rotl x 65536 65536
def r12 (x : Int) : Int := rotl x 4096 1048576
def r8 (x : Int) : Int := rotl x 256 16777216
def r7 (x : Int) : Int := rotl x 128 33554432

section
variable (x : Int) (w : World)
theorem rot16_c : Calls Tryd.prog 91 #[.int .u32 x, .int .i64 16] w fun e w' => e = .returned (.int .u32 (r16 x)) ∧ w' = w := by
  have h : bits BinOp.and IntKind.u64 16 31 = 16 := by decide +kernel
  go_enter Tryd.func91, Tryd.ntmps91
  go_wp2
  go_ret
  exact ⟨rfl, rfl⟩
theorem rot12_c : Calls Tryd.prog 91 #[.int .u32 x, .int .i64 12] w fun e w' => e = .returned (.int .u32 (r12 x)) ∧ w' = w := by
  have h : bits BinOp.and IntKind.u64 12 31 = 12 := by decide +kernel
  go_enter Tryd.func91, Tryd.ntmps91
  go_wp2
  go_ret
  exact ⟨rfl, rfl⟩
theorem rot8_c : Calls Tryd.prog 91 #[.int .u32 x, .int .i64 8] w fun e w' => e = .returned (.int .u32 (r8 x)) ∧ w' = w := by
  have h : bits BinOp.and IntKind.u64 8 31 = 8 := by decide +kernel
  go_enter Tryd.func91, Tryd.ntmps91
  go_wp2
  go_ret
  exact ⟨rfl, rfl⟩
theorem rot7_c : Calls Tryd.prog 91 #[.int .u32 x, .int .i64 7] w fun e w' => e = .returned (.int .u32 (r7 x)) ∧ w' = w := by
  have h : bits BinOp.and IntKind.u64 7 31 = 7 := by decide +kernel
  go_enter Tryd.func91, Tryd.ntmps91
  go_wp2
  go_ret
  exact ⟨rfl, rfl⟩
theorem turn16_c : Calls Tryd.prog 89 #[.int .u32 x, .int .u64 16] w fun e w' => e = .returned (.int .u32 (r16 x)) ∧ w' = w := by
  go_enter Tryd.func89, Tryd.ntmps89
  go_wp2
  go_ret
  exact ⟨rfl, rfl⟩
theorem turn12_c : Calls Tryd.prog 89 #[.int .u32 x, .int .u64 12] w fun e w' => e = .returned (.int .u32 (r12 x)) ∧ w' = w := by
  go_enter Tryd.func89, Tryd.ntmps89
  go_wp2
  go_ret
  exact ⟨rfl, rfl⟩
theorem turn8_c : Calls Tryd.prog 89 #[.int .u32 x, .int .u64 8] w fun e w' => e = .returned (.int .u32 (r8 x)) ∧ w' = w := by
  go_enter Tryd.func89, Tryd.ntmps89
  go_wp2
  go_ret
  exact ⟨rfl, rfl⟩
theorem turn7_c : Calls Tryd.prog 89 #[.int .u32 x, .int .u64 7] w fun e w' => e = .returned (.int .u32 (r7 x)) ∧ w' = w := by
  go_enter Tryd.func89, Tryd.ntmps89
  go_wp2
  go_ret
  exact ⟨rfl, rfl⟩
end

theorem results_tmp4 {fn : Func} {t u v x : Tmp} (h : fn.results = #[.tmp t, .tmp u, .tmp v, .tmp x]) (tmps : Array Value) (P : Program) (w : World) :
    (results fn tmps).run P w = .ok (.tuple #[tmps.getD t undef, tmps.getD u undef, tmps.getD v undef, tmps.getD x undef]) w := by
  simp [results, h]

/-- The quarter round's steps. -/
def qa1 (a b : Int) : Int := add32 a b
def qd1 (a b d : Int) : Int := r16 (xor32 d (qa1 a b))
def qc1 (a b c d : Int) : Int := add32 c (qd1 a b d)
def qb1 (a b c d : Int) : Int := r12 (xor32 b (qc1 a b c d))
def qa (a b c d : Int) : Int := (a + b + qb1 a b c d) % 4294967296
def qd (a b c d : Int) : Int := r8 (xor32 (qd1 a b d) (qa a b c d))
def qc (a b c d : Int) : Int := (c + qd1 a b d + qd a b c d) % 4294967296
def qb (a b c d : Int) : Int := r7 (xor32 (qb1 a b c d) (qc a b c d))

set_option maxHeartbeats 400000 in
theorem quarter_c (a b c d : Int) (w : World) : Calls Tryd.prog 90 #[.int .u32 a, .int .u32 b, .int .u32 c, .int .u32 d] w fun e w' => e = .returned (.tuple #[.int .u32 (qa a b c d), .int .u32 (qb a b c d), .int .u32 (qc a b c d), .int .u32 (qd a b c d)]) ∧ w' = w := by
  go_enter Tryd.func90, Tryd.ntmps90
  go_wp2_with fail
  refine (rot16_c _ _).mono ?_
  rintro e w' ⟨rfl, rfl⟩
  go_wp2_with fail
  refine (rot12_c _ _).mono ?_
  rintro e w' ⟨rfl, rfl⟩
  go_wp2_with fail
  refine (rot8_c _ _).mono ?_
  rintro e w' ⟨rfl, rfl⟩
  go_wp2_with fail
  refine (rot7_c _ _).mono ?_
  rintro e w' ⟨rfl, rfl⟩
  go_wp2
  (try simp only [Exit.inBlock, Exit.then])
  refine bodyPost_ret (results_tmp4 rfl _ _ _) rfl ?_
  exact ⟨rfl, rfl⟩

end Go.Proofs.YthkaibkmpenclaaDoor
