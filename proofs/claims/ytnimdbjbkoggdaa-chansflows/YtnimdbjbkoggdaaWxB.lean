/- Windows: their parts, and what Right, Left, Most, Take, Add and Of answer, both sides. -/
import Derived.Test.YtnimdbjbkoggdaaProg
import Derived.Test.YtnimdbjbkoggdaaWxA
import Derived.Test.YtnimdbjbkoggdaaKpW
import Derived.WalkKit
import Derived.WalkSpells
import Derived.WalkLawsBesides
import Derived.Outline
import Derived.Laws.Externs
namespace Go.Proofs.Ytnimdbjbkoggdaa
open Go Go.RowKit


/-- The word of x made whole, downwards. -/
def fl (x : Nat) : Nat := Ieee.double.write ((Ieee.double.read x).integral .down)

theorem toIntegral_eq (n : String) (way : Ieee.Toward) (x : Nat) (d : Ieee.Datum) (hd : Ieee.double.read x = d) (hn : d.isNaN = false) :
    Extern.MathFloor.toIntegral n way #[.float .f64 x] = pure (.float .f64 (Ieee.double.write (d.integral way))) := by
  change (match Ieee.double.read x with
    | .nan s t => _
    | d => (pure (.float .f64 (Ieee.double.write (d.integral way))) : Sem Value)) = _
  rw [hd]
  cases d with
  | nan s t => cases hn
  | number s m i => rfl
  | infinity s => rfl

theorem floor_run (x : Nat) (hx : (Ieee.double.read x).isNaN = false) (w : World) :
    (callFunc 84 #[.float .f64 x]).run Try.prog w = .ok (.value (.float .f64 (fl x))) w := by
  rw [run_callFunc_extern Try.func84 (by kernel_rfl) (by kernel_rfl) (by kernel_rfl) (e := Extern.MathFloor.toIntegral "math.archFloor" .down) (by kernel_rfl), toIntegral_eq _ _ x _ rfl hx]
  rfl

set_option maxRecDepth 100000 in
theorem floor_c (x : Nat) (hx : (Ieee.double.read x).isNaN = false) (w : World) :
    Calls Try.prog 83 #[.float .f64 x] w fun e w' => e = .returned (.float .f64 (fl x)) ∧ w' = w := by
  have h := floor_run x hx w
  go_enter Try.func83, Try.ntmps83
  go_wp2
  go_ret
  exact ⟨rfl, rfl⟩

def geB (x y : Nat) : Bool := FloatKind.f64.format.order x y == some .gt || FloatKind.f64.format.order x y == some .eq
def leB (x y : Nat) : Bool := FloatKind.f64.format.order x y == some .lt || FloatKind.f64.format.order x y == some .eq
def eqB (x y : Nat) : Bool := FloatKind.f64.format.order x y == some .eq
/-- Between two, and whole. -/
def wh (x l m : Nat) : Bool := geB x l && leB x m && eqB x (fl x)

set_option maxHeartbeats 800000 in
theorem wholeWithin_c (x l m : Nat) (hx : (Ieee.double.read x).isNaN = false) (w : World) :
    Calls Try.prog 82 #[.float .f64 x, .float .f64 l, .float .f64 m] w fun e w' => e = .returned (.bool (wh x l m)) ∧ w' = w := by
  have HF := hidden (floor_c x hx w)
  obtain ⟨r, hr⟩ : ∃ r, r = wh x l m := ⟨_, rfl⟩
  rw [← hr]
  unfold wh at hr
  cases h1 : geB x l
  · rw [h1] at hr
    have HR := hidden hr
    unfold geB at h1
    clear hr
    go_enter Try.func82, Try.ntmps82
    go_wp2
    go_ret
    exact ⟨by rw [HR.out]; rfl, rfl⟩
  · cases h2 : leB x m
    · rw [h1, h2] at hr
      have HR := hidden hr
      unfold geB at h1
      unfold leB at h2
      clear hr
      go_enter Try.func82, Try.ntmps82
      go_wp2
      go_ret
      exact ⟨by rw [HR.out]; rfl, rfl⟩
    · rw [h1, h2] at hr
      have HR := hidden hr
      unfold geB at h1
      unfold leB at h2
      clear hr
      go_enter Try.func82, Try.ntmps82
      go_wp2_with (refine HF.out.mono ?_; rintro e w' ⟨rfl, rfl⟩)
      go_ret
      exact ⟨by rw [HR.out]; rfl, rfl⟩

def mxB : Nat := 4751297606873776128
def oneB : Nat := 4607182418800017408
def dtB : Nat := 4674736413210574848
/-- Right, by the program's words. -/
def rB (x y : Nat) : Bool := wh x 0 mxB && wh y oneB dtB

set_option maxHeartbeats 800000 in
theorem right_c (x y : Nat) (hx : (Ieee.double.read x).isNaN = false) (hy : (Ieee.double.read y).isNaN = false) (w : World) :
    Calls Try.prog 76 #[.complex .f64 x y] w fun e w' => e = .returned (.bool (rB x y)) ∧ w' = w := by
  obtain ⟨r, hr⟩ : ∃ r, r = rB x y := ⟨_, rfl⟩
  rw [← hr]
  unfold rB mxB oneB dtB at hr
  cases h1 : wh x 0 4751297606873776128
  · rw [h1] at hr
    have HR := hidden hr
    clear hr
    go_enter Try.func76, Try.ntmps76
    go_wp2_with (refine (wholeWithin_c _ _ _ (by first | exact hx | exact hy) _).mono ?_; rintro e w' ⟨rfl, rfl⟩)
    go_ret
    exact ⟨by rw [HR.out]; rfl, rfl⟩
  · rw [h1] at hr
    have HR := hidden hr
    clear hr
    go_enter Try.func76, Try.ntmps76
    go_wp2_with (refine (wholeWithin_c _ _ _ (by first | exact hx | exact hy) _).mono ?_; rintro e w' ⟨rfl, rfl⟩)
    go_ret
    exact ⟨by rw [HR.out]; rfl, rfl⟩
end Go.Proofs.Ytnimdbjbkoggdaa
