/- From what a slice of ints reads as to what the walks are told of it. -/
import Derived.Test.YthkaibkmpenclaaDoorOpenM
import Derived.Test.YthkaibkmpenclaaDoorPkY
namespace Go.Proofs.YthkaibkmpenclaaDoor
open Go Go.RowKit Go.ChangeShapes Go.WideShapes Go.ChangeAt Go.Deep

theorem cellsInt : Tryd.prog.cellsOf 3 = 1 := by kernel_rfl
section
variable {H : Type} {enc : TypeId × Value → H} {w : World} {fuel : Nat} {cs : List Value} {x : DataW H × List MemPlace}
theorem open_isl {ao : Option Addr} {n cap : Nat} (h : DataW.trod enc Tryd.prog w 0 (fun _ => true) true fuel 51 cs = some x) (hcs : cs = [.slice ao n cap]) : ISl w (.slice ao n cap) n := by
  rcases open_ints Tryd.underlying51 Tryd.underlying3 cellsInt h with ⟨rfl, _⟩ | ⟨a, len, cap', zs, rfl, _, hl, hm, hz, _, hx, _⟩
  · cases hcs
    exact ⟨none, 0, rfl, by simp, by simp [maxLen], fun j hj => by omega⟩
  · cases hcs
    simp at hz
    refine ⟨some a, cap, rfl, hl, hm, fun j hj => ?_⟩
    have h0 := hx 0 (by omega)
    rw [show a.add 0 = a from by simp [Addr.add]] at h0
    obtain ⟨b, off, rfl⟩ := spot_none h0
    have h1 := hx j (by omega)
    rw [add_lit'] at h1
    exact ⟨b, off, rfl, _, h1⟩
end
end Go.Proofs.YthkaibkmpenclaaDoor
