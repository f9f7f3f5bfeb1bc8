/- From what the listed variable reads as to what the walks are told of it. -/
import Derived.Test.YthkaibkmpenclaaDoorOpenB
import Derived.Test.YthkaibkmpenclaaDoorPoD
import Derived.LaidMore
import Derived.Stop.Joined
namespace Go.Proofs.YthkaibkmpenclaaDoor
open Go Go.RowKit Go.ChangeShapes Go.WideShapes Go.ChangeAt

def laidL : List (String × DataW Unit) := [("strongroom/poly.clamp", Rows.laid_strongroom_poly_clamp)]
theorem gClamp : Tryd.prog.globalNamed "strongroom/poly.clamp" = some 0 := by kernel_rfl
theorem tClamp : (Tryd.prog.globals[0]?).map (·.type) = some 116 := by kernel_rfl
/-- The door's own heap meets the condition. -/
theorem door_met (os : Os) (args : Array Value) : laidMetH Tryd.prog laidL ((World.doorLaid Tryd.prog 400 os).forCall (fun _ _ => 0) ⟨#[], args, []⟩).memory :=
  laidMetH_of_parts3 (fuel := 8) (laidMet_of_run' 8 (by kernel_rfl) (by kernel_rfl)) (by kernel_rfl) (by kernel_rfl)
set_option maxRecDepth 100000 in
theorem of_laid {W : World} (h : laidMetH Tryd.prog laidL W) : Cl W := by
  rw [MakeChecks.laidMetH_plain _ _ _ (by kernel_rfl)] at h
  obtain ⟨ps, ⟨g0, t0, cs0, f0, p0, q0, hg0, ht0, hv0, hd0, _⟩, _⟩ := h
  obtain rfl := Option.some.inj (gClamp.symm.trans hg0)
  obtain rfl := Option.some.inj (tClamp.symm.trans ht0)
  obtain ⟨xs, m1, rfl, hx1, hlen, hn16, hel⟩ := DataW.trod_array Tryd.underlying116 hd0
  have c1 : Tryd.prog.cellsOf 5 = 1 := by kernel_rfl
  have hD : (Rows.laid_strongroom_poly_clamp : DataW Unit) = .agg (clampB.map fun b => .lit (.int .u8 (b.toNat : Int))) := rfl
  simp only [Prod.mk.injEq] at hx1
  have hmap : (clampB.map fun b => (.lit (.int .u8 (b.toNat : Int)) : DataW Unit)) = xs.map (·.1) := by
    have := hD.symm.trans hx1.1
    simpa using this
  have each : ∀ i, i < 16 → W.cell? ⟨0, i, none⟩ = some (.int .u8 ((clampB.getD i 0).toNat)) := by
    intro i hi
    have hi2 : i < xs.length := by omega
    have h := hel i hi
    rw [c1, Nat.mul_one, List.getElem?_eq_getElem hi2] at h
    obtain ⟨k, e1, e2, _⟩ := DataW.trod_int Tryd.underlying5 h
    have hm : (clampB.map fun b => (.lit (.int .u8 (b.toNat : Int)) : DataW Unit))[i]? = (xs.map (·.1))[i]? := by rw [hmap]
    rw [List.getElem?_map, List.getElem?_map, List.getElem?_eq_getElem hi2, List.getElem?_eq_getElem (show i < clampB.length from hi)] at hm
    simp only [Option.map_some, Option.some.injEq, e2] at hm
    have hk : k = (clampB[i].toNat : Int) := by
      injection hm with hm
      injection hm with _ hm
      exact hm.symm
    have hc := World.var?_cell hg0 hv0 i
    rw [hc]
    have h1 : (cs0.toList.drop i).take 1 = [.int .u8 k] := e1
    have h2 : cs0.toList[i]? = some (.int .u8 k) := by
      have : ((cs0.toList.drop i).take 1)[0]? = some (.int .u8 k) := by rw [h1]; rfl
      simpa [List.getElem?_take, List.getElem?_drop] using this
    rw [← Array.getElem?_toList, h2, hk, List.getD_eq_getElem?_getD, List.getElem?_eq_getElem (show i < clampB.length from hi)]
    rfl
  exact ⟨World.block_lt_of_cell? W _ (each 0 (by omega)), each⟩
end Go.Proofs.YthkaibkmpenclaaDoor
