/- From what the listed variable reads as to what the walks are told of it. -/
import Derived.Test.YtllkafhooapcbaaDoorOpenB
import Derived.Test.YtllkafhooapcbaaDoorKdD
import Derived.LaidMore
import Derived.Stop.Joined
namespace Go.Proofs.YtllkafhooapcbaaDoor
open Go Go.RowKit Go.ChangeShapes Go.WideShapes Go.ChangeAt

def laidL : List (String × DataW Unit) := [("strongroom/kdf.roundWords", Rows.laid_strongroom_kdf_roundWords)]
theorem gRound : Tryd.prog.globalNamed "strongroom/kdf.roundWords" = some 0 := by kernel_rfl
theorem tRound : (Tryd.prog.globals[0]?).map (·.type) = some 57 := by kernel_rfl
/-- The door's own heap meets the condition. -/
theorem door_met (os : Os) (args : Array Value) : laidMetH Tryd.prog laidL ((World.doorLaid Tryd.prog 400 os).forCall (fun _ _ => 0) ⟨#[], args, []⟩).memory :=
  laidMetH_of_parts3 (fuel := 8) (laidMet_of_run' 8 (by kernel_rfl) (by kernel_rfl)) (by kernel_rfl) (by kernel_rfl)
theorem of_laid {W : World} (h : laidMetH Tryd.prog laidL W) : Rw W := by
  rw [MakeChecks.laidMetH_plain _ _ _ (by kernel_rfl)] at h
  obtain ⟨ps, ⟨g0, t0, cs0, f0, p0, q0, hg0, ht0, hv0, hd0, _⟩, _⟩ := h
  obtain rfl := Option.some.inj (gRound.symm.trans hg0)
  obtain rfl := Option.some.inj (tRound.symm.trans ht0)
  obtain ⟨xs, m1, rfl, hx1, hlen, hn16, hel⟩ := DataW.trod_array Tryd.underlying57 hd0
  have c1 : Tryd.prog.cellsOf 53 = 1 := by kernel_rfl
  have hD : (Rows.laid_strongroom_kdf_roundWords : DataW Unit) = .agg (kL.map fun b : Int => .lit (.int .u32 b)) := rfl
  simp only [Prod.mk.injEq] at hx1
  have hmap : (kL.map fun b : Int => (.lit (.int .u32 b) : DataW Unit)) = xs.map (·.1) := by
    have := hD.symm.trans hx1.1
    simpa using this
  have each : ∀ i, i < 64 → W.cell? ⟨0, i, none⟩ = some (.int .u32 (kL.getD i 0)) := by
    intro i hi
    have hi2 : i < xs.length := by omega
    have h := hel i hi
    rw [c1, Nat.mul_one, List.getElem?_eq_getElem hi2] at h
    obtain ⟨k, e1, e2, _⟩ := DataW.trod_int Tryd.underlying53 h
    have hm : (kL.map fun b : Int => (.lit (.int .u32 b) : DataW Unit))[i]? = (xs.map (·.1))[i]? := by rw [hmap]
    rw [List.getElem?_map, List.getElem?_map, List.getElem?_eq_getElem hi2, List.getElem?_eq_getElem (show i < kL.length from hi)] at hm
    simp only [Option.map_some, Option.some.injEq, e2] at hm
    have hk : k = kL[i] := by
      injection hm with hm
      injection hm with _ hm
      exact hm.symm
    have hc := World.var?_cell hg0 hv0 i
    rw [hc]
    have h1 : (cs0.toList.drop i).take 1 = [.int .u32 k] := e1
    have h2 : cs0.toList[i]? = some (.int .u32 k) := by
      have : ((cs0.toList.drop i).take 1)[0]? = some (.int .u32 k) := by rw [h1]; rfl
      simpa [List.getElem?_take, List.getElem?_drop] using this
    rw [← Array.getElem?_toList, h2, hk, List.getD_eq_getElem?_getD, List.getElem?_eq_getElem (show i < kL.length from hi)]
    rfl
  exact ⟨World.block_lt_of_cell? W _ (each 0 (by omega)), each⟩
end Go.Proofs.YtllkafhooapcbaaDoor
