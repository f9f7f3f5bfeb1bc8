/- The document's quarter round. -/
import Derived.Test.YthkaibkmpenclabDoorChB
namespace Go.Proofs.YthkaibkmpenclabDoor
open Go Go.RowKit

theorem sets_eq (L : List Int) (a b c d : Nat) (h1 : a < 4) (h2 : 4 ≤ b) (h3 : b < 8) (h4 : 8 ≤ c) (h5 : c < 12) (h6 : 12 ≤ d) (y1 y2 y3 y4 y5 y6 y7 y8 : Int) :
    (((((((L.set a y1).set d y2).set c y3).set b y4).set a y5).set d y6).set c y7).set b y8 = (((L.set a y5).set b y8).set c y7).set d y6 := by
  apply List.ext_getElem (by simp)
  intro i h7 h8
  simp only [List.getElem_set]
  by_cases ha : a = i
  · have : b ≠ i := by omega
    have : c ≠ i := by omega
    have : d ≠ i := by omega
    simp_all
  · by_cases hb : b = i
    · have : c ≠ i := by omega
      have : d ≠ i := by omega
      simp_all
    · by_cases hc : c = i
      · have : d ≠ i := by omega
        simp_all
      · by_cases hd : d = i <;> simp_all
theorem getD_set_at {L : List Int} {i : Nat} {x : Int} (h : i < L.length) : (L.set i x).getD i 0 = x := by simp [h]
theorem getD_set_off {L : List Int} {i j : Nat} {x : Int} (h : i ≠ j) : (L.set i x).getD j 0 = L.getD j 0 := by simp [h]


end Go.Proofs.YthkaibkmpenclabDoor
