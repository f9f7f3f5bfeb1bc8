/- From what slices of byte slices, and bulks, read as to what the walks are told of them. -/
import Derived.Test.YthkaibkmpenclaaDoorOpenP
import Derived.Test.YthkaibkmpenclaaDoorPkR
import Derived.Deep.DeepHandedRow
import Derived.Deep.Slices
namespace Go.Proofs.YthkaibkmpenclaaDoor
open Go Go.RowKit Go.ChangeShapes Go.WideShapes Go.ChangeAt Go.Deep

theorem cellsB : Tryd.prog.cellsOf 22 = 1 := by kernel_rfl
section
variable {H : Type} {enc : TypeId × Value → H} {w : World} {fuel : Nat} {cs : List Value} {x : DataW H × List MemPlace}
theorem open_lsl {ao : Option Addr} {n cap : Nat} (h : DataW.trod enc Tryd.prog w 0 (fun _ => true) true fuel 38 cs = some x) (hcs : cs = [.slice ao n cap]) : LSl w (.slice ao n cap) n := by
  rcases open_slice Tryd.underlying38 h with ⟨rfl, _⟩ | ⟨a, len, cap', m, k, D, Pl, rfl, _, hl, hm, hmm, _, hx⟩
  · cases hcs
    exact ⟨none, 0, rfl, by simp, by simp [maxLen], fun j hj => by omega⟩
  · cases hcs
    simp at hmm
    subst hmm
    rw [cellsB] at hx
    have each : ∀ i, i < n → ∃ u us, w.cell? (a.add i) = some u ∧ BSl w u us := by
      intro i hi
      obtain ⟨cs', h1, h2⟩ := hx i (by omega)
      obtain ⟨hlen, _, hcell⟩ := World.cells?_some h1
      have e0 := hcell 0 (by omega)
      rw [Nat.mul_one] at e0
      rcases open_ints Tryd.underlying22 Tryd.underlying5 cellsU8 h2 with ⟨e, _⟩ | ⟨a', len', cap'', zs, e, _⟩
      · obtain ⟨xs, hb⟩ := open_bsl h2 e
        subst e
        exact ⟨_, xs, by simpa [Addr.add] using e0, hb⟩
      · obtain ⟨xs, hb⟩ := open_bsl h2 e
        subst e
        exact ⟨_, xs, by simpa [Addr.add] using e0, hb⟩
    refine ⟨some a, m, rfl, by simpa using hl, hm, fun j hj => ?_⟩
    obtain ⟨u0, _, h0, _⟩ := each 0 (by omega)
    rw [show a.add 0 = a from by simp [Addr.add]] at h0
    obtain ⟨b, off, rfl⟩ := spot_none h0
    obtain ⟨u, us, h1, h2⟩ := each j hj
    rw [add_lit'] at h1
    exact ⟨b, off, rfl, u, us, h1, h2⟩
end
end Go.Proofs.YthkaibkmpenclaaDoor
