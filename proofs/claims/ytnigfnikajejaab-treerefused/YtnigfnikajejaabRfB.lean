/- What the document's own writers answer: Bare, Mpint, Join, Names. -/
import Derived.Test.YtnigfnikajejaabRfA
namespace Go.Proofs.Ytnigfnikajejaab
open Go Go.RowKit

theorem BSl.cellAt {w : World} {b off n cap : Nat} {xs : List UInt8} (h : BSl w (.slice (some ⟨b, off, none⟩) n cap) xs) (k : Nat) (hk : k < xs.length) : w.cell? ⟨b, off + k, none⟩ = some (.int .u8 (xs[k].toNat)) := by
  obtain ⟨ao, cap, e, h1, h2, h3, hc⟩ := h
  cases e
  obtain ⟨b', off', e, hcell⟩ := hc _ rfl (by rintro rfl; simp at hk)
  cases e
  exact hcell k _ (by simp [bcells, hk])

theorem srcNone (a : Addr) (c : Nat) (w : World) : Src Try.prog 1 28 (.slice (some a) 0 c) 0 [] w :=
  Src.ofSlice w Try.underlying28 a 0 c [] rfl (fun j u h => by simp at h) (fun u h => by cases h)

theorem BSl.srcDrop {w : World} {b off n cap c : Nat} {xs : List UInt8} (h : BSl w (.slice (some ⟨b, off, none⟩) n cap) xs) (k : Nat) (hk : k < xs.length) :
    Src Try.prog 1 28 (.slice (some ⟨b, off + k, none⟩) (xs.length - k) c) (xs.length - k) (bcells (xs.drop k)) w := by
  obtain ⟨ao, cap, e, h1, h2, h3, hc⟩ := h
  cases e
  obtain ⟨b', off', e, hcell⟩ := hc _ rfl (by rintro rfl; simp at hk)
  cases e
  refine Src.ofSlice w Try.underlying28 _ _ _ _ (by simp [bcells_length]) (fun j u hu => ?_) bcells_one
  rw [add_lit', Nat.add_assoc]
  refine hcell _ u ?_
  rw [← hu]
  simp [bcells]


end Go.Proofs.Ytnigfnikajejaab
