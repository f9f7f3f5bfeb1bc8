/- More of slices of bytes. -/
import Derived.Test.YtfgeeheojglldaaBsl
namespace Go.Proofs.Ytfgeeheojglldaa
open Go Go.RowKit

theorem hidden {p : Prop} (h : p) : Hid p := h
theorem BSl.cellD {w : World} {b off n cap : Nat} {xs : List UInt8} (h : BSl w (.slice (some ⟨b, off, none⟩) n cap) xs) (k : Nat) (hk : k < xs.length) : w.cell? ⟨b, off + k, none⟩ = some (.int .u8 ((xs.getD k 0).toNat)) := by
  rw [h.cellAt k hk]
  simp [hk]
theorem BSl.len {w : World} {v : Value} {xs : List UInt8} (h : BSl w v xs) : ∃ ao cap, v = .slice ao xs.length cap := by
  obtain ⟨ao, cap, e, _⟩ := h
  exact ⟨ao, cap, e⟩
theorem BSl.nonnil {w : World} {v : Value} {xs : List UInt8} (h : BSl w v xs) (hne : xs ≠ []) : ∃ b o cap, v = .slice (some ⟨b, o, none⟩) xs.length cap ∧ b < w.heap.size := by
  cases xs with
  | nil => exact absurd rfl hne
  | cons x xs =>
    obtain ⟨b, o, cap, e, _, _, hb⟩ := h.cons
    exact ⟨b, o, cap, e, h.blockLt b hb⟩
theorem BSl.ofBlock {w : World} {g : Nat} {t : TypeId} {xs : List UInt8} (h : w.heap[g]? = some (.cells (bcells xs).toArray t (0, 0))) (hl : xs.length ≤ 1000000000) : BSl w (.slice (some ⟨g, 0, none⟩) xs.length xs.length) xs := by
  refine ⟨_, _, rfl, Nat.le_refl _, by unfold maxLen; omega, (fun e => by cases e), fun ad e _ => ⟨g, 0, by cases e; rfl, fun j u hu => ?_⟩⟩
  rw [Nat.zero_add, cell_row h]
  exact hu
theorem BSl.dropS {w : World} {b o n cap k : Nat} {xs : List UInt8} (h : BSl w (.slice (some ⟨b, o, none⟩) n cap) xs) (hk : k ≤ n) : BSl w (.slice (some ⟨b, o + k, none⟩) (n - k) (cap - k)) (xs.drop k) := by
  obtain ⟨ao, cp, e, h1, h2, h3, h4⟩ := h
  cases e
  refine ⟨_, _, by rw [List.length_drop], by rw [List.length_drop]; omega, by unfold maxLen at *; omega, (fun e => by cases e), fun ad e hne => ?_⟩
  cases e
  have hne' : xs ≠ [] := by rintro rfl; simp at hne
  obtain ⟨b', off', e', hc⟩ := h4 _ rfl hne'
  cases e'
  refine ⟨b, o + k, rfl, fun j u hu => ?_⟩
  have := hc (k + j) u (by simpa [bcells, List.getElem?_drop] using hu)
  rw [← Nat.add_assoc] at this
  exact this
theorem xbyte (a b : UInt8) : bits BinOp.xor IntKind.u8 (a.toNat : Int) (b.toNat : Int) = ((a ^^^ b).toNat : Int) := by
  rw [u8_xor_nat _ _ (UInt8.toNat_lt _) (UInt8.toNat_lt _), UInt8.toNat_xor]
theorem srcAt {W : World} {B : Nat} {x : Value} (hx : x.oneCell' = true) (hb : W.heap[B]? = some (.cells #[x] 5 (0, 0))) : Src Try.prog 1 22 (.slice (some ⟨B, 0, none⟩) 1 1) 1 [x] W :=
  Src.ofSlice _ Try.underlying22 ⟨B, 0, none⟩ 1 1 [x] rfl (World.news_of_block (t := 5) (fr := (0, 0)) hb) (by intro u hu; simp at hu; subst hu; exact hx)
end Go.Proofs.Ytfgeeheojglldaa
