/- What the document's Reader answers: Mpint. -/
import Derived.Test.YtnnhffjajbiicaaQrD
namespace Go.Proofs.Ytnnhffjajbiicaa
open Go Go.RowKit

theorem bare_mp {xs ys : List UInt8} (h : mpOf xs = some ys) : bare xs = ys := by
  cases xs with
  | nil => simpa [mpOf, bare] using h
  | cons x t =>
    unfold mpOf at h
    by_cases hx : 128 ≤ x.toNat
    · simp [hx] at h
    · by_cases h0 : x = 0
      · subst h0
        cases t with
        | nil => simp at h
        | cons y r =>
          by_cases hy : 128 ≤ y.toNat
          · simp [hy] at h
            have hy0 : ¬ y = 0 := by rintro rfl; simp at hy
            rw [← h]
            simp [bare, hy0]
          · simp [hy] at h
      · simp [hx, h0] at h
        rw [← h]
        simp [bare, h0]

theorem conv_pkg (xs : List UInt8) (hl : xs.length ≤ 140737488355328) (w1 : World) : ∃ b cap wB, (convert 9 22 (.string ⟨xs.toArray⟩)).run Try.prog w1 = .ok (.slice (some ⟨b, 0, none⟩) xs.length cap) wB ∧ BSl wB (.slice (some ⟨b, 0, none⟩) xs.length cap) xs ∧ Below w1.heap.size w1 wB ∧ w1.heap.size ≤ b ∧ xs.length ≤ cap := by
  have hsz : (⟨xs.toArray⟩ : ByteArray).size = xs.length := size_list xs
  have h1 := bytes_bsl w1 ⟨xs.toArray⟩ (by rw [hsz]; exact hl)
  have h2 : bytesV w1 ⟨xs.toArray⟩ = .slice (some ⟨w1.heap.size, 0, none⟩) xs.length (grownCap w1 xs.length 0 5) := by unfold bytesV; rw [hsz]
  have h3 := run_bytes ⟨xs.toArray⟩ w1
  rw [h2] at h1 h3
  exact ⟨_, _, _, h3, by simpa using h1, bytesW_below _ _, Nat.le_refl _, grownCap_ge _ _ _ _⟩

theorem mp_cases (xs : List UInt8) : (xs = [] ∧ mpOf xs = some []) ∨ (∃ x t, xs = x :: t ∧ 128 ≤ x.toNat ∧ mpOf xs = none) ∨ (∃ x t, xs = x :: t ∧ x.toNat < 128 ∧ x.toNat ≠ 0 ∧ mpOf xs = some xs) ∨
    (∃ x, xs = [x] ∧ x.toNat = 0 ∧ mpOf xs = none) ∨ (∃ x y r, xs = x :: y :: r ∧ x.toNat = 0 ∧ y.toNat < 128 ∧ mpOf xs = none) ∨ (∃ x y r, xs = x :: y :: r ∧ x.toNat = 0 ∧ 128 ≤ y.toNat ∧ mpOf xs = some (y :: r)) := by
  cases xs with
  | nil => exact .inl ⟨rfl, rfl⟩
  | cons x t =>
    right
    by_cases hx : 128 ≤ x.toNat
    · exact .inl ⟨x, t, rfl, hx, by simp [mpOf, hx]⟩
    · by_cases h0 : x = 0
      · subst h0
        cases t with
        | nil => exact .inr (.inr (.inl ⟨0, rfl, rfl, rfl⟩))
        | cons y r =>
          by_cases hy : 128 ≤ y.toNat
          · exact .inr (.inr (.inr (.inr ⟨0, y, r, rfl, rfl, hy, by simp [mpOf, hy]⟩)))
          · exact .inr (.inr (.inr (.inl ⟨0, y, r, rfl, rfl, by omega, by simp [mpOf, hy]⟩)))
      · have hn : x.toNat ≠ 0 := fun h => h0 (UInt8.toNat_inj.1 h)
        exact .inr (.inl ⟨x, t, rfl, by omega, hn, by simp [mpOf, hx, h0]⟩)


end Go.Proofs.Ytnnhffjajbiicaa
