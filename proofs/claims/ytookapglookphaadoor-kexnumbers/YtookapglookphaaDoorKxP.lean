/- What the document reads of a payload; its Init and its hash. -/
import Derived.Test.YtookapglookphaaDoorKxI
import Derived.Test.YtookapglookphaaDoorXqR
namespace Go.Proofs.YtookapglookphaaDoor
open Go Go.RowKit

/-- Where the document's Reader stands behind the kind and so many Texts. -/
def rs (b : List UInt8) : Nat → Nat × Int
  | 0 => ((tk b 0 0 1).2.1, (tk b 0 0 1).2.2)
  | j + 1 => ((tx b (rs b j).1 (rs b j).2 32).2.1, (tx b (rs b j).1 (rs b j).2 32).2.2)
def rtx (b : List UInt8) (j : Nat) : List UInt8 := (tx b (rs b j).1 (rs b j).2 32).1
theorem rs_ok {kind : Nat} {b : List UInt8} : ∀ {j : Nat}, OkTo kind b j → rs b j = (1 + 36 * j, 0)
  | 0, h => by
    have h1 := h.len
    rw [rs, tk_yes (show 1 ≤ b.length - 0 by omega)]
  | j + 1, h => by
    have h1 := h.len
    have ih := rs_ok (j := j) ⟨by omega, h.head, fun i hi => h.sizes i (by omega)⟩
    rw [rs, ih, tx_yes (p := 1 + 36 * j) (by omega) (h.sizes j (by omega))]
    simp only
    rw [show 1 + 36 * j + 36 = 1 + 36 * (j + 1) by omega]
theorem rtx_ok {kind : Nat} {b : List UInt8} {j : Nat} (h : OkTo kind b (j + 1)) : rtx b j = part b j := by
  have h1 := h.len
  rw [rtx, rs_ok (j := j) (kind := kind) ⟨by omega, h.head, fun i hi => h.sizes i (by omega)⟩, tx_yes (p := 1 + 36 * j) (by omega) (h.sizes j (by omega)), part]
  simp only
  rw [show 1 + 36 * j + 4 = 5 + 36 * j by omega]
theorem rs_back {b : List UInt8} {j : Nat} (h : (rs b (j + 1)).2 = 0) : (rs b j).2 = 0 := by
  by_cases hy : (rs b j).2 = 0
  · exact hy
  · rw [rs, tx_why hy] at h
    exact absurd h hy
theorem rs_all {b : List UInt8} : ∀ {n : Nat}, (rs b n).2 = 0 → ∀ j, j ≤ n → (rs b j).2 = 0
  | 0, h, j, hj => by
    obtain rfl : j = 0 := by omega
    exact h
  | n + 1, h, j, hj => by
    by_cases e : j = n + 1
    · rw [e]; exact h
    · exact rs_all (rs_back h) j (by omega)
theorem okTo_rs {kind n : Nat} {b : List UInt8} (hk : val (tk b 0 0 1).1 = kind) (hz : (rs b n).2 = 0) (hl : ∀ j, j < n → (rtx b j).length = 32) : ∀ j, j ≤ n → OkTo kind b j
  | 0, _ => by
    have h0 := rs_all hz 0 (by omega)
    rw [rs] at h0
    by_cases h1 : 1 ≤ b.length - 0
    · rw [tk_yes h1] at hk
      exact ⟨by omega, by simpa using hk, fun i hi => absurd hi (by omega)⟩
    · rw [tk_no (by omega)] at h0
      exact absurd h0 (show ¬ (10 : Int) = 0 by decide)
  | j + 1, hj => by
    have ih := okTo_rs hk hz hl j (by omega)
    have e := rs_ok ih
    have h2 := rs_all hz (j + 1) hj
    have h3 := hl j (by omega)
    rw [rtx, e] at h3
    rw [rs, e] at h2
    by_cases h4 : 36 ≤ b.length - (1 + 36 * j) ∧ val ((b.drop (1 + 36 * j)).take 4) = 32
    · exact ⟨by omega, ih.head, fun i hi => by
        by_cases e2 : i = j
        · rw [e2]; exact h4.2
        · exact ih.sizes i (by omega)⟩
    · rcases tx_no h4 with h5 | h5
      · exact absurd h2 h5
      · exact absurd h3 h5
theorem ends_zero {b : List UInt8} {p : Nat} {y : Int} (h : (ends b p y).1 = 0) : y = 0 ∧ b.length ≤ p := by
  unfold ends at h
  by_cases hy : y = 0
  · rw [if_pos hy] at h
    by_cases hl : p < b.length
    · rw [if_pos hl] at h
      exact absurd h (show ¬ (11 : Int) = 0 by decide)
    · exact ⟨hy, by omega⟩
  · rw [if_neg hy] at h
    exact absurd h hy
theorem wf_rs (kind n : Nat) (b : List UInt8) : Wf kind n b ↔ (val (tk b 0 0 1).1 = kind ∧ (ends b (rs b n).1 (rs b n).2).1 = 0 ∧ ∀ j, j < n → (rtx b j).length = 32) := by
  constructor
  · intro h
    have ho : ∀ j, j ≤ n → OkTo kind b j := fun j hj => ⟨by rw [h.len]; omega, h.head, fun i hi => h.sizes i (by omega)⟩
    refine ⟨?_, ?_, fun j hj => ?_⟩
    · rw [tk_yes (show 1 ≤ b.length - 0 by rw [h.len]; omega)]
      simpa using h.head
    · rw [rs_ok (ho n (Nat.le_refl _))]
      unfold ends
      rw [if_pos rfl, if_neg (by rw [h.len]; omega)]
    · rw [rtx_ok (ho (j + 1) (by omega))]
      exact h.part_length hj
  · rintro ⟨h1, h2, h3⟩
    obtain ⟨h4, h5⟩ := ends_zero h2
    have ho := okTo_rs h1 h4 h3 n (Nat.le_refl _)
    rw [rs_ok ho] at h5
    have := ho.len
    exact ⟨by omega, ho.head, ho.sizes⟩
theorem Wf.rtx {kind n : Nat} {b : List UInt8} (h : Wf kind n b) {j : Nat} (hj : j < n) : rtx b j = part b j :=
  rtx_ok (kind := kind) ⟨by rw [h.len]; omega, h.head, fun i hi => h.sizes i (by omega)⟩
theorem rtx_le (b : List UInt8) (j : Nat) : (rtx b j).length ≤ 32 := by
  unfold rtx tx
  split
  · simp
  · rename_i h
    have := tk_len b (tk b (rs b j).1 (rs b j).2 4).2.1 (tk b (rs b j).1 (rs b j).2 4).2.2 (val (tk b (rs b j).1 (rs b j).2 4).1)
    have h32 : (32 : Int).toNat = 32 := rfl
    omega
set_option maxHeartbeats 400000 in
theorem qfine_c (w : World) {c : Nat} {g : Option Nat} {bs : List UInt8} {p : Nat} {why : Int} (h : QR w c g bs p why) :
    Calls Tryd.prog 32 #[.pointer (some ⟨c, 0, none⟩)] w fun e w' => e = .returned (.bool ((ends bs p why).1 == 0)) ∧ Keeps (fun _ => False) w w' := by
  have HQ := hidden (qend_c w h)
  generalize ends bs p why = E at HQ ⊢
  obtain ⟨E1, E2⟩ := E
  go_enter Tryd.func32, Tryd.ntmps32
  go_wp2_with fail
  refine HQ.out.mono ?_
  rintro e w1 ⟨rfl, hk⟩
  go_wp2
  go_ret
  exact ⟨rfl, hk⟩
end Go.Proofs.YtookapglookphaaDoor
