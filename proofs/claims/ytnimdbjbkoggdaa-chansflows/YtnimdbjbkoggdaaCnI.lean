/- A Mux: what New, Dead, find, Waits, leastFree and toSendOn do. -/
import Derived.Test.YtnimdbjbkoggdaaCnH
namespace Go.Proofs.Ytnimdbjbkoggdaa
open Go Go.RowKit

/-- One channel of a Mux: its cells, and how the Mux is put together again. -/
theorem MX.at {w : World} {P : Nat → Prop} {a : Nat} {S : MS} (h : MX w P a S) (hS : S.cs.length = 4) (i : Nat) (hi : i < 4) :
    ∃ v A Z, w.heap[a]? = some (.cells (A ++ pcells i (S.cs.getD i none) v ++ Z).toArray 61 (0, 0)) ∧ A.length = i * 9 ∧ (∀ c, S.cs.getD i none = some c → Held w v c.wt) ∧ (∀ k, v.ownBlock = some k → P k) ∧
      ∀ (w' : World) (T P' : Nat → Prop) (oc : Option Ch) (v' : Value), w'.heap[a]? = some (.cells (A ++ pcells i oc v' ++ Z).toArray 61 (0, 0)) → (∀ c, oc = some c → Held w' v' c.wt) → (∀ k, v'.ownBlock = some k → v.ownBlock = some k ∨ w.heap.size ≤ k) → Keeps T w w' → (∀ k, P k → T k → v.ownBlock = some k) → (∀ k, P k → P' k) → (∀ k, v'.ownBlock = some k → P' k) → ¬ P' a → (∀ k, P' k → k < w'.heap.size) → MX w' P' a ⟨S.cs.set i oc, S.dead⟩ := by
  obtain ⟨⟨vs, h0, h1, h2, h3, h4⟩, h5, h6⟩ := h
  obtain ⟨A, Z, e1, e2, e3⟩ := mcells_at S.cs vs S.dead hS h0 i hi
  refine ⟨vs.getD i undef, A, Z, by rw [← e2]; exact h1, by omega, fun c e => h2 i c e, fun k e => h3 i k hi e, fun w' T P' oc v' g1 g2 g3 g4 g5 g6 g7 g8 g9 => ?_⟩
  have key : ∀ j, (vs.set i v').getD j undef = if i = j then v' else vs.getD j undef := fun j => by
    rw [getD_set]
    by_cases hj : i = j
    · rw [if_pos ⟨hj, by omega⟩, if_pos hj]
    · rw [if_neg (fun h => hj h.1), if_neg hj]
  refine ⟨⟨vs.set i v', by simp [h0], by rw [e3]; exact g1, fun j c e => ?_, fun j k hj e => ?_, fun j l k hj hl hne e => ?_⟩, g8, g9⟩
  · rw [key]
    dsimp only at e
    rw [getD_set] at e
    by_cases hj : i = j
    · rw [if_pos ⟨hj, by omega⟩] at e
      rw [if_pos hj]
      exact g2 c e
    · rw [if_neg (fun h => hj h.1)] at e
      rw [if_neg hj]
      by_cases hj4 : j < 4
      · exact (h2 j c e).keep g4 (fun k e2 e3 => h4 i j k hi hj4 hj (g5 k (h3 j k hj4 e2) e3) e2)
      · have : S.cs.getD j none = none := by simp [List.getD_eq_getElem?_getD, List.getElem?_eq_none (show S.cs.length ≤ j by omega)]
        rw [this] at e
        cases e
  · rw [key] at e
    by_cases hj' : i = j
    · rw [if_pos hj'] at e
      exact g7 k e
    · rw [if_neg hj'] at e
      exact g6 k (h3 j k hj e)
  · rw [key] at e ⊢
    by_cases hj' : i = j
    · rw [if_pos hj'] at e
      rw [if_neg (by omega)]
      intro e2
      rcases g3 k e with g | g
      · exact h4 i l k hi hl (by omega) g e2
      · have := h6 k (h3 l k hl e2)
        omega
    · rw [if_neg hj'] at e
      by_cases hl' : i = l
      · rw [if_pos hl']
        intro e2
        rcases g3 k e2 with g | g
        · exact h4 j i k hj hi (by omega) e g
        · have := h6 k (h3 j k hj e)
          omega
      · rw [if_neg hl']
        exact h4 j l k hj hl hne e
theorem MX.openCell {w : World} {P : Nat → Prop} {a : Nat} {S : MS} (h : MX w P a S) (hS : S.cs.length = 4) (i : Nat) (hi : i < 4) : w.cell? ⟨a, i * 9, none⟩ = some (.bool (chAt S i).isSome) := by
  obtain ⟨v, A, Z, h1, h2, _⟩ := h.at hS i hi
  have := cell_mid h1 0 (by rw [pcells_length]; omega)
  rw [h2] at this
  rw [show i * 9 = i * 9 + 0 from rfl, this]
  unfold chAt
  cases S.cs.getD i none <;> rfl
theorem MX.deadCell {w : World} {P : Nat → Prop} {a : Nat} {S : MS} (h : MX w P a S) : w.cell? ⟨a, 36, none⟩ = some (.bool S.dead) ∧ ∀ j, w.frozen? ⟨a, j, none⟩ = false := by
  obtain ⟨vs, h0, h1, _⟩ := h.ex
  obtain ⟨A, e1, e2⟩ := mcells_dead S.cs vs
  rw [e2] at h1
  refine ⟨?_, fun j => frozen_row h1 j⟩
  have h2 : w.heap[a]? = some (.cells (A ++ [Value.bool S.dead] ++ []).toArray 61 (0, 0)) := by rw [List.append_nil]; exact h1
  have := cell_mid h2 0 (by simp)
  rw [e1] at this
  exact this
theorem MX.dies {w : World} {P : Nat → Prop} {a : Nat} {S : MS} (h : MX w P a S) (d : Bool) : MX (w.setCell ⟨a, 36, none⟩ (.bool d)) P a ⟨S.cs, d⟩ := by
  have hk := keepsSet w a 36 (.bool d)
  obtain ⟨⟨vs, h0, h1, h2, h3, h4⟩, h5, h6⟩ := h
  obtain ⟨A, e1, e2⟩ := mcells_dead S.cs vs
  rw [e2] at h1
  have h7 : w.heap[a]? = some (.cells (A ++ [Value.bool S.dead] ++ []).toArray 61 (0, 0)) := by rw [List.append_nil]; exact h1
  have h8 := set_mid h7 0 (by simp) (.bool d)
  rw [e1, List.append_nil] at h8
  refine ⟨⟨vs, h0, ?_, fun i c e => ?_, h3, h4⟩, h5, fun k e => Nat.lt_of_lt_of_le (h6 k e) hk.size⟩
  · dsimp only
    rw [e2]
    exact h8
  · by_cases hi : i < 4
    · exact (h2 i c e).keep hk (fun k e2 e3 => h5 (by rw [← e3]; exact h3 i k hi e2))
    · have hh := h2 i c e
      have : vs.getD i undef = undef := by simp [List.getD_eq_getElem?_getD, List.getElem?_eq_none (show vs.length ≤ i by omega)]
      rw [this] at hh ⊢
      exact hh.keep hk (fun k hk => by simp [Value.ownBlock, undef] at hk)

set_option maxHeartbeats 800000 in
set_option maxRecDepth 100000 in
theorem New_c (w : World) : Calls Try.prog 7 #[] w fun e w' => e = .returned (.pointer (some ⟨w.heap.size, 0, none⟩)) ∧ MX w' (fun _ => False) w.heap.size newM ∧ Below w.heap.size w w' := by
  have HO : Hid (∀ w', w'.heap[w.heap.size]? = some (.cells (mcells newM.cs [.slice none 0 0, .slice none 0 0, .slice none 0 0, .slice none 0 0] newM.dead).toArray 61 (0, 0)) → MX w' (fun _ => False) w.heap.size newM) := hidden fun w' h => by
    refine ⟨⟨[.slice none 0 0, .slice none 0 0, .slice none 0 0, .slice none 0 0], rfl, h, fun i c e => ?_, fun i k hi e => ?_, fun i j k hi hj hne e => ?_⟩, fun h => h, fun k h => h.elim⟩
    · have := (okM_new 0).each i c e
      unfold newM at e
      match i, e with
      | 0, e => cases e
      | 1, e => cases e
      | 2, e => cases e
      | 3, e => cases e
      | (n + 4), e => cases e
    · match i, hi with
      | 0, _ => simp [Value.ownBlock] at e
      | 1, _ => simp [Value.ownBlock] at e
      | 2, _ => simp [Value.ownBlock] at e
      | 3, _ => simp [Value.ownBlock] at e
    · match i, hi with
      | 0, _ => simp [Value.ownBlock] at e
      | 1, _ => simp [Value.ownBlock] at e
      | 2, _ => simp [Value.ownBlock] at e
      | 3, _ => simp [Value.ownBlock] at e
  go_enter Try.func7, Try.ntmps7
  go_wp2_with fail
  go_ret
  exact ⟨rfl, HO.out _ (heap_alloc_new w _), (Below.refl _ w).alloc (Nat.le_refl _) _⟩

set_option maxHeartbeats 400000 in
theorem Dead_c (w : World) {P : Nat → Prop} {a : Nat} {S : MS} (h : MX w P a S) : Calls Try.prog 18 #[.pointer (some ⟨a, 0, none⟩)] w fun e w' => e = .returned (.bool S.dead) ∧ w' = w := by
  obtain ⟨c0, cf⟩ := h.deadCell
  clear h
  go_enter Try.func18, Try.ntmps18
  go_wp2_with fail
  go_ret
  exact ⟨rfl, rfl⟩

/-- Where find points. -/
def findO (S : MS) (a : Nat) (ch : Int) : Option Addr := if 0 ≤ ch ∧ ch < 4 ∧ (chAt S ch.toNat).isSome = true then some ⟨a, ch.toNat * 9, none⟩ else none
set_option maxHeartbeats 800000 in
set_option maxRecDepth 100000 in
theorem find_c (ch : Int) (w : World) {P : Nat → Prop} {a : Nat} {S : MS} (h : MX w P a S) (hS : S.cs.length = 4) :
    Calls Try.prog 34 #[.pointer (some ⟨a, 0, none⟩), .int .i64 ch] w fun e w' => e = .returned (.pointer (findO S a ch)) ∧ w' = w := by
  unfold findO
  by_cases h0 : ch < 0
  · rw [if_neg (by omega)]
    clear h
    go_enter Try.func34, Try.ntmps34
    go_wp2_with fail
    go_ret
    exact ⟨rfl, rfl⟩
  · by_cases h4 : (4 : Int) ≤ ch
    · rw [if_neg (by omega)]
      clear h
      go_enter Try.func34, Try.ntmps34
      go_wp2_with fail
      go_ret
      exact ⟨rfl, rfl⟩
    · obtain ⟨i, rfl⟩ : ∃ i : Nat, ch = (i : Int) := ⟨ch.toNat, by omega⟩
      have hi : i < 4 := by omega
      have hc := h.openCell hS i hi
      obtain ⟨_, cf⟩ := h.deadCell
      rw [Int.toNat_natCast]
      generalize (chAt S i).isSome = b at hc ⊢
      clear h
      cases b
      · rw [if_neg (by simp)]
        go_enter Try.func34, Try.ntmps34
        go_wp2_with fail
        go_ret
        exact ⟨rfl, rfl⟩
      · rw [if_pos ⟨by omega, by omega, rfl⟩]
        go_enter Try.func34, Try.ntmps34
        go_wp2_with fail
        go_ret
        exact ⟨rfl, rfl⟩
end Go.Proofs.Ytnimdbjbkoggdaa
