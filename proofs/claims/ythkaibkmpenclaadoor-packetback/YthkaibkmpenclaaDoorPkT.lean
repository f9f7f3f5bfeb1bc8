/- Packets one behind the other, plainly; a packet whose sum is turned. -/
import Derived.Test.YthkaibkmpenclaaDoorPkS
namespace Go.Proofs.YthkaibkmpenclaaDoor
open Go Go.RowKit

theorem PLs.get {W w : World} {pg n cp : Nat} {ps : List (List UInt8)} (h : PLs W w (.slice (some ⟨pg, 0, none⟩) n cp) ps) (hb : Below W.heap.size W w) (i : Nat) (hi : i < ps.length) : ∃ u, w.cell? ⟨pg, i, none⟩ = some u ∧ BSl w u (ps.getD i []) := by
  obtain ⟨g, cap, u, e, h1, h2, _⟩ := h.at hb i hi
  have e2 := congrArg Value.ownBlock e
  simp [Value.ownBlock] at e2
  subst e2
  exact ⟨u, h1, h2⟩
section
variable {o : Oper} {ρ : Operand → Value} {w : World} {x y : Operand} {v : Value} {Φ : Value → World → Prop}
theorem elemBs : Tryd.prog.underlying 38 = some (.slice (Tryd.prog.elem 38)) := by kernel_rfl
theorem elemBsEq : Tryd.prog.elem 38 = 22 := by kernel_rfl
theorem gives_index {pg n cp i : Nat} (hi : i < n) (ho : o.op = .indexAddr 38 x y) (hx : ρ x = .slice (some ⟨pg, 0, none⟩) n cp) (hy : ρ y = .int .i64 (i : Int)) (h : Φ (.pointer (some ⟨pg, i, none⟩)) w) : Gives Tryd.prog o ρ w Φ := by
  refine Gives.value (w' := w) (v := .pointer (some ⟨pg, i, none⟩)) ?_ h
  obtain ⟨i0, hi0, hz0, hz1, hz2⟩ := info_parts Tryd.infoBs
  unfold execOp
  simp only [ho]
  rw [hx, hy]
  simp [run_indexAt_slice w _ _ _ _ _ _ elemBs, elemBsEq, sizeOf, typeInfo, hi0, hz1, add_lit', show (i : Int) < (n : Int) by omega]
theorem gives_not {b : Bool} {t : TypeId} (ho : o.op = .unOp .not t x) (hx : ρ x = .bool b) (h : Φ (.bool (!b)) w) : Gives Tryd.prog o ρ w Φ := by
  refine Gives.value (w' := w) (v := .bool (!b)) ?_ h
  unfold execOp
  simp only [ho]
  rw [hx]
  rfl
end
/-- m rows from the j-th on. -/
def seg (Y : Nat → List UInt8) (j : Nat) : Nat → List UInt8
  | 0 => []
  | m + 1 => Y j ++ seg Y (j + 1) m
theorem seg_snoc (Y : Nat → List UInt8) (j m : Nat) : seg Y j (m + 1) = seg Y j m ++ Y (j + m) := by
  induction m generalizing j with
  | zero => simp [seg]
  | succ m ih => rw [seg, ih (j + 1), seg, List.append_assoc, show j + 1 + m = j + (m + 1) by omega]
theorem cat_seg (Y : Nat → List UInt8) (n : Nat) : cat Y n = seg Y 0 n := by
  induction n with
  | zero => rfl
  | succ n ih => rw [cat, ih, seg_snoc, Nat.zero_add]
theorem seg_len (Y : Nat → List UInt8) (B j m : Nat) (h : ∀ i, j ≤ i → i < j + m → (Y i).length ≤ B) : (seg Y j m).length ≤ B * m := by
  induction m generalizing j with
  | zero => simp [seg]
  | succ m ih =>
    have h1 := h j (Nat.le_refl _) (by omega)
    have h2 := ih (j + 1) fun i a b => h i (by omega) (by omega)
    rw [seg, List.length_append, Nat.mul_succ]
    omega
theorem packetL_le {key : List UInt8} (hk : KeyOk key) (c : Nat) (p : List UInt8) (hp : p.length ≤ 300) : (packetL key c p).length ≤ 332 := by
  have h1 := packetL_length hk c p
  have h2 := padP_range key p.length
  have h3 : tagN key ≤ 16 := by unfold tagN; split <;> omega
  omega
/-- A packet of which byte k is turned. -/
def turnL (xs : List UInt8) (k : Nat) (t : UInt8) : List UInt8 := xs.set k (xs.getD k 0 ^^^ t)
theorem xor_ne (a t : UInt8) (h : t ≠ 0) : a ^^^ t ≠ a := by
  intro e
  have : a ^^^ (a ^^^ t) = a ^^^ a := by rw [e]
  rw [← UInt8.xor_assoc, UInt8.xor_self, UInt8.zero_xor] at this
  exact h this
theorem turned_next {key : List UInt8} (hk : key.length = 32) (c : Nat) (p : List UInt8) (h1 : 1 ≤ p.length) (hp : p.length ≤ 300) (kk : Nat) (hkk : kk ≤ 15) (t : UInt8) (ht : t ≠ 0) (ys : List UInt8) :
    nextR key c (turnL (packetL key c p) ((packetL key c p).length - 16 + kk) t ++ ys) = .bad 14 := by
  have hko : KeyOk key := .inr hk
  have hne : key ≠ [] := by intro e; rw [e] at hk; simp at hk
  have hpl := packetL_length hko c p
  have hrl := restP_length hko c p
  have hbl := bodyP_length key p
  have htg : tagN key = 16 := by rw [tagN, if_neg hne]
  have e : turnL (packetL key c p) ((packetL key c p).length - 16 + kk) t = headP key p ++ turnL (restP key c p) ((bodyP key p).length + kk) t := by
    have hi : (packetL key c p).length - 16 + kk = 4 + ((bodyP key p).length + kk) := by omega
    rw [turnL, turnL, hi, packetL, List.set_append_right _ _ (by rw [headP_length]; omega), headP_length, Nat.add_sub_cancel_left]
    congr 2
    simp only [List.getD_eq_getElem?_getD]
    rw [List.getElem?_append_right (by rw [headP_length]; omega), headP_length, Nat.add_sub_cancel_left]
  rw [e]
  refine next_turned hk c p h1 (by omega) _ ys ?_ ?_ ?_
  · rw [turnL, List.length_set, hrl, hbl, htg]
  · rw [turnL, List.take_set_of_le (by omega)]
  · intro e2
    have hkl : (bodyP key p).length + kk < (restP key c p).length := by omega
    have := congrArg (fun l => l.getD kk 0) e2
    simp only [turnL, List.getD_eq_getElem?_getD, List.getElem?_drop, List.getElem?_set, if_pos hkl] at this
    simp at this
    exact xor_ne _ t ht this
/-- What Within answers. -/
def wn (n : Int) (h : Nat) : Nat := if n.tmod ((h : Int) + 1) < 0 then (n.tmod ((h : Int) + 1) + h + 1).toNat else (n.tmod ((h : Int) + 1)).toNat
theorem wn_le (n : Int) (h : Nat) : wn n h ≤ h := by
  have hr1 : n.tmod ((h : Int) + 1) ≤ h := by
    have := Int.tmod_lt_of_pos n (show (0 : Int) < (h : Int) + 1 by omega); omega
  unfold wn
  split <;> omega
set_option maxHeartbeats 400000 in
theorem within_x (n : Int) (h : Nat) (hh : h ≤ 1000000000) (w : World) :
    Calls Tryd.prog 22 #[.int .i64 n, .int .i64 0, .int .i64 h] w fun e w' => e = .returned (.int .i64 (wn n h : Nat)) ∧ w' = w := by
  have hr0 : -(h : Int) ≤ n.tmod ((h : Int) + 1) := by
    by_cases hn : 0 ≤ n
    · have := Int.tmod_nonneg ((h : Int) + 1) hn; omega
    · have h1 := Int.lt_tmod_of_pos n (show (0 : Int) < (h : Int) + 1 by omega); omega
  have hr1 : n.tmod ((h : Int) + 1) ≤ h := by
    have := Int.tmod_lt_of_pos n (show (0 : Int) < (h : Int) + 1 by omega); omega
  by_cases hneg : n.tmod ((h : Int) + 1) < 0
  · have HE : Hid (((wn n h : Nat) : Int) = n.tmod ((h : Int) + 1) + h + 1) := by
      show _ = _
      unfold wn
      rw [if_pos hneg, Int.toNat_of_nonneg (by omega)]
    go_enter Tryd.func22, Tryd.ntmps22
    go_wp2
    go_ret
    exact ⟨by rw [HE.out]; rfl, rfl⟩
  · have HE : Hid (((wn n h : Nat) : Int) = n.tmod ((h : Int) + 1)) := by
      show _ = _
      unfold wn
      rw [if_neg hneg, Int.toNat_of_nonneg (by omega)]
    go_enter Tryd.func22, Tryd.ntmps22
    go_wp2
    go_ret
    exact ⟨by rw [HE.out]; rfl, rfl⟩
end Go.Proofs.YthkaibkmpenclaaDoor
