/- What CurveBoth asks, plainly: bits by rule, the top bit. -/
import Derived.Test.YtdgapijgdbhlfaaDoorCvU
namespace Go.Proofs.YtdgapijgdbhlfaaDoor
open Go Go.RowKit

theorem ORow.ofBlockV {w : World} {g : Nat} {xs : List UInt8} (h : w.heap[g]? = some (.cells (bcells xs).toArray 5 (0, 0))) (hl : xs.length = 32) : ORow w 0 g 32 xs :=
  ⟨Nat.zero_le _, by omega, by unfold maxLen; omega, _, h, by rw [List.size_toArray, bcells_length, hl], by rw [List.take_of_length_le (by rw [bcells_length]; omega)]⟩
theorem ORow.freshV {w w' : World} {b g cap : Nat} {xs : List UInt8} (h : ORow w b g cap xs) (hb : Below w.heap.size w w') : ORow w' b g cap xs := h.keep (S := fun _ => False) (Keeps.ofFresh hb) id
theorem ORow.bsl32 {w : World} {b g cap : Nat} {xs : List UInt8} (h : ORow w b g cap xs) (hl : xs.length = 32) : BSl w (.slice (some ⟨g, 0, none⟩) 32 cap) xs := by
  have := h.bsl
  rw [hl] at this
  exact this
theorem wpList_cloneV (w : World) {ops : Array Oper} {rest : List Oper} {o : Oper} {a : Act} {Q : Exit → Act → World → Prop} (hgd : o.guard = none) (s xo : Operand)
    (ho : o.op = .call { callee := .builtin .append, args := #[s, xo], argTypes := #[22, 22] }) (hsv : a.eval s = .slice (some ⟨w.heap.size, 0, none⟩) 0 0)
    (x : Value) (xs : List UInt8) (hx : a.eval xo = x) (hb : BSl w x xs) (hl : xs.length ≤ 1000000)
    (h : ∀ v' w', w'.ownsRow w.heap.size 5 1 v' xs.length (bcells xs) → Below w.heap.size w w' → wpList Tryd.prog ops Q rest (a.put o.dst v') w') :
    wpList Tryd.prog ops Q (o :: rest) a (w.alloc (.cells #[] 5)) := by
  obtain ⟨i0, hi, hz0, hz1, hz2⟩ := info_parts Tryd.infoU8
  refine wpList_append_src (w.alloc (.cells #[] 5)) hgd s xo 22 22 ho w.heap.size 5 i0 _ 1 Tryd.underlying22 hi hz0 hz1 hz2 rfl (.slice (some ⟨w.heap.size, 0, none⟩) 0 0) 0 _ hsv (own_empty w) x xs.length _ hx ((hb.alloc _).src) (by unfold maxLen; omega) (by omega) (by simp) (w.heap.size + 1) (by simp) ?_
  intro v' w' hown hgrow _ _
  rw [Nat.zero_add, List.nil_append] at hown
  exact h v' w' hown (((Below.refl _ w).alloc (Nat.le_refl _) _).grown hgrow (by simp) (fun k hk => by simp [Value.ownBlock] at hk; omega))

theorem low_bits : ∀ x l : Fin 256, ((x.val &&& 248) ||| (l.val &&& 7)) &&& 248 = x.val &&& 248 := by decide +kernel
theorem high_bits : ∀ x l : Fin 256, (((x.val &&& 63) ||| (l.val &&& 192)) &&& 127) ||| 64 = (x.val &&& 127) ||| 64 := by decide +kernel
theorem low_same (x l : UInt8) : ((x &&& 248) ||| (l &&& 7)) &&& 248 = x &&& 248 := by
  apply UInt8.toNat_inj.1
  simp only [UInt8.toNat_and, UInt8.toNat_or]
  exact low_bits ⟨x.toNat, x.toNat_lt⟩ ⟨l.toNat, l.toNat_lt⟩
theorem high_same (x l : UInt8) : (((x &&& 63) ||| (l &&& 192)) &&& 127) ||| 64 = (x &&& 127) ||| 64 := by
  apply UInt8.toNat_inj.1
  simp only [UInt8.toNat_and, UInt8.toNat_or]
  exact high_bits ⟨x.toNat, x.toNat_lt⟩ ⟨l.toNat, l.toNat_lt⟩
/-- Bits that are set by rule don't matter. -/
theorem clamp_same (A : List UInt8) (hA : A.length = 32) (l h : UInt8) : clampL ((A.set 0 ((A.getD 0 0 &&& 248) ||| (l &&& 7))).set 31 ((A.getD 31 0 &&& 63) ||| (h &&& 192))) = clampL A := by
  unfold clampL
  have e0 : ((A.set 0 ((A.getD 0 0 &&& 248) ||| (l &&& 7))).set 31 ((A.getD 31 0 &&& 63) ||| (h &&& 192))).getD 0 0 = (A.getD 0 0 &&& 248) ||| (l &&& 7) := by
    rw [List.getD_eq_getElem?_getD, List.getElem?_set_ne (by omega), List.getElem?_set_self (by omega)]
    rfl
  have e1 : ((A.set 0 ((A.getD 0 0 &&& 248) ||| (l &&& 7))).set 31 ((A.getD 31 0 &&& 63) ||| (h &&& 192))).getD 31 0 = (A.getD 31 0 &&& 63) ||| (h &&& 192) := by
    rw [List.getD_eq_getElem?_getD, List.getElem?_set_self (by simp; omega)]
    rfl
  rw [e0, e1, low_same, high_same, List.set_comm _ _ (show (31 : Nat) ≠ 0 by omega), List.set_set, List.set_set]
theorem mul_clamp {A C : List UInt8} (h : clampL C = clampL A) (p : List UInt8) : mulL C p = mulL A p := by unfold mulL; rw [h]
theorem top_bits : ∀ x : Fin 256, (x.val ^^^ 128) % 128 = x.val % 128 := by decide +kernel
theorem leV_set31 (Q : List UInt8) (y : UInt8) (n : Nat) (hn : n ≤ 31) : leV (Q.set 31 y) n = leV Q n := by
  induction n with
  | zero => rfl
  | succ n ih => rw [leV, leV, ih (by omega), List.getD_eq_getElem?_getD, List.getElem?_set_ne (by omega), ← List.getD_eq_getElem?_getD]
theorem num_top (Q : List UInt8) (hQ : Q.length = 32) : numV (Q.set 31 (Q.getD 31 0 ^^^ 128)) = numV Q := by
  have e : (Q.set 31 (Q.getD 31 0 ^^^ 128)).getD 31 0 = Q.getD 31 0 ^^^ 128 := by
    rw [List.getD_eq_getElem?_getD, List.getElem?_set_self (by omega)]
    rfl
  have h := top_bits ⟨(Q.getD 31 0).toNat, (Q.getD 31 0).toNat_lt⟩
  have hb := leV_lt Q 31
  unfold numV
  rw [show ∀ S, leV S 32 = leV S 31 + (S.getD 31 0).toNat * 256 ^ 31 from fun _ => rfl, show ∀ S, leV S 32 = leV S 31 + (S.getD 31 0).toNat * 256 ^ 31 from fun _ => rfl, e, leV_set31 Q _ 31 (Nat.le_refl _), UInt8.toNat_xor]
  simp only at h
  rw [show (128 : UInt8).toNat = 128 from rfl]
  generalize (Q.getD 31 0).toNat ^^^ 128 = x at h
  generalize (Q.getD 31 0).toNat = y at h
  rw [show (256 : Nat) ^ 31 = 452312848583266388373324160190187140051835877600158453279131187530910662656 from rfl] at hb ⊢
  omega
theorem mul_top (A Q : List UInt8) (hQ : Q.length = 32) : mulL A (Q.set 31 (Q.getD 31 0 ^^^ 128)) = mulL A Q := by unfold mulL; rw [num_top Q hQ]
theorem andU (x m : UInt8) : bits .and .u8 (x.toNat : Int) (m.toNat : Int) = ((x &&& m).toNat : Int) := by rw [u8_and_nat _ _ x.toNat_lt m.toNat_lt, UInt8.toNat_and]
theorem orU (x m : UInt8) : bits .or .u8 (x.toNat : Int) (m.toNat : Int) = ((x ||| m).toNat : Int) := by rw [u8_or_nat _ _ x.toNat_lt m.toNat_lt, UInt8.toNat_or]
theorem xorU (x m : UInt8) : bits .xor .u8 (x.toNat : Int) (m.toNat : Int) = ((x ^^^ m).toNat : Int) := by rw [u8_xor_nat _ _ x.toNat_lt m.toNat_lt, UInt8.toNat_xor]

end Go.Proofs.YtdgapijgdbhlfaaDoor
