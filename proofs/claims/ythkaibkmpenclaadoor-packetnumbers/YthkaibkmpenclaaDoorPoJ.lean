/- A copy by append; the walk of the law PolyBlocks. -/
import Derived.Test.YthkaibkmpenclaaDoorPoI
namespace Go.Proofs.YthkaibkmpenclaaDoor
open Go Go.RowKit

theorem wpList_clone (w : World) {ops : Array Oper} {rest : List Oper} {o : Oper} {a : Act} {Q : Exit → Act → World → Prop} (hgd : o.guard = none) (s xo : Operand)
    (ho : o.op = .call { callee := .builtin .append, args := #[s, xo], argTypes := #[22, 22] }) (hsv : a.eval s = .slice (some ⟨w.heap.size, 0, none⟩) 0 0)
    (x : Value) (xs : List UInt8) (hx : a.eval xo = x) (hb : BSl w x xs) (hl : xs.length ≤ 1000000)
    (h : ∀ v' w', w'.ownsRow w.heap.size 5 1 v' xs.length (bcells xs) → Below w.heap.size w w' → wpList Tryd.prog ops Q rest (a.put o.dst v') w') :
    wpList Tryd.prog ops Q (o :: rest) a (w.alloc (.cells #[] 5)) := by
  obtain ⟨i0, hi, hz0, hz1, hz2⟩ := info_parts Tryd.infoU8
  refine wpList_append_src (w.alloc (.cells #[] 5)) hgd s xo 22 22 ho w.heap.size 5 i0 _ 1 Tryd.underlying22 hi hz0 hz1 hz2 rfl (.slice (some ⟨w.heap.size, 0, none⟩) 0 0) 0 _ hsv (own_empty w) x xs.length _ hx ((hb.alloc _).src) (by unfold maxLen; omega) (by omega) (by simp) (w.heap.size + 1) (by simp) ?_
  intro v' w' hown hgrow _ _
  rw [Nat.zero_add, List.nil_append] at hown
  exact h v' w' hown (((Below.refl _ w).alloc (Nat.le_refl _) _).grown hgrow (by simp) (fun k hk => by simp [Value.ownBlock] at hk; omega))

def xorAt (m : UInt8) : List Nat → List UInt8 → List UInt8
  | [], K => K
  | i :: is, K => xorAt m is (K.set i (K.getD i 0 ^^^ m))
theorem xorAt_length (m : UInt8) (is : List Nat) (K : List UInt8) : (xorAt m is K).length = K.length := by
  induction is generalizing K with
  | nil => rfl
  | cons i is ih => rw [xorAt, ih, List.length_set]
theorem xorAt_snoc (m : UInt8) (is : List Nat) (i : Nat) (K : List UInt8) : xorAt m (is ++ [i]) K = (xorAt m is K).set i ((xorAt m is K).getD i 0 ^^^ m) := by
  induction is generalizing K with
  | nil => rfl
  | cons j is ih => rw [List.cons_append, xorAt, ih]; rfl
/-- The key with the bits turned that are cleared by rule. -/
def turned (K : List UInt8) : List UInt8 := xorAt 3 [4, 8, 12] (xorAt 240 [3, 7, 11, 15] K)
theorem turned_length (K : List UInt8) : (turned K).length = K.length := by rw [turned, xorAt_length, xorAt_length]
theorem all_bytes {p : UInt8 → Prop} (h : ∀ n : Fin 256, p (UInt8.ofNat n.1)) (k : UInt8) : p k := by
  have := h ⟨k.toNat, UInt8.toNat_lt k⟩
  rwa [UInt8.ofNat_toNat] at this
theorem turn_240 (k : UInt8) : (k ^^^ 240) &&& 15 = k &&& 15 := all_bytes (p := fun k => (k ^^^ 240) &&& 15 = k &&& 15) (by decide +kernel) k
theorem turn_3 (k : UInt8) : (k ^^^ 3) &&& 252 = k &&& 252 := all_bytes (p := fun k => (k ^^^ 3) &&& 252 = k &&& 252) (by decide +kernel) k
theorem list32 {L : List UInt8} (h : L.length = 32) : ∃ a b c d e f g i j k l m n o p q r, L = a :: b :: c :: d :: e :: f :: g :: i :: j :: k :: l :: m :: n :: o :: p :: q :: r := by
  match L, h with
  | a :: b :: c :: d :: e :: f :: g :: i :: j :: k :: l :: m :: n :: o :: p :: q :: r, _ => exact ⟨a, b, c, d, e, f, g, i, j, k, l, m, n, o, p, q, r, rfl⟩
theorem turned_same {K : List UInt8} (h : K.length = 32) (b : List UInt8) : polyL (turned K) b = polyL K b := by
  obtain ⟨a0, a1, a2, a3, a4, a5, a6, a7, a8, a9, a10, a11, a12, a13, a14, a15, r, rfl⟩ := list32 h
  have ht : turned (a0 :: a1 :: a2 :: a3 :: a4 :: a5 :: a6 :: a7 :: a8 :: a9 :: a10 :: a11 :: a12 :: a13 :: a14 :: a15 :: r) = a0 :: a1 :: a2 :: (a3 ^^^ 240) :: (a4 ^^^ 3) :: a5 :: a6 :: (a7 ^^^ 240) :: (a8 ^^^ 3) :: a9 :: a10 :: (a11 ^^^ 240) :: (a12 ^^^ 3) :: a13 :: a14 :: (a15 ^^^ 240) :: r := rfl
  have hf : factor (a0 :: a1 :: a2 :: (a3 ^^^ 240) :: (a4 ^^^ 3) :: a5 :: a6 :: (a7 ^^^ 240) :: (a8 ^^^ 3) :: a9 :: a10 :: (a11 ^^^ 240) :: (a12 ^^^ 3) :: a13 :: a14 :: (a15 ^^^ 240) :: r) = factor (a0 :: a1 :: a2 :: a3 :: a4 :: a5 :: a6 :: a7 :: a8 :: a9 :: a10 :: a11 :: a12 :: a13 :: a14 :: a15 :: r) := by
    have hc : ∀ x3 x4 x7 x8 x11 x12 x15 : UInt8, clL ((a0 :: a1 :: a2 :: x3 :: x4 :: a5 :: a6 :: x7 :: x8 :: a9 :: a10 :: x11 :: x12 :: a13 :: a14 :: x15 :: r).take 16) = [a0 &&& 255, a1 &&& 255, a2 &&& 255, x3 &&& 15, x4 &&& 252, a5 &&& 255, a6 &&& 255, x7 &&& 15, x8 &&& 252, a9 &&& 255, a10 &&& 255, x11 &&& 15, x12 &&& 252, a13 &&& 255, a14 &&& 255, x15 &&& 15] := fun _ _ _ _ _ _ _ => rfl
    unfold factor
    rw [hc, hc, turn_240, turn_240, turn_240, turn_240, turn_3, turn_3, turn_3]
  unfold polyL polyV
  rw [ht, hf]
  rfl
theorem set_same_iff {X : List UInt8} {i : Nat} (hi : i < X.length) (t : UInt8) : X.set i (X.getD i 0 ^^^ t) = X ↔ t = 0 := by
  constructor
  · intro h
    have h2 : (X.set i (X.getD i 0 ^^^ t)).getD i 0 = X.getD i 0 := by rw [h]
    simp only [List.getD_eq_getElem?_getD, List.getElem?_set_self hi, Option.getD_some] at h2
    have h3 : (X[i]?.getD 0) ^^^ ((X[i]?.getD 0) ^^^ t) = (X[i]?.getD 0) ^^^ (X[i]?.getD 0) := by rw [h2]
    rwa [← UInt8.xor_assoc, UInt8.xor_self, UInt8.zero_xor] at h3
  · rintro rfl
    rw [UInt8.xor_zero]
    apply List.ext_getElem
    · simp
    · intro j h1 h2
      by_cases h : j = i
      · subst h; simp [hi]
      · rw [List.getElem_set_ne (by omega)]
end Go.Proofs.YthkaibkmpenclaaDoor
