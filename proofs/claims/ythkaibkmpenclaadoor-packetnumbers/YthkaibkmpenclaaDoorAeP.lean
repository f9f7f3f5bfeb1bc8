/- Sealed bytes, plainly: what is summed, sealed and opened. -/
import Derived.Test.YthkaibkmpenclaaDoorChH
import Derived.Test.YthkaibkmpenclaaDoorPoJ
namespace Go.Proofs.YthkaibkmpenclaaDoor
open Go Go.RowKit

theorem ok_of {key nonce : List UInt8} (hk : key.length = 32) (hn : nonce.length = 12) : okSizes key nonce = true := by simp [okSizes, hk, hn]
theorem of_ok {key nonce : List UInt8} (h : okSizes key nonce = true) : key.length = 32 ∧ nonce.length = 12 := by simpa [okSizes] using h
theorem xorL_length (key : List UInt8) (ctr : Int) (nonce ys : List UInt8) : (xorL key ctr nonce ys).length = ys.length := xorTo_length _ _ _ _ _
theorem xorL_getD (key : List UInt8) (ctr : Int) (nonce ys : List UInt8) (i : Nat) (hi : i < ys.length) : (xorL key ctr nonce ys).getD i 0 = xb key ctr nonce ys i := by
  simp [xorL, xorTo, hi]
theorem getD_ext {xs ys : List UInt8} (hl : xs.length = ys.length) (h : ∀ i, i < xs.length → xs.getD i 0 = ys.getD i 0) : xs = ys := by
  apply List.ext_getElem hl
  intro i h1 h2
  have := h i h1
  simpa [h1, h2] using this
theorem xor_twice (key : List UInt8) (ctr : Int) (nonce xs : List UInt8) : xorL key ctr nonce (xorL key ctr nonce xs) = xs := by
  apply getD_ext
  · rw [xorL_length, xorL_length]
  · intro i hi
    rw [xorL_length, xorL_length] at hi
    rw [xorL_getD _ _ _ _ _ (by rw [xorL_length]; exact hi)]
    unfold xb
    rw [xorL_getD _ _ _ _ _ hi]
    unfold xb
    rw [UInt8.xor_assoc, UInt8.xor_self, UInt8.xor_zero]
theorem bsl_none (w : World) : BSl w (.slice none 0 0) [] := ⟨none, 0, rfl, by simp, by simp [maxLen], fun _ => ⟨rfl, rfl⟩, fun _ _ h => absurd rfl h⟩
theorem bsl_empty (w : World) (ao : Option Addr) (cap : Nat) (hc : cap ≤ maxLen) (hn : ao = none → cap = 0) : BSl w (.slice ao 0 cap) [] :=
  ⟨ao, cap, rfl, by simp, hc, fun e => ⟨rfl, hn e⟩, fun _ _ h => absurd rfl h⟩

/-- So many noughts are put behind n bytes. -/
def padN (n : Nat) : Nat := (16 - n % 16) % 16
theorem padN_le (n : Nat) : padN n ≤ 15 := by unfold padN; omega
def padL (xs : List UInt8) : List UInt8 := xs ++ List.replicate (padN xs.length) 0
theorem padL_length (xs : List UInt8) : (padL xs).length = xs.length + padN xs.length := by simp [padL]
/-- What is summed: of what is beside and of what is hidden. -/
def macL (a c : List UInt8) : List UInt8 := padL (padL a ++ c) ++ (lowB a.length 8 ++ lowB c.length 8)
theorem macL_length (a c : List UInt8) : (macL a c).length ≤ a.length + c.length + 46 := by
  have h1 := padN_le a.length
  have h2 := padN_le (padL a ++ c).length
  simp only [macL, List.length_append, padL_length, lowB_length] at *
  omega
/-- The sum's key. -/
def skL (key nonce : List UInt8) : List UInt8 := (bk key 0 nonce).take 32
theorem skL_length (key nonce : List UInt8) : (skL key nonce).length = 32 := by simp [skL, bk_length]
/-- The sum that stands behind what is hidden. -/
def tagL (key nonce beside c : List UInt8) : List UInt8 := polyL (skL key nonce) (macL beside c)
theorem tagL_length (key nonce beside c : List UInt8) : (tagL key nonce beside c).length = 16 := polyL_length _ _
def sealE (key nonce : List UInt8) : Nat := if okSizes key nonce then 0 else 1
def sealT (key nonce beside b : List UInt8) : List UInt8 := if okSizes key nonce then xorL key 1 nonce b ++ tagL key nonce beside (xorL key 1 nonce b) else []
theorem sealT_length {key nonce : List UInt8} (beside b : List UInt8) (h : okSizes key nonce = true) : (sealT key nonce beside b).length = b.length + 16 := by
  rw [sealT, if_pos h, List.length_append, xorL_length, tagL_length]
def openE (key nonce beside b : List UInt8) : Nat :=
  if okSizes key nonce then (if b.length < 16 then 10 else if tagL key nonce beside (b.take (b.length - 16)) = b.drop (b.length - 16) then 0 else 14) else 1
def openT (key nonce beside b : List UInt8) : List UInt8 := if openE key nonce beside b = 0 then xorL key 1 nonce (b.take (b.length - 16)) else []
theorem seal_take {key nonce : List UInt8} (beside b : List UInt8) (h : okSizes key nonce = true) : (sealT key nonce beside b).take b.length = xorL key 1 nonce b := by
  rw [sealT, if_pos h, List.take_left' (xorL_length _ _ _ _)]
theorem seal_drop {key nonce : List UInt8} (beside b : List UInt8) (h : okSizes key nonce = true) : (sealT key nonce beside b).drop b.length = tagL key nonce beside (xorL key 1 nonce b) := by
  rw [sealT, if_pos h, List.drop_left' (xorL_length _ _ _ _)]
theorem open_seal {key nonce : List UInt8} (beside b : List UInt8) (h : okSizes key nonce = true) : openE key nonce beside (sealT key nonce beside b) = 0 := by
  have hl := sealT_length beside b h
  rw [openE, if_pos h, if_neg (by omega), show (sealT key nonce beside b).length - 16 = b.length by omega, seal_take beside b h, seal_drop beside b h, if_pos rfl]
theorem open_text {key nonce : List UInt8} (beside b : List UInt8) (h : okSizes key nonce = true) : openT key nonce beside (sealT key nonce beside b) = b := by
  have hl := sealT_length beside b h
  rw [openT, if_pos (open_seal beside b h), show (sealT key nonce beside b).length - 16 = b.length by omega, seal_take beside b h, xor_twice]
/-- A Seal with its sum turned is another's. -/
theorem open_turned {key nonce : List UInt8} (beside b s : List UInt8) (h : okSizes key nonce = true) (hl : s.length = b.length + 16) (ht : s.take b.length = xorL key 1 nonce b) (hd : s.drop b.length ≠ tagL key nonce beside (xorL key 1 nonce b)) : openE key nonce beside s = 14 := by
  rw [openE, if_pos h, if_neg (by omega), show s.length - 16 = b.length by omega, ht, if_neg (fun e => hd e.symm)]
theorem open_short {key nonce : List UInt8} (beside s : List UInt8) (h : okSizes key nonce = true) (hl : s.length < 16) : openE key nonce beside s = 10 := by
  rw [openE, if_pos h, if_pos hl]
theorem openT_not {key nonce beside s : List UInt8} (h : openE key nonce beside s ≠ 0) : openT key nonce beside s = [] := by rw [openT, if_neg h]

/-- What is told beside a number: bytes that are new. -/
def ETold (w : World) (n : Nat) (xs : List UInt8) (e : Ending) (w' : World) : Prop :=
  Below w.heap.size w w' ∧ ∃ v, e = .returned (.tuple #[v, .int .i64 (n : Int)]) ∧ BSl w' v xs ∧ ∀ g, v.ownBlock = some g → w.heap.size ≤ g ∧ g < w'.heap.size
/-- The same, as a row of its own. -/
def OTold (w : World) (n : Nat) (xs : List UInt8) (e : Ending) (w' : World) : Prop :=
  Below w.heap.size w w' ∧ ∃ v, e = .returned (.tuple #[v, .int .i64 (n : Int)]) ∧ w'.ownsRow w.heap.size 5 1 v xs.length (bcells xs)
theorem OTold.told {w w' : World} {n : Nat} {xs : List UInt8} {e : Ending} (h : OTold w n xs e w') : ETold w n xs e w' := by
  obtain ⟨h1, v, h2, h3⟩ := h
  exact ⟨h1, v, h2, BSl.ofRow h3, h3.lt⟩
theorem ETold.nil {w w' : World} {n : Nat} (hb : Below w.heap.size w w') : ETold w n [] (.returned (.tuple #[.slice none 0 0, .int .i64 (n : Int)])) w' := ⟨hb, _, rfl, bsl_none w', fun g e => by simp [Value.ownBlock] at e⟩
theorem OTold.nil {w w' : World} {n : Nat} (hb : Below w.heap.size w w') : OTold w n [] (.returned (.tuple #[.slice none 0 0, .int .i64 (n : Int)])) w' := ⟨hb, _, rfl, World.ownsRow_nil _ _ _ _⟩
theorem XTold.ok {w w' : World} {key nonce xs : List UInt8} {e : Ending} (h : XTold w key nonce xs e w') (hk : okSizes key nonce = true) : Below w.heap.size w w' ∧ ∃ g, e = .returned (.tuple #[.slice (some ⟨g, 0, none⟩) xs.length xs.length, .int .i64 0]) ∧ w.heap.size ≤ g ∧ w'.heap[g]? = some (.cells (bcells xs).toArray 5 (0, 0)) := by
  obtain ⟨hb, hT⟩ := h
  rcases hT with ⟨_, h⟩ | ⟨hno, _⟩
  · exact ⟨hb, h⟩
  · exact absurd hk (by rw [hno]; simp)
theorem Told.okS {w w' : World} {key nonce xs : List UInt8} {e : Ending} (h : Told w key nonce xs e w') (hk : okSizes key nonce = true) : Below w.heap.size w w' ∧ ∃ v, e = .returned (.tuple #[v, .int .i64 0]) ∧ BSl w' v xs ∧ ∀ g, v.ownBlock = some g → w.heap.size ≤ g ∧ g < w'.heap.size := by
  obtain ⟨hb, hT⟩ := h
  rcases hT with ⟨_, h⟩ | ⟨hno, _⟩
  · exact ⟨hb, h⟩
  · exact absurd hk (by rw [hno]; simp)
theorem Told.noS {w w' : World} {key nonce xs : List UInt8} {e : Ending} (h : Told w key nonce xs e w') (hk : okSizes key nonce = false) : Below w.heap.size w w' ∧ e = .returned (.tuple #[.slice none 0 0, .int .i64 1]) := by
  obtain ⟨hb, hT⟩ := h
  rcases hT with ⟨hno, _⟩ | ⟨_, h⟩
  · exact absurd hk (by rw [hno]; simp)
  · exact ⟨hb, h⟩
/-- A block's whole row is owned. -/
theorem own_block {w : World} {base g : Nat} {xs : List UInt8} (h : w.heap[g]? = some (.cells (bcells xs).toArray 5 (0, 0))) (hb : base ≤ g) (hl : xs.length ≤ 1000000) : w.ownsRow base 5 1 (.slice (some ⟨g, 0, none⟩) xs.length xs.length) xs.length (bcells xs) := by
  refine ⟨by rw [bcells_length]; omega, .inr ⟨g, xs.length, (bcells xs).toArray, rfl, hb, h, Nat.le_refl _, by unfold maxLen; omega, by simp [bcells_length], ?_⟩⟩
  rw [List.take_of_length_le (by simp [bcells_length])]
theorem low8_step (n k : Nat) : n / 256 ^ k / 256 = n / 256 ^ (k + 1) := by rw [Nat.pow_succ, Nat.div_div_eq_div_mul]
end Go.Proofs.YthkaibkmpenclaaDoor
