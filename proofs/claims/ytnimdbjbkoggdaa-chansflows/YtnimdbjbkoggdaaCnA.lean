/- What other stages' texts have of use here: answers, strings, reading on. -/
import Derived.Test.YtnimdbjbkoggdaaKpW
import Derived.Test.YtnimdbjbkoggdaaQrC
import Derived.Test.YtnimdbjbkoggdaaKnown
namespace Go.Proofs.Ytnimdbjbkoggdaa
open Go Go.RowKit

theorem str_eq (s t : ByteArray) : (s.toList == t.toList) = true ↔ s = t := by
  rw [ByteArray.toList_eq, ByteArray.toList_eq, beq_iff_eq]
  exact ⟨fun h => ByteArray.ext (Array.toList_inj.1 h), fun h => h ▸ rfl⟩
theorem str_ne {s t : ByteArray} (h : (s.toList == t.toList) = false) : s ≠ t := fun e => by rw [(str_eq s t).2 e] at h; cases h
theorem str_no {s t : ByteArray} (h : s ≠ t) : (s.toList == t.toList) = false := by
  cases e : s.toList == t.toList with
  | false => rfl
  | true => exact absurd ((str_eq s t).1 e) h
def byeL (r : Nat) : List UInt8 := 1 :: (be 4 r ++ (textBytes [] ++ textBytes []))
theorem byeL_len (r : Nat) : (byeL r).length = 13 := by simp [byeL, textBytes, be_length]
/-- A call answers bytes xs of its own, and nothing that was there has turned. -/
def Gave (w : World) (xs : List UInt8) (e : Ending) (w' : World) : Prop := ∃ v, e = .returned v ∧ w'.ownsRow w.heap.size 5 1 v xs.length (bcells xs) ∧ Below w.heap.size w w'
theorem wrote_b {a base : Nat} {g g' : Option Nat} {w0 w w' : World} {bs : List UInt8} (hb : Below base w0 w) (h : Wrote a g g' w w') (hs : WS w base a g bs) : Below base w0 w' := hb.trans (h.below hs)
theorem gave_of {w w1 w2 : World} {bs xs : List UInt8} {v : Value} (hb : Below w.heap.size w w1) (ho : w2.ownsRow w1.heap.size 5 1 v bs.length (bcells bs)) (hb2 : Below w1.heap.size w1 w2) (e : bs = xs) : Gave w xs (.returned v) w2 := by
  subst e
  refine ⟨v, rfl, ⟨ho.1, ?_⟩, hb.trans (hb2.mono hb.size)⟩
  rcases ho.2 with h | ⟨g, cap, cur, h1, h2, h3⟩
  · exact .inl h
  · exact .inr ⟨g, cap, cur, h1, Nat.le_trans hb.size h2, h3⟩
set_option maxHeartbeats 800000 in
set_option maxRecDepth 100000 in
theorem Bye_c (r : Nat) (hr : r ≤ 4294967295) (w : World) : Calls Try.prog 26 #[.int .u32 r] w fun e w' => Gave w (byeL r) e w' := by
  have he : ([] ++ [byteOf 1] ++ be 4 r ++ textBytes [] ++ textBytes [] : List UInt8) = byeL r := by rw [show byteOf 1 = 1 from rfl]; simp [byeL]
  have HE := hidden he
  clear he
  generalize byeL r = R at HE ⊢
  go_enter Try.func26, Try.ntmps26
  go_wp2_with fail
  refine (newWriter_c _).mono ?_
  rintro e w1 ⟨rfl, rfl⟩
  have h1 := hidden (WS.new w (Nat.le_refl _))
  have b1 := hidden ((Below.refl w.heap.size w).alloc (Nat.le_refl _) (.cells #[.slice none 0 0] 111))
  generalize w.alloc (.cells #[.slice none 0 0] 111) = w1 at h1 b1 ⊢
  go_wp2_with fail
  refine (byte_c 1 w1 h1.out (by simp)).mono ?_
  rintro e w2 ⟨rfl, g2, h2, t2⟩
  have b2 := hidden (wrote_b b1.out t2 h1.out)
  have h2 := hidden h2
  clear h1 b1 t2
  go_wp2_with fail
  refine (u32_c r (by omega) (by omega) w2 h2.out (by simp)).mono ?_
  rintro e w3 ⟨rfl, g3, h3, t3⟩
  have b3 := hidden (wrote_b b2.out t3 h2.out)
  rw [Int.toNat_natCast] at h3
  have h3 := hidden h3
  clear h2 b2 t3
  go_wp2_with fail
  refine (text_c ⟨#[]⟩ (by decide) w3 h3.out (by simp [be_length]; decide)).mono ?_
  rintro e w4 ⟨rfl, g4, h4, t4⟩
  have b4 := hidden (wrote_b b3.out t4 h3.out)
  have h4 := hidden h4
  clear h3 b3 t4
  go_wp2_with fail
  refine (text_c ⟨#[]⟩ (by decide) w4 h4.out (by simp [be_length, textBytes]; decide)).mono ?_
  rintro e w5 ⟨rfl, g5, h5, t5⟩
  have b5 := hidden (wrote_b b4.out t5 h4.out)
  have h5 := hidden h5
  clear h4 b4 t5
  go_wp2_with fail
  refine (done_c w5 h5.out (by simp [be_length, textBytes])).mono ?_
  rintro e w6 ⟨v6, rfl, h6, b6⟩
  have G := hidden (gave_of b5.out h6 b6 HE.out)
  clear h5 b5 h6 b6 HE
  go_wp2_with fail
  go_ret
  exact G.out
theorem str_dec (s t : ByteArray) : (s.toList == t.toList) = decide (s = t) := by rw [Bool.eq_iff_iff, str_eq, decide_eq_true_iff]
def strB (l : List UInt8) : ByteArray := ⟨l.toArray⟩
def wholeB (bs : List UInt8) (p : Nat) (why : Int) : Bool := (ends bs p why).1 == 0
theorem tk_rest (bs : List UInt8) (q : Nat) (y : Int) : (tk bs q y (lft bs q y)).1 = (if y = 0 then bs.drop q else []) := by
  unfold tk lft
  by_cases h : y = 0
  · simp only [h, if_true, Nat.lt_irrefl, if_false]
    exact List.take_of_length_le (by simp)
  · simp [h]
theorem whole_rest (bs : List UInt8) (q : Nat) (y : Int) : wholeB bs (tk bs q y (lft bs q y)).2.1 (tk bs q y (lft bs q y)).2.2 = decide (y = 0) := by
  unfold tk lft wholeB ends
  by_cases h : y = 0
  · simp only [h, if_true, Nat.lt_irrefl, if_false]
    rw [if_neg (by omega)]
    rfl
  · simp [h]
theorem WR.rowLt {w : World} {a : Nat} {g : Option Nat} {bs : List UInt8} {p : Nat} {why : Int} (h : WR w a g bs p why) (hne : bs ≠ []) : ∀ k, g = some k → k < w.heap.size := by
  obtain ⟨v, h1, h2, rfl, _⟩ := h
  cases bs with
  | nil => exact absurd rfl hne
  | cons x r => exact h2.blockLt
theorem set4 {w : World} {a : Nat} {t : TypeId} {v0 v1 v2 v3 : Value} (h : w.heap[a]? = some (.cells #[v0, v1, v2, v3] t (0, 0))) (u : Value) :
    (w.setCell ⟨a, 0, none⟩ u).heap[a]? = some (.cells #[u, v1, v2, v3] t (0, 0)) ∧ (w.setCell ⟨a, 1, none⟩ u).heap[a]? = some (.cells #[v0, u, v2, v3] t (0, 0)) ∧ (w.setCell ⟨a, 2, none⟩ u).heap[a]? = some (.cells #[v0, v1, u, v3] t (0, 0)) ∧ (w.setCell ⟨a, 3, none⟩ u).heap[a]? = some (.cells #[v0, v1, v2, u] t (0, 0)) := by
  refine ⟨?_, ?_, ?_, ?_⟩ <;> (simp only [World.setCell, Array.getElem?_modify, if_true, h]; simp)
theorem cells4 {w : World} {a : Nat} {t : TypeId} {v0 v1 v2 v3 : Value} (h : w.heap[a]? = some (.cells #[v0, v1, v2, v3] t (0, 0))) :
    w.cell? ⟨a, 0, none⟩ = some v0 ∧ w.cell? ⟨a, 1, none⟩ = some v1 ∧ w.cell? ⟨a, 2, none⟩ = some v2 ∧ w.cell? ⟨a, 3, none⟩ = some v3 ∧ ∀ j, w.frozen? ⟨a, j, none⟩ = false := by
  refine ⟨?_, ?_, ?_, ?_, fun j => by simp [World.frozen?, h]⟩ <;> simp [World.cell?, h]
theorem keepsSet (w : World) (a i : Nat) (u : Value) : Keeps (fun k => k = a) w (w.setCell ⟨a, i, none⟩ u) := Keeps.setCell (S := fun k => k = a) (p := ⟨a, i, none⟩) (Keeps.refl _ _) (.inl rfl) _
theorem str_lit (S : ByteArray) (l : List UInt8) : (S.toList == l) = decide (S = ⟨l.toArray⟩) := by
  have h : (⟨l.toArray⟩ : ByteArray).toList = l := by simp [ByteArray.toList_mk]
  have := str_dec S ⟨l.toArray⟩
  rw [h] at this
  exact this
theorem val_one (x : UInt8) : val [x] = x.toNat := by simp [val, valFrom]
theorem tk_head (x : UInt8) (r : List UInt8) : tk (x :: r) 0 0 1 = ([x], 1, 0) := by
  unfold tk
  rw [if_pos rfl, if_neg (by simp)]
  simp
theorem cells6 {w : World} {a : Nat} {t : TypeId} {v0 v1 v2 v3 v4 v5 : Value} (h : w.heap[a]? = some (.cells #[v0, v1, v2, v3, v4, v5] t (0, 0))) :
    w.cell? ⟨a, 0, none⟩ = some v0 ∧ w.cell? ⟨a, 1, none⟩ = some v1 ∧ w.cell? ⟨a, 2, none⟩ = some v2 ∧ w.cell? ⟨a, 3, none⟩ = some v3 ∧ w.cell? ⟨a, 4, none⟩ = some v4 ∧ w.cell? ⟨a, 5, none⟩ = some v5 ∧ ∀ j, w.frozen? ⟨a, j, none⟩ = false := by
  refine ⟨?_, ?_, ?_, ?_, ?_, ?_, fun j => by simp [World.frozen?, h]⟩ <;> simp [World.cell?, h]
theorem tl (s : ByteArray) : (textBytes s.data.toList).length = s.size + 4 := by
  simp only [textBytes, List.length_append, be_length, Array.length_toList]
  have : s.data.size = s.size := rfl
  omega
theorem BSl.headN {w : World} {b off n cap : Nat} {x : UInt8} {xs : List UInt8} (h : BSl w (.slice (some ⟨b, off, none⟩) n cap) (x :: xs)) : w.cell? ⟨b, off, none⟩ = some (.int .u8 x.toNat) := by
  have := h.cellAt 0 (by simp)
  simpa using this

theorem tk_shift (bs : List UInt8) (q p : Nat) (hq : q ≤ bs.length) (why : Int) (n : Nat) : tk bs (q + p) why n = ((tk (bs.drop q) p why n).1, q + (tk (bs.drop q) p why n).2.1, (tk (bs.drop q) p why n).2.2) := by
  unfold tk
  by_cases hw : why = 0
  · rw [if_pos hw, if_pos hw]
    by_cases hl : bs.length - (q + p) < n
    · rw [if_pos hl, if_pos (by rw [List.length_drop]; omega)]
      simp
      omega
    · rw [if_neg hl, if_neg (by rw [List.length_drop]; omega)]
      simp [List.drop_drop]
      omega
  · rw [if_neg hw, if_neg hw]
theorem tx_shift (bs : List UInt8) (q p : Nat) (hq : q ≤ bs.length) (why : Int) (m : Int) : tx bs (q + p) why m = ((tx (bs.drop q) p why m).1, q + (tx (bs.drop q) p why m).2.1, (tx (bs.drop q) p why m).2.2) := by
  unfold tx
  rw [tk_shift bs q p hq]
  dsimp only
  by_cases h : m.toNat < val (tk (bs.drop q) p why 4).1
  · rw [if_pos h, if_pos h]
  · rw [if_neg h, if_neg h, tk_shift bs q _ hq]
theorem whole_shift (bs : List UInt8) (q p : Nat) (hq : q ≤ bs.length) (why : Int) : wholeB bs (q + p) why = wholeB (bs.drop q) p why := by
  unfold wholeB ends
  by_cases hw : why = 0
  · rw [if_pos hw, if_pos hw]
    by_cases h : q + p < bs.length
    · rw [if_pos h, if_pos (by rw [List.length_drop]; omega)]
    · rw [if_neg h, if_neg (by rw [List.length_drop]; omega)]
  · rw [if_neg hw, if_neg hw]
theorem tk_le (bs : List UInt8) (p : Nat) (why : Int) (n : Nat) (h : p ≤ bs.length) : (tk bs p why n).2.1 ≤ bs.length := by
  unfold tk
  split
  · split <;> dsimp only <;> omega
  · exact h
theorem tx_le (bs : List UInt8) (p : Nat) (why : Int) (m : Int) (h : p ≤ bs.length) : (tx bs p why m).2.1 ≤ bs.length := by
  unfold tx
  split
  · exact h
  · exact tk_le _ _ _ _ (tk_le _ _ _ _ h)
set_option maxHeartbeats 400000 in
theorem fine_c (w : World) {c : Nat} {g : Option Nat} {bs : List UInt8} {p : Nat} {why : Int} (h : QR w c g bs p why) :
    Calls Try.prog 16 #[.pointer (some ⟨c, 0, none⟩)] w fun e w' => e = .returned (.bool (wholeB bs p why)) ∧ Keeps (fun _ => False) w w' := by
  have HN := hidden (qend_c w h)
  unfold wholeB
  generalize ends bs p why = r at *
  clear h
  go_enter Try.func16, Try.ntmps16
  go_wp2_with fail
  refine HN.out.mono ?_
  rintro e w1 ⟨rfl, ht⟩
  go_wp2
  go_ret
  exact ⟨rfl, ht⟩
theorem BSl.keepE {S : Nat → Prop} {w w' : World} {v : Value} {xs : List UInt8} (h : BSl w v xs) (hk : Keeps S w w') (hn : xs ≠ [] → ∀ k, v.ownBlock = some k → ¬ S k) : BSl w' v xs := by
  by_cases hx : xs = []
  · subst hx
    obtain ⟨ao, cap, rfl, h1, h2, h3, _⟩ := h
    exact ⟨ao, cap, rfl, h1, h2, h3, fun _ _ hne => absurd rfl hne⟩
  · exact h.keep hk (hn hx)
theorem BSl.ltE {w : World} {v : Value} {xs : List UInt8} (h : BSl w v xs) (hx : xs ≠ []) : ∀ k, v.ownBlock = some k → k < w.heap.size := by
  cases xs with
  | nil => exact absurd rfl hx
  | cons x r => exact h.blockLt
theorem Try.infoBs : (Try.prog.info? 30).map (fun i => (i.zero, i.size, i.bytes)) = some (some (.slice none 0 0), 1, 24) := by kernel_rfl
theorem srcSl {W : World} {B : Nat} {ao : Option Addr} {n c : Nat} (hb : W.heap[B]? = some (.cells #[.slice ao n c] 30 (0, 0))) : Src Try.prog 1 22 (.slice (some ⟨B, 0, none⟩) 1 1) 1 [.slice ao n c] W :=
  Src.ofSlice _ Try.underlying22 ⟨B, 0, none⟩ 1 1 [.slice ao n c] rfl (World.news_of_block (cs := #[.slice ao n c]) (t := 30) (fr := (0, 0)) hb) (by intro u hu; simp at hu; subst hu; rfl)
theorem getD_snoc {α : Type} (l : List α) (x d : α) (i : Nat) : (l ++ [x]).getD i d = if i < l.length then l.getD i d else if i = l.length then x else d := by
  simp only [List.getD_eq_getElem?_getD]
  by_cases h : i < l.length
  · rw [if_pos h, List.getElem?_append_left h]
  · rw [if_neg h]
    by_cases e : i = l.length
    · subst e
      simp
    · rw [if_neg e, List.getElem?_append_right (by omega), List.getElem?_eq_none (by simp; omega)]
      rfl
end Go.Proofs.Ytnimdbjbkoggdaa
