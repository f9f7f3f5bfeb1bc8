/- The Writer, and the document's own writers. -/
import Derived.Test.YtookapglookphaaDoorXaA
import Derived.Deep.RegionLaw
import Derived.Lib.SliceRun
import Derived.Laws.BitsAllLaws
namespace Go.Proofs.YtookapglookphaaDoor
section
open Go Go.RowKit

/-- The Writer at block a has written bs; its row lies in block g. -/
def WS (w : World) (base a : Nat) (g : Option Nat) (bs : List UInt8) : Prop :=
  ∃ v, w.heap[a]? = some (.cells #[v] 112 (0, 0)) ∧ w.ownsRow base 5 1 v bs.length (bcells bs) ∧ v.ownBlock = g ∧ g ≠ some a ∧ base ≤ a
/-- What a call of a Writer's method may turn: its cell and its row; the row stays or is new. -/
structure Wrote (a : Nat) (g g' : Option Nat) (w w' : World) : Prop where
  keeps : Keeps (fun k => k = a ∨ g = some k) w w'
  row : g' = g ∨ ∃ k, g' = some k ∧ w.heap.size ≤ k
theorem WS.lt {w : World} {base a : Nat} {g : Option Nat} {bs : List UInt8} (h : WS w base a g bs) : a < w.heap.size := by
  obtain ⟨v, h1, _⟩ := h
  exact lt_of_block h1
theorem WS.rowLt {w : World} {base a : Nat} {g : Option Nat} {bs : List UInt8} (h : WS w base a g bs) : ∀ k, g = some k → base ≤ k ∧ k < w.heap.size := by
  obtain ⟨v, _, h2, rfl, _⟩ := h
  exact h2.lt
theorem WS.base {w : World} {base a : Nat} {g : Option Nat} {bs : List UInt8} (h : WS w base a g bs) : base ≤ a := by
  obtain ⟨v, _, _, _, _, h5⟩ := h
  exact h5
theorem Wrote.refl (a : Nat) (g : Option Nat) (w : World) : Wrote a g g w w := ⟨Keeps.refl _ _, .inl rfl⟩
theorem Wrote.trans {a : Nat} {g1 g2 g3 : Option Nat} {w1 w2 w3 : World} (h : Wrote a g1 g2 w1 w2) (k : Wrote a g2 g3 w2 w3) : Wrote a g1 g3 w1 w3 := by
  refine ⟨⟨k.keeps.os.trans h.keeps.os, k.keeps.tape.trans h.keeps.tape, k.keeps.output.trans h.keeps.output, Nat.le_trans h.keeps.size k.keeps.size, ?_⟩, ?_⟩
  · intro i hi hn
    have h1 := h.keeps.block i hi hn
    rw [← h1]
    refine k.keeps.block i (Nat.lt_of_lt_of_le hi h.keeps.size) ?_
    rintro (rfl | e)
    · exact hn (.inl rfl)
    · rcases h.row with rfl | ⟨k', rfl, hk⟩
      · exact hn (.inr e)
      · simp at e; omega
  · rcases k.row with rfl | ⟨k', rfl, hk⟩
    · exact h.row
    · exact .inr ⟨k', rfl, Nat.le_trans h.keeps.size hk⟩
/-- A Writer whose blocks are out of S stays as it is. -/
theorem WS.keep {S : Nat → Prop} {w w' : World} {base a : Nat} {g : Option Nat} {bs : List UInt8} (h : WS w base a g bs) (hk : Keeps S w w') (ha : ¬ S a) (hg : ∀ k, g = some k → ¬ S k) : WS w' base a g bs := by
  have hlt := h.lt
  obtain ⟨v, h1, h2, rfl, h4, h5⟩ := h
  exact ⟨v, (hk.block a hlt ha).trans h1, hk.row h2 hg, rfl, h4, h5⟩
/-- Behind the store of what append gave: the Writer's new state. -/
theorem WS.stored {w w1 : World} {base a : Nat} {g : Option Nat} {bs : List UInt8} {news : List UInt8} {v v' : Value} {H : Nat}
    (ha : w.heap[a]? = some (.cells #[v] 112 (0, 0))) (hg : v.ownBlock = g) (hne : g ≠ some a) (hba : base ≤ a)
    {wx : World} (hx : Keeps (fun _ => False) w wx)
    {m : Nat} (hm : m = bs.length + news.length) (hown : w1.ownsRow base 5 1 v' m (bcells bs ++ bcells news)) (hgrow : wx.grownBy w1 v.ownBlock) (hat : v'.ownBlock = v.ownBlock ∨ v'.ownBlock = some H) (hH : w.heap.size ≤ H) :
    WS (w1.setCell ⟨a, 0, none⟩ v') base a v'.ownBlock (bs ++ news) ∧ Wrote a g v'.ownBlock w (w1.setCell ⟨a, 0, none⟩ v') := by
  have hlt := lt_of_block ha
  have hltx : a < wx.heap.size := Nat.lt_of_lt_of_le hlt hx.size
  have h1 : w1.heap[a]? = some (.cells #[v] 112 (0, 0)) := by
    rw [hgrow.block a hltx (by rw [hg]; exact fun e => hne e.symm), hx.block a hlt (fun h => h)]
    exact ha
  have hne' : v'.ownBlock ≠ some a := by
    rcases hat with h | h
    · rw [h, hg]; exact hne
    · rw [h]; intro e; simp at e; omega
  refine ⟨⟨v', one_setCell h1, ?_, rfl, hne', hba⟩, ?_, ?_⟩
  · have := ownsRow_setCell_other hown (a := ⟨a, 0, none⟩) (u := v') hne'
    rw [List.length_append, bcells_append, ← hm]
    exact this
  · have hk1 : Keeps (fun k => k = a ∨ g = some k) wx w1 := Keeps.ofGrown hgrow fun k e => .inr (by rw [← hg]; exact e)
    exact ((hx.mono fun k _ h => h.elim).trans hk1).setCell (.inl (.inl rfl)) _
  · rcases hat with h | h
    · exact .inl (h.trans hg)
    · exact .inr ⟨H, h, hH⟩
set_option maxHeartbeats 400000 in
theorem newWriter_c (w : World) : Calls Tryd.prog 40 #[] w fun e w' => e = .returned (.pointer (some ⟨w.heap.size, 0, none⟩)) ∧ w' = w.alloc (.cells #[.slice none 0 0] 112) := by
  go_enter Tryd.func40, Tryd.ntmps40
  go_wp2
  go_ret
  exact ⟨rfl, rfl⟩
theorem WS.new (w : World) {base : Nat} (hb : base ≤ w.heap.size) : WS (w.alloc (.cells #[.slice none 0 0] 112)) base w.heap.size none [] :=
  ⟨.slice none 0 0, heap_alloc_new w _, World.ownsRow_nil _ _ _ _, rfl, by simp, hb⟩
theorem topBit (b : UInt8) : (bits BinOp.and IntKind.u8 (b.toNat : Int) 128 != 0) = decide (128 ≤ b.toNat) := by
  have hb := b.toNat_lt
  rw [show (128 : Int) = ((128 : Nat) : Int) from rfl, u8_and_nat b.toNat 128 (by omega) (by omega)]
  have h : ∀ n : Fin 256, (((n.val &&& 128 : Nat) : Int) != 0) = decide (128 ≤ n.val) := by decide +kernel
  exact h ⟨b.toNat, by omega⟩
set_option maxHeartbeats 400000 in
theorem hasTopBit_c (b : UInt8) (w : World) : Calls Tryd.prog 72 #[.int .u8 b.toNat] w fun e w' => e = .returned (.bool (decide (128 ≤ b.toNat))) ∧ w' = w := by
  go_enter Tryd.func72, Tryd.ntmps72
  go_wp2
  go_ret
  refine ⟨?_, rfl⟩
  have := topBit b
  simp [this]
/-- The Writer's own block, in the world that an append leaves. -/
theorem block_grown {w wx w1 : World} {a : Nat} {g : Option Nat} {v : Value} (ha : w.heap[a]? = some (.cells #[v] 112 (0, 0))) (hg : v.ownBlock = g) (hne : g ≠ some a) (hx : Keeps (fun _ => False) w wx) (hgrow : wx.grownBy w1 v.ownBlock) :
    w1.heap[a]? = some (.cells #[v] 112 (0, 0)) := by
  have hlt := lt_of_block ha
  rw [hgrow.block a (Nat.lt_of_lt_of_le hlt hx.size) (by rw [hg]; exact fun e => hne e.symm), hx.block a hlt (fun h => h)]
  exact ha
set_option maxHeartbeats 400000 in
set_option maxRecDepth 100000 in
theorem byte_c (n : Int) (w : World) {base a : Nat} {g : Option Nat} {bs : List UInt8} (h : WS w base a g bs) (hl : bs.length + 1 ≤ 140737488355328) :
    Calls Tryd.prog 48 #[.pointer (some ⟨a, 0, none⟩), .int .i64 n] w fun e w' => e = .returned (.tuple #[]) ∧ ∃ g', WS w' base a g' (bs ++ [byteOf n]) ∧ Wrote a g g' w w' := by
  obtain ⟨i0, hi, hz0, hz1, hz2⟩ := info_parts Tryd.infoU8
  have hlt := h.lt
  obtain ⟨v, ha, hown, rfl, hne, hba⟩ := h
  have hc := cell_of_one ha
  have hsrc := srcOne w (n % 256)
  have hkx : Keeps (fun _ => False) w (w.alloc (.cells #[.int .u8 (n % 256)] 5)) := (Keeps.refl _ _).alloc _
  go_enter Tryd.func48, Tryd.ntmps48
  go_wp2_with (at_builtin; refine wpList_append_src _ rfl (.tmp 8) (.tmp 11) 22 22 rfl base 5 i0 _ 1 Tryd.underlying22 hi hz0 hz1 hz2 rfl v _ _ rfl (hown.alloc _) _ 1 [.int .u8 (n % 256)] rfl hsrc (by unfold maxLen; omega) (by omega) (by simp; omega) (w.heap.size + 1) (by simp) ?_)
  intro v' w1 hown' hgrow hnil hat
  have h1 := block_grown ha rfl hne hkx hgrow
  have R := WS.stored (bs := bs) (news := [byteOf n]) (m := bs.length + 1) ha rfl hne hba hkx rfl (by simpa [bcells, byteOf_nat] using hown') hgrow hat (by omega)
  obtain ⟨ao, cp, rfl⟩ := ownsRow_shape hown'
  have hc1 := cell_of_one h1
  have hf1 := free_of_one h1
  clear hown' hgrow hnil hat h1 hown hc
  go_wp2
  go_end0
  exact ⟨rfl, _, R.1, R.2⟩
/-- k bytes of n, the highest first. -/
def be : Nat → Nat → List UInt8
  | 0, _ => []
  | k + 1, n => UInt8.ofNat (n / 256 ^ k % 256) :: be k n
theorem be_length (k n : Nat) : (be k n).length = k := by
  induction k with
  | zero => rfl
  | succ k ih => simp [be, ih]
theorem be_cell (n i : Nat) : bcells [UInt8.ofNat (n / 256 ^ i % 256)] = [Value.int .u8 (IntKind.u8.wrap ((n : Int) / 2 ^ (8 * (i : Int)).toNat))] := by
  have h1 : (8 * (i : Int)).toNat = 8 * i := by omega
  have h2 : (2 : Nat) ^ (8 * i) = 256 ^ i := by rw [Nat.pow_mul]
  have h3 : ((n : Int) / 2 ^ (8 * i)) = ((n / 256 ^ i : Nat) : Int) := by rw [← h2]; simp
  rw [h1, h3]
  generalize n / 256 ^ i = x
  have h4 : IntKind.u8.wrap (x : Int) = ((x % 256 : Nat) : Int) := by simp [IntKind.wrap, IntKind.bits, IntKind.signed]
  rw [h4]
  simp [bcells]
theorem srcAtW {W : World} {B : Nat} {x : Int} (hb : W.heap[B]? = some (.cells #[.int .u8 x] 5 (0, 0))) : Src Tryd.prog 1 22 (.slice (some ⟨B, 0, none⟩) 1 1) 1 [.int .u8 x] W :=
  Src.ofSlice _ Tryd.underlying22 ⟨B, 0, none⟩ 1 1 [.int .u8 x] rfl (World.news_of_block (cs := #[.int .u8 x]) (t := 5) (fr := (0, 0)) hb) (by intro u hu; simp at hu; subst hu; rfl)
set_option maxHeartbeats 800000 in
set_option maxRecDepth 100000 in
theorem number_c (n k : Nat) (_hn : n < 2 ^ 64) (hk : 1 ≤ k) (hk8 : k ≤ 8) (w : World) {base a : Nat} {g : Option Nat} {bs : List UInt8} (h : WS w base a g bs) (hl : bs.length + 8 ≤ 140737488355328) :
    Calls Tryd.prog 90 #[.pointer (some ⟨a, 0, none⟩), .int .u64 n, .int .i64 k] w fun e w' => e = .returned (.tuple #[]) ∧ ∃ g', WS w' base a g' (bs ++ be k n) ∧ Wrote a g g' w w' := by
  obtain ⟨i0, hi, hz0, hz1, hz2⟩ := info_parts Tryd.infoU8
  go_enter Tryd.func90, Tryd.ntmps90
  go_wp2
  go_loopw [6] (fun s wr => ∃ j : Nat, j ≤ k ∧ s = .int .i64 (8 * (j : Int) - 8) ∧ ∃ pre g', pre ++ be j n = be k n ∧ WS wr base a g' (bs ++ pre) ∧ Wrote a g g' w wr) (fun s _ => (intOf s + 8).toNat)
  case atStart => exact ⟨k, Nat.le_refl _, by go_num, [], g, rfl, by simpa using h, Wrote.refl _ _ _⟩
  case round =>
    obtain ⟨j, hj, rfl, pre, g', hpre, hws, hwr⟩ := hrel
    match j, hj, hpre with
    | 0, _, hpre =>
      have HP : Hid (bs ++ pre = bs ++ be k n) := by simp [be] at hpre; rw [hpre]; rfl
      clear hpre
      go_wp2
      go_end0
      exact ⟨rfl, g', by rw [← HP.out]; exact hws, hwr⟩
    | i + 1, hj, hpre =>
      have hpl : pre.length + (i + 1) = k := by have := congrArg List.length hpre; simpa [be_length] using this
      have hpl8 : pre.length + 1 ≤ 8 := by omega
      have HL : Hid (pre.length + (i + 1) = k) := hpl
      clear hpl
      have HP : Hid (pre ++ be (i + 1) n = be k n) := hpre
      clear hpre
      rw [show (8 * ((i + 1 : Nat) : Int) - 8) = ((8 * i : Nat) : Int) from by omega]
      have hp0 : (0 : Int) ≤ ((8 * i : Nat) : Int) := Int.natCast_nonneg _
      have hp1 : ((8 * i : Nat) : Int) < 64 := by omega
      obtain ⟨v, ha, hown, rfl, hne, hba⟩ := hws
      rw [List.length_append] at hown
      have hlt := lt_of_block ha
      have hc := cell_of_one ha
      have hf := free_of_one ha
      go_wp2_with fail
      go_region_law ((refine step_append_src _ (by rfl) (.tmp 18) (.tmp 23) 22 22 (by rfl) base 5 i0 _ 1 Tryd.underlying22 hi hz0 hz1 hz2 rfl v _ _ (by rfl) ((hown.alloc _).drew) _ 1 _ (by rfl) (srcAtW (heap_alloc_new wr _)) (by unfold maxLen; simp; omega) (by simp; omega) (by simp; omega) (wr.heap.size + 1) (by simp) ?_; intro v' w1 hown' hgrow hnil hat; obtain ⟨ao, cp, rfl⟩ := ownsRow_shape hown'; have h1 := block_grown ha rfl hne ((Keeps.refl _ _).alloc _).drew hgrow; have hf1 := free_of_one h1; have hc1 := cell_of_one h1))
      all_goals
        have R := WS.stored (bs := bs ++ pre) (news := [UInt8.ofNat (n / 256 ^ i % 256)]) ha rfl hne hba ((Keeps.refl _ _).alloc _).drew (m := bs.length + pre.length + 1) (by simp) (by rw [be_cell]; exact hown') hgrow hat (by omega)
        clear hown' hgrow hnil hat h1 hown hc hf hc1 hf1 ha
        go_wp2
        go_roundw
        case rel => exact ⟨i, by omega, by go_num, pre ++ [UInt8.ofNat (n / 256 ^ i % 256)], _, by rw [← HP.out]; simp [be], by rw [← List.append_assoc]; exact R.1, hwr.trans R.2⟩
        case measure => simp [intOf]; omega
set_option maxHeartbeats 400000 in
theorem u32_c (n : Int) (h0 : 0 ≤ n) (h1 : n < 4294967296) (w : World) {base a : Nat} {g : Option Nat} {bs : List UInt8} (h : WS w base a g bs) (hl : bs.length + 8 ≤ 140737488355328) :
    Calls Tryd.prog 73 #[.pointer (some ⟨a, 0, none⟩), .int .u32 n] w fun e w' => e = .returned (.tuple #[]) ∧ ∃ g', WS w' base a g' (bs ++ be 4 n.toNat) ∧ Wrote a g g' w w' := by
  obtain ⟨n, rfl⟩ := Int.eq_ofNat_of_zero_le h0
  rw [Int.toNat_natCast]
  go_enter Tryd.func73, Tryd.ntmps73
  go_wp2_with fail
  refine (number_c n 4 (by omega) (by omega) (by omega) _ h hl).mono ?_
  rintro e w' ⟨rfl, g', h1, h2⟩
  go_wp2
  go_end0
  exact ⟨rfl, g', h1, h2⟩
set_option maxHeartbeats 400000 in
set_option maxRecDepth 100000 in
theorem raw_c (v : Value) (xs : List UInt8) (w : World) (hv : BSl w v xs) {base a : Nat} {g : Option Nat} {bs : List UInt8} (h : WS w base a g bs) (hl : bs.length + xs.length ≤ 140737488355328) :
    Calls Tryd.prog 42 #[.pointer (some ⟨a, 0, none⟩), v] w fun e w' => e = .returned (.tuple #[]) ∧ ∃ g', WS w' base a g' (bs ++ xs) ∧ Wrote a g g' w w' := by
  obtain ⟨i0, hi, hz0, hz1, hz2⟩ := info_parts Tryd.infoU8
  have hlt := h.lt
  obtain ⟨u, ha, hown, rfl, hne, hba⟩ := h
  have hc := cell_of_one ha
  have hsrc := hv.src
  go_enter Tryd.func42, Tryd.ntmps42
  go_wp2_with (at_builtin; refine wpList_append_src _ rfl (.tmp 8) (.tmp 9) 22 22 rfl base 5 i0 _ 1 Tryd.underlying22 hi hz0 hz1 hz2 rfl u _ _ rfl hown v xs.length (bcells xs) rfl hsrc (by unfold maxLen; omega) (by omega) (by omega) w.heap.size rfl ?_)
  intro v' w1 hown' hgrow hnil hat
  have h1 := block_grown ha rfl hne (Keeps.refl _ _) hgrow
  have R := WS.stored (bs := bs) (news := xs) (m := bs.length + xs.length) ha rfl hne hba (Keeps.refl _ _) rfl hown' hgrow hat (by omega)
  obtain ⟨ao, cp, rfl⟩ := ownsRow_shape hown'
  have hc1 := cell_of_one h1
  have hf1 := free_of_one h1
  clear hown' hgrow hnil hat h1 hown hc
  go_wp2
  go_end0
  exact ⟨rfl, _, R.1, R.2⟩
def textBytes (xs : List UInt8) : List UInt8 := be 4 xs.length ++ xs
set_option maxHeartbeats 400000 in
set_option maxRecDepth 100000 in
theorem text_c (s : ByteArray) (hs : s.size < 4294967296) (w : World) {base a : Nat} {g : Option Nat} {bs : List UInt8} (h : WS w base a g bs) (hl : bs.length + s.size + 8 ≤ 140737488355328) :
    Calls Tryd.prog 49 #[.pointer (some ⟨a, 0, none⟩), .string s] w fun e w' => e = .returned (.tuple #[]) ∧ ∃ g', WS w' base a g' (bs ++ textBytes s.data.toList) ∧ Wrote a g g' w w' := by
  obtain ⟨i0, hi, hz0, hz1, hz2⟩ := info_parts Tryd.infoU8
  go_enter Tryd.func49, Tryd.ntmps49
  go_wp2_with fail
  refine (u32_c _ (by omega) (by omega) _ h (by omega)).mono ?_
  rintro e w1 ⟨rfl, g1, hw1, hwr1⟩
  rw [Int.toNat_natCast] at hw1
  have hbl : (bs ++ be 4 s.size).length = bs.length + 4 := by simp [be_length]
  have hlt1 := hw1.lt
  obtain ⟨u, ha, hown, rfl, hne, hba⟩ := hw1
  rw [hbl] at hown
  have hc := cell_of_one ha
  have HB : Hid ((bs ++ be 4 s.size).length = bs.length + 4) := hbl
  clear hbl
  have hsrc := Src.ofString (P := Tryd.prog) w1 Tryd.underlying9 s
  go_wp2_with (at_builtin; refine wpList_append_src _ rfl (.tmp 13) (.tmp 14) 22 9 rfl base 5 i0 _ 1 Tryd.underlying22 hi hz0 hz1 hz2 rfl u _ _ rfl hown _ s.size (byteCells s) rfl hsrc (by unfold maxLen; omega) (by omega) (by omega) w1.heap.size rfl ?_)
  intro v' w2 hown' hgrow hnil hat
  have h1 := block_grown ha rfl hne (Keeps.refl _ _) hgrow
  have R := WS.stored (bs := bs ++ be 4 s.size) (news := s.data.toList) (m := bs.length + 4 + s.size) ha rfl hne hba (Keeps.refl _ _) (by rw [HB.out]; rfl) hown' hgrow hat (by omega)
  obtain ⟨ao, cp, rfl⟩ := ownsRow_shape hown'
  have hc1 := cell_of_one h1
  have hf1 := free_of_one h1
  clear hown' hgrow hnil hat h1 hown hc
  go_wp2
  go_end0
  exact ⟨rfl, _, by have := R.1; rw [List.append_assoc] at this; exact this, hwr1.trans R.2⟩
/-- A number's bytes without noughts ahead. -/
def bare : List UInt8 → List UInt8
  | [] => []
  | x :: xs => if x = 0 then bare xs else x :: xs
theorem bare_le (xs : List UInt8) : (bare xs).length ≤ xs.length := by
  induction xs with
  | nil => simp [bare]
  | cons x xs ih => unfold bare; split <;> simp; omega
theorem bare_fix (x : UInt8) (xs : List UInt8) (h : x ≠ 0) : bare (x :: xs) = x :: xs := by simp [bare, h]
/-- What Mpint writes. -/
def mpBytes (xs : List UInt8) : List UInt8 :=
  match bare xs with
  | [] => be 4 0
  | x :: r => if 128 ≤ x.toNat then be 4 (r.length + 2) ++ 0 :: x :: r else be 4 (r.length + 1) ++ x :: r
theorem BSl.tail {w : World} {b off cap : Nat} {x : UInt8} {xs : List UInt8} (h : BSl w (.slice (some ⟨b, off, none⟩) (x :: xs).length cap) (x :: xs)) :
    BSl w (.slice (if cap = 1 then some ⟨b, off, none⟩ else some ⟨b, off + 1, none⟩) xs.length (cap - 1)) xs ∧ (Value.slice (if cap = 1 then some ⟨b, off, none⟩ else some ⟨b, off + 1, none⟩) xs.length (cap - 1)).ownBlock = some b := by
  obtain ⟨ao, cap, e, h1, h2, h3, hc⟩ := h
  cases e
  obtain ⟨b', off', e, hcell⟩ := hc _ rfl (by simp)
  cases e
  simp only [List.length_cons] at h1
  by_cases h4 : cap = 1
  · have hx : xs = [] := List.eq_nil_of_length_eq_zero (by omega)
    subst hx
    simp only [h4, if_true]
    exact ⟨⟨_, _, rfl, by simp, by simp [maxLen], (fun e => by cases e), fun ad e hx => absurd rfl hx⟩, rfl⟩
  · simp only [h4, if_false]
    refine ⟨⟨_, _, rfl, by omega, by omega, (fun e => by cases e), fun ad e _ => ⟨b, off + 1, by cases e; rfl, fun j u hu => ?_⟩⟩, rfl⟩
    have := hcell (j + 1) u (by simpa [bcells] using hu)
    rw [show off + 1 + j = off + (j + 1) from by omega]
    exact this
/-- A slice that a Writer does not own stays behind what it writes. -/
theorem BSl.wrote {w w' : World} {v : Value} {xs : List UInt8} {a : Nat} {g g' : Option Nat} (h : BSl w v xs) (hw : Wrote a g g' w w') (hap : v.ownBlock ≠ some a ∧ ∀ k, g = some k → v.ownBlock ≠ some k) : BSl w' v xs :=
  h.keep hw.keeps fun k hk hS => hS.elim (fun e => hap.1 (by rw [hk, e])) (fun e => hap.2 k e hk)
theorem apart_next {w w' : World} {v : Value} {a : Nat} {g g' : Option Nat} (hap : v.ownBlock ≠ some a ∧ ∀ k, g = some k → v.ownBlock ≠ some k) (hw : Wrote a g g' w w') (hlt : ∀ k, v.ownBlock = some k → k < w.heap.size) :
    v.ownBlock ≠ some a ∧ ∀ k, g' = some k → v.ownBlock ≠ some k := by
  refine ⟨hap.1, fun k hk e => ?_⟩
  rcases hw.row with rfl | ⟨k', rfl, hk'⟩
  · exact hap.2 k hk e
  · cases hk
    have := hlt k e
    omega
set_option maxHeartbeats 1600000 in
set_option maxRecDepth 100000 in
theorem mpint_c (v : Value) (xs : List UInt8) (hx : xs.length + 1 < 4294967296) (w : World) (hv : BSl w v xs) {base a : Nat} {g : Option Nat} {bs : List UInt8} (h : WS w base a g bs) (hap : v.ownBlock ≠ some a ∧ ∀ k, g = some k → v.ownBlock ≠ some k) (hl : bs.length + xs.length + 16 ≤ 140737488355328) :
    Calls Tryd.prog 41 #[.pointer (some ⟨a, 0, none⟩), v] w fun e w' => e = .returned (.tuple #[]) ∧ ∃ g', WS w' base a g' (bs ++ mpBytes xs) ∧ Wrote a g g' w w' := by
  go_enter Tryd.func41, Tryd.ntmps41
  go_wp2
  go_loop [1] (fun s => ∃ ys, BSl w s ys ∧ bare ys = bare xs ∧ ys.length ≤ xs.length ∧ s.ownBlock = v.ownBlock) (fun s => (sliceLen s))
  case atStart => exact ⟨xs, hv, rfl, Nat.le_refl _, rfl⟩
  case round =>
    obtain ⟨ys, hy, hb, hyl, hob⟩ := hrel
    have HY : Hid (BSl w _ ys) := hy
    have HB : Hid (bare ys = bare xs) := hb
    have HO : Hid (_ = v.ownBlock) := hob
    clear hb hob
    cases ys with
    | nil =>
      obtain ⟨ao, cap, rfl⟩ := hy.nil
      clear hy
      go_wp2_with fail
      refine (u32_c _ (by omega) (by omega) _ h (by omega)).mono ?_
      rintro e w1 ⟨rfl, g1, hw1, hwr1⟩
      have HM : Hid (be 4 (Int.toNat 0) ++ [] = mpBytes xs) := by unfold mpBytes; rw [← HB.out]; simp [bare, Hid]
      go_wp2_with fail
      refine (raw_c _ [] _ (HY.out.wrote hwr1 (by rw [HO.out]; exact hap)) hw1 (by simp [be_length]; omega)).mono ?_
      rintro e w2 ⟨rfl, g2, hw2, hwr2⟩
      go_wp2
      go_end0
      exact ⟨rfl, g2, by rw [List.append_assoc, HM.out] at hw2; exact hw2, hwr1.trans hwr2⟩
    | cons y ys =>
      obtain ⟨b, off, cap, rfl, hc1, hc2, hob⟩ := hy.cons
      clear hy hob
      have h0 := HY.out.head
      simp only [List.length_cons] at hyl hc1
      unfold maxLen at hc2
      by_cases hy0 : y = 0
      · subst hy0
        go_wp2_with fail
        go_round
        case rel => exact ⟨ys, HY.out.tail.1, by rw [← HB.out]; simp [bare], by omega, by rw [HY.out.tail.2, ← HO.out]; rfl⟩
        case measure => simp [sliceLen]
      · have hy1 : ((y.toNat : Int) == 0) = false := by
          have : y.toNat ≠ 0 := fun h => hy0 (UInt8.toNat_inj.1 h)
          simp [this]
        go_wp2_with fail
        refine (hasTopBit_c y _).mono ?_
        rintro e w' ⟨rfl, rfl⟩
        by_cases ht : 128 ≤ y.toNat
        · simp only [ht, decide_true]
          have HM : Hid (be 4 (ys.length + 2) ++ (0 :: y :: ys) = mpBytes xs) := by unfold mpBytes; rw [← HB.out]; simp [bare, hy0, ht, Hid]
          go_wp2_with fail
          refine (u32_c _ (by omega) (by omega) _ h (by omega)).mono ?_
          rintro e w1 ⟨rfl, g1, hw1, hwr1⟩
          rw [show ((ys.length : Int) + 1 + 1).toNat = ys.length + 2 from by omega] at hw1
          have hap0 : (Value.slice (some ⟨b, off, none⟩) (y :: ys).length cap).ownBlock ≠ some a ∧ ∀ k, g = some k → (Value.slice (some ⟨b, off, none⟩) (y :: ys).length cap).ownBlock ≠ some k := by rw [HO.out]; exact hap
          have hap1 := apart_next hap0 hwr1 HY.out.blockLt
          have HY1 : Hid (BSl w1 _ (y :: ys)) := HY.out.wrote hwr1 hap0
          go_wp2_with fail
          refine (byte_c _ _ hw1 (by simp [be_length]; omega)).mono ?_
          rintro e w2 ⟨rfl, g2, hw2, hwr2⟩
          have HY2 : Hid (BSl w2 _ (y :: ys)) := HY1.out.wrote hwr2 hap1
          go_wp2_with fail
          refine (raw_c _ (y :: ys) _ HY2.out hw2 (by simp [be_length]; omega)).mono ?_
          rintro e w3 ⟨rfl, g3, hw3, hwr3⟩
          go_wp2
          go_end0
          refine ⟨rfl, g3, ?_, (hwr1.trans hwr2).trans hwr3⟩
          rw [List.append_assoc, List.append_assoc] at hw3
          rw [← HM.out]
          exact hw3
        · simp only [ht, decide_false]
          have HM : Hid (be 4 (ys.length + 1) ++ (y :: ys) = mpBytes xs) := by unfold mpBytes; rw [← HB.out]; simp [bare, hy0, ht, Hid]
          go_wp2_with fail
          refine (u32_c _ (by omega) (by omega) _ h (by omega)).mono ?_
          rintro e w1 ⟨rfl, g1, hw1, hwr1⟩
          rw [show ((ys.length : Int) + 1).toNat = ys.length + 1 from by omega] at hw1
          have HY1 : Hid (BSl w1 _ (y :: ys)) := HY.out.wrote hwr1 (by rw [HO.out]; exact hap)
          go_wp2_with fail
          refine (raw_c _ (y :: ys) _ HY1.out hw1 (by simp [be_length]; omega)).mono ?_
          rintro e w3 ⟨rfl, g3, hw3, hwr3⟩
          go_wp2
          go_end0
          refine ⟨rfl, g3, ?_, hwr1.trans hwr3⟩
          rw [List.append_assoc] at hw3
          rw [← HM.out]
          exact hw3
set_option maxHeartbeats 400000 in
set_option maxRecDepth 100000 in
theorem clone_c (v : Value) (xs : List UInt8) (w : World) (hv : BSl w v xs) (hl : xs.length ≤ 140737488355328) :
    Calls Tryd.prog 74 #[v] w fun e w' => ∃ v', e = .returned v' ∧ w'.ownsRow w.heap.size 5 1 v' xs.length (bcells xs) ∧ Below w.heap.size w w' := by
  obtain ⟨i0, hi, hz0, hz1, hz2⟩ := info_parts Tryd.infoU8
  have q := eqlNil
  have hsrc := (hv.alloc (.cells #[] 5)).src
  obtain ⟨ao, cap, rfl, h1, h2, h3, _⟩ := hv
  cases ao with
  | none =>
    obtain ⟨rfl, rfl⟩ := h3 rfl
    go_enter Tryd.func74, Tryd.ntmps74
    go_wp2
    go_ret
    exact ⟨_, rfl, World.ownsRow_nil _ _ _ _, Below.refl _ _⟩
  | some ad =>
    clear h3
    go_enter Tryd.func74, Tryd.ntmps74
    go_wp2_with (at_builtin; refine wpList_append_src _ rfl (.tmp 5) (.tmp 6) 22 22 rfl w.heap.size 5 i0 _ 1 Tryd.underlying22 hi hz0 hz1 hz2 rfl _ _ _ rfl (World.ownsRow_made w #[] 0 (Nat.le_refl _) (Nat.zero_le _) rfl) _ xs.length (bcells xs) rfl hsrc (by unfold maxLen; omega) (by omega) (by simp) (w.heap.size + 1) (by simp) ?_)
    intro v' w1 hown hgrow hnil hat
    go_wp2
    go_ret
    exact ⟨v', rfl, by simpa using hown, ((Below.refl _ w).alloc (Nat.le_refl _) _).grown hgrow (by simp) (by intro k hk; simp [Value.ownBlock] at hk; omega)⟩
set_option maxHeartbeats 400000 in
theorem done_c (w : World) {base a : Nat} {g : Option Nat} {bs : List UInt8} (h : WS w base a g bs) (hl : bs.length ≤ 140737488355328) :
    Calls Tryd.prog 43 #[.pointer (some ⟨a, 0, none⟩)] w fun e w' => ∃ v', e = .returned v' ∧ w'.ownsRow w.heap.size 5 1 v' bs.length (bcells bs) ∧ Below w.heap.size w w' := by
  obtain ⟨u, ha, hown, rfl, hne, hba⟩ := h
  have hc := cell_of_one ha
  go_enter Tryd.func43, Tryd.ntmps43
  go_wp2_with fail
  refine (clone_c _ bs _ (BSl.ofRow hown) hl).mono ?_
  rintro e w' ⟨v', rfl, h1, h2⟩
  obtain ⟨ao, cp, rfl⟩ := ownsRow_shape h1
  go_wp2
  go_ret
  exact ⟨_, rfl, h1, h2⟩
/-- What a conversion of a string to bytes gives, and the world behind it. -/
def bytesV (w : World) (s : ByteArray) : Value := .slice (some ⟨w.heap.size, 0, none⟩) s.size (grownCap w s.size 0 5)
def bytesW (w : World) (s : ByteArray) : World :=
  w.drew.alloc (.cells (bytesRow s (grownCap w s.size 0 5)) 5 ((bytesRow s (grownCap w s.size 0 5)).size, (bytesRow s (grownCap w s.size 0 5)).size + 1))
theorem run_bytes (s : ByteArray) (w : World) : (convert 9 22 (.string s)).run Tryd.prog w = .ok (bytesV w s) (bytesW w s) :=
  run_bytes_of_string w _ _ _ s Tryd.underlying9 Tryd.underlying22 Tryd.underlying5
theorem bytesW_below (w : World) (s : ByteArray) : Below w.heap.size w (bytesW w s) := (Below.refl _ w).drew.alloc (Nat.le_refl _) _
theorem bytes_bsl (w : World) (s : ByteArray) (hs : s.size ≤ 140737488355328) : BSl (bytesW w s) (bytesV w s) s.data.toList := by
  have hge := grownCap_ge w s.size 0 5
  have hle := grownCap_le_maxLen w s.size 0 5 (by unfold maxLen; omega)
  have hsz : s.data.toList.length = s.size := by rw [Array.length_toList]; rfl
  refine ⟨_, _, by rw [hsz]; rfl, by rw [hsz]; exact hge, hle, (fun e => by cases e), fun ad e _ => ⟨w.heap.size, 0, by cases e; rfl, fun j u hu => ?_⟩⟩
  have hb : (bytesW w s).heap[w.heap.size]? = _ := heap_alloc_new w.drew _
  rw [Nat.zero_add, cell_of_row _ _ _ _ _ _ hb]
  have hj : j < s.data.size := by have := (List.getElem?_eq_some_iff.1 hu).1; rw [bcells_length, Array.length_toList] at this; exact this
  rw [bytesRow_at _ _ _ hj]
  simp only [bcells, List.getElem?_map, Array.getElem?_toList, Array.getElem?_eq_getElem hj, Option.map_some] at hu
  exact hu
set_option maxHeartbeats 400000 in
theorem head_c (s : ByteArray) (n : Nat) (hn : n ≤ 1000000) (w : World) :
    Calls Tryd.prog 39 #[.string s, .int .i64 n] w fun e w' => e = .returned (.string (s.extract 0 n)) ∧ w' = w := by
  by_cases h : n < s.size
  · go_enter Tryd.func39, Tryd.ntmps39
    go_wp2
    go_ret
    exact ⟨rfl, rfl⟩
  · go_enter Tryd.func39, Tryd.ntmps39
    go_wp2
    go_ret
    have he : s.extract 0 n = s := by
      apply ByteArray.ext
      simp [ByteArray.data_extract]
      exact .inr (Nat.le_of_not_lt h)
    exact ⟨by rw [he]; rfl, rfl⟩
/-- A slice that the call lays for its literal elements. -/
theorem bsl_lit (w : World) (xs : List UInt8) (hl : xs.length ≤ 1000) : BSl (w.alloc (.cells (bcells xs).toArray 5)) (.slice (some ⟨w.heap.size, 0, none⟩) xs.length xs.length) xs := by
  refine ⟨_, _, rfl, Nat.le_refl _, by unfold maxLen; omega, (fun e => by cases e), fun ad e _ => ⟨w.heap.size, 0, by cases e; rfl, fun j u hu => ?_⟩⟩
  rw [Nat.zero_add, cell_of_row _ _ _ _ _ _ (heap_alloc_new w _)]
  simpa using hu
theorem WS.alloc {w : World} {base a : Nat} {g : Option Nat} {bs : List UInt8} (h : WS w base a g bs) (o : Obj) : WS (w.alloc o) base a g bs := h.keep (S := fun _ => False) ((Keeps.refl _ _).alloc o) (fun h => h) (fun _ _ h => h)
theorem wrote_alloc {a : Nat} {g g' : Option Nat} {w w' : World} {o : Obj} (h : Wrote a g g' (w.alloc o) w') : Wrote a g g' w w' :=
  ⟨(((Keeps.refl _ w).alloc o).trans h.keeps), h.row.elim .inl fun ⟨k, e, hk⟩ => .inr ⟨k, e, by simp at hk; omega⟩⟩
/-- What a Writer writes, the rest below base stays. -/
theorem Wrote.below {a base : Nat} {g g' : Option Nat} {w w' : World} {bs : List UInt8} (h : Wrote a g g' w w') (hs : WS w base a g bs) : Below base w w' :=
  h.keeps.below (Nat.le_trans hs.base (Nat.le_of_lt hs.lt)) fun k hk => hk.elim (fun e => e ▸ hs.base) fun e => (hs.rowLt k e).1
end
section
open Go Go.RowKit

theorem be4_cells (n : Nat) (h : n < 4294967296) : (#[.int .u8 ((n : Int) / 16777216), .int .u8 ((n : Int) / 65536 % 256), .int .u8 ((n : Int) / 256 % 256), .int .u8 ((n : Int) % 256)] : Array Value) = (bcells (be 4 n)).toArray := by
  simp [be, bcells]
  omega
set_option maxHeartbeats 400000 in
set_option maxRecDepth 100000 in
theorem ru32_c (n : Int) (h0 : 0 ≤ n) (h1 : n < 4294967296) (v : Value) (xs : List UInt8) (w : World) (hv : BSl w v xs) (hl : xs.length + 4 ≤ 140737488355328) :
    Calls Tryd.prog 71 #[v, .int .u32 n] w fun e w' => Fresh w (xs ++ be 4 n.toNat) e w' := by
  obtain ⟨n, rfl⟩ := Int.eq_ofNat_of_zero_le h0
  rw [Int.toNat_natCast]
  obtain ⟨i0, hi, hz0, hz1, hz2⟩ := info_parts Tryd.infoU8
  have hsrc := (hv.alloc (.cells #[] 5)).src
  go_enter Tryd.func71, Tryd.ntmps71
  go_wp2_with (at_builtin; refine wpList_append_src _ rfl (.tmp 5) (.tmp 6) 22 22 rfl w.heap.size 5 i0 _ 1 Tryd.underlying22 hi hz0 hz1 hz2 rfl _ _ _ rfl (World.ownsRow_made w #[] 0 (Nat.le_refl _) (Nat.zero_le _) rfl) _ xs.length (bcells xs) rfl hsrc (by unfold maxLen; omega) (by omega) (by simp) (w.heap.size + 1) (by simp) ?_)
  intro v1 w1 hown1 hgrow1 hnil1 hat1
  have hb1 : Below w.heap.size w w1 := ((Below.refl _ w).alloc (Nat.le_refl _) _).grown hgrow1 (by simp) (by intro k hk; simp [Value.ownBlock] at hk; omega)
  have hown2 : w1.ownsRow w.heap.size 5 1 v1 xs.length (bcells xs) := by simpa using hown1
  clear hown1 hgrow1 hnil1 hat1 hsrc
  have hs1 := hb1.size
  go_wp2_with (at_builtin; refine wpList_append_src _ rfl (.tmp 7) (.tmp 19) 22 22 rfl w.heap.size 5 i0 _ 1 Tryd.underlying22 hi hz0 hz1 hz2 rfl _ _ _ rfl (hown2.alloc _) _ 4 (bcells (be 4 n)) rfl ?qs (by unfold maxLen; omega) (by omega) (by simp; omega) (w1.heap.size + 1) (by simp) ?_)
  case qs => exact srcBlock (xs := be 4 n) (be4_cells n (by omega)) (heap_alloc_new w1 _)
  intro v2 w2 hown3 hgrow3 hnil3 hat3
  have hb2 : Below w.heap.size w w2 := (hb1.alloc hs1 _).grown hgrow3 (by simp; omega) (fun k hk => (hown2.lt k hk).1)
  clear hgrow3 hnil3 hat3
  go_wp2
  go_ret
  exact ⟨v2, rfl, by rw [List.length_append, be_length, bcells_append]; exact hown3, hb2⟩
set_option maxHeartbeats 400000 in
set_option maxRecDepth 100000 in
theorem rtext_c (s : ByteArray) (hs : s.size < 4294967296) (v : Value) (xs : List UInt8) (w : World) (hv : BSl w v xs) (hl : xs.length + s.size + 8 ≤ 140737488355328) :
    Calls Tryd.prog 37 #[v, .string s] w fun e w' => Fresh w (xs ++ textBytes s.data.toList) e w' := by
  obtain ⟨i0, hi, hz0, hz1, hz2⟩ := info_parts Tryd.infoU8
  go_enter Tryd.func37, Tryd.ntmps37
  go_wp2_with fail
  refine (ru32_c _ (by omega) (by omega) v xs _ hv (by omega)).mono ?_
  rintro e w1 ⟨v1, rfl, ho1, hb1⟩
  rw [Int.toNat_natCast] at ho1
  have hbl : (xs ++ be 4 s.size).length = xs.length + 4 := by simp [be_length]
  rw [hbl] at ho1
  clear hbl
  have hs1 := hb1.size
  have hsrc := Src.ofString (P := Tryd.prog) w1 Tryd.underlying9 s
  go_wp2_with (at_builtin; refine wpList_append_src _ rfl (.tmp 9) (.tmp 10) 22 9 rfl w.heap.size 5 i0 _ 1 Tryd.underlying22 hi hz0 hz1 hz2 rfl _ _ _ rfl ho1 _ s.size (byteCells s) rfl hsrc (by unfold maxLen; omega) (by omega) (by omega) w1.heap.size rfl ?_)
  intro v2 w2 ho2 hgrow2 hnil2 hat2
  have hb2 : Below w.heap.size w w2 := hb1.grown hgrow2 hs1 (fun k hk => (ho1.lt k hk).1)
  clear hgrow2 hnil2 hat2
  go_wp2
  go_ret
  refine ⟨v2, rfl, ?_, hb2⟩
  have e1 : (xs ++ textBytes s.data.toList).length = xs.length + 4 + s.size := by
    have : s.data.toList.length = s.size := by rw [Array.length_toList]; rfl
    simp only [textBytes, List.length_append, be_length, this]; omega
  have e2 : bcells (xs ++ textBytes s.data.toList) = bcells (xs ++ be 4 s.size) ++ byteCells s := by
    rw [byteCells_eq, ← bcells_append, List.append_assoc]; rfl
  rw [e1, e2]
  exact ho2
theorem srcNone (a : Addr) (c : Nat) (w : World) : Src Tryd.prog 1 22 (.slice (some a) 0 c) 0 [] w :=
  Src.ofSlice w Tryd.underlying22 a 0 c [] rfl (fun j u h => by simp at h) (fun u h => by cases h)
theorem BSl.srcDrop {w : World} {b off n cap c : Nat} {xs : List UInt8} (h : BSl w (.slice (some ⟨b, off, none⟩) n cap) xs) (k : Nat) (hk : k < xs.length) :
    Src Tryd.prog 1 22 (.slice (some ⟨b, off + k, none⟩) (xs.length - k) c) (xs.length - k) (bcells (xs.drop k)) w := by
  obtain ⟨ao, cap, e, h1, h2, h3, hc⟩ := h
  cases e
  obtain ⟨b', off', e, hcell⟩ := hc _ rfl (by rintro rfl; simp at hk)
  cases e
  refine Src.ofSlice w Tryd.underlying22 _ _ _ _ (by simp [bcells_length]) (fun j u hu => ?_) bcells_one
  rw [add_lit', Nat.add_assoc]
  refine hcell _ u ?_
  rw [← hu]
  simp [bcells]
set_option maxHeartbeats 400000 in
set_option maxRecDepth 100000 in
theorem rbare_c (v : Value) (xs : List UInt8) (w : World) (hv : BSl w v xs) (hl : xs.length + 1 ≤ 140737488355328) :
    Calls Tryd.prog 34 #[v] w fun e w' => Fresh w (bare xs) e w' := by
  obtain ⟨i0, hi, hz0, hz1, hz2⟩ := info_parts Tryd.infoU8
  have HV : Hid (BSl w v xs) := hv
  cases xs with
  | nil =>
    obtain ⟨ao, cap, rfl⟩ := hv.nil
    clear hv
    go_enter Tryd.func34, Tryd.ntmps34
    go_wp2
    refine wp_loop_rounds 1 ?_
    rw [rounds_succ]
    have hsrc := (HV.out.alloc (.cells #[] 5)).src
    go_wp2_with (at_builtin; refine wpList_append_src _ rfl (.tmp 17) (.tmp 20) 22 22 rfl w.heap.size 5 i0 _ 1 Tryd.underlying22 hi hz0 hz1 hz2 rfl _ _ _ rfl (World.ownsRow_made w #[] 0 (Nat.le_refl _) (Nat.zero_le _) rfl) _ 0 (bcells ([])) rfl ?qs ?q63 ?qb (by simp) (w.heap.size + 1) (by simp) ?_)
    case qs => exact hsrc
    case q63 => simp [maxLen]
    case qb => simp
    intro v1 w1 hown1 hgrow1 hnil1 hat1
    have hb1 : Below w.heap.size w w1 := ((Below.refl _ w).alloc (Nat.le_refl _) _).grown hgrow1 (by simp) (by intro k hk; simp [Value.ownBlock] at hk; omega)
    clear hgrow1 hnil1 hat1
    go_wp2
    go_ret
    exact ⟨v1, rfl, by simpa [bare] using hown1, hb1⟩
  | cons x xs =>
    obtain ⟨b, off, cap, rfl, hc1, hc2, hob⟩ := hv.cons
    clear hv hob
    unfold maxLen at hc2
    generalize hys : x :: xs = ys at *
    have hpos : 0 < ys.length := by rw [← hys]; simp
    clear hys
    go_enter Tryd.func34, Tryd.ntmps34
    go_wp2
    go_loop [3] (fun i => ∃ k : Nat, k ≤ ys.length ∧ i = .int .i64 k ∧ bare (ys.drop k) = bare ys) (fun i => ys.length - (intOf i).toNat)
    case atStart => exact ⟨0, Nat.zero_le _, rfl, rfl⟩
    case round =>
      obtain ⟨k, hk, rfl, hbk⟩ := hrel
      have HBK : Hid (bare (ys.drop k) = bare ys) := hbk
      clear hbk
      by_cases hlt : k < ys.length
      · have hc := HV.out.cellAt k hlt
        by_cases hz : ys[k] = 0
        · have hzz : ((ys[k].toNat : Int) == 0) = true := by rw [hz]; rfl
          have HN : Hid (bare (ys.drop (k + 1)) = bare ys) := by
            rw [← HBK.out, List.drop_eq_getElem_cons hlt, hz]; simp [bare, Hid]
          go_wp2
          go_round
          case rel => exact ⟨k + 1, by omega, by go_num, HN.out⟩
          case measure => simp [intOf]; omega
        · have hzz : ((ys[k].toNat : Int) == 0) = false := by
            have : ys[k].toNat ≠ 0 := fun h => hz (UInt8.toNat_inj.1 h)
            simp [this]
          have HN : Hid (bare ys = ys.drop k) := by
            show bare ys = ys.drop k
            rw [← HBK.out, List.drop_eq_getElem_cons hlt, bare_fix _ _ hz]
          go_wp2_with (at_builtin; refine wpList_append_src _ rfl (.tmp 17) (.tmp 20) 22 22 rfl w.heap.size 5 i0 _ 1 Tryd.underlying22 hi hz0 hz1 hz2 rfl _ _ _ rfl (World.ownsRow_made w #[] 0 (Nat.le_refl _) (Nat.zero_le _) rfl) _ (ys.length - k) (bcells (ys.drop k)) rfl ?qs ?q63 ?qb (by simp) (w.heap.size + 1) (by simp) ?_)
          case qs => exact (HV.out.alloc _).srcDrop k hlt
          case q63 => unfold maxLen; omega
          case qb => omega
          intro v1 w1 hown1 hgrow1 hnil1 hat1
          have hb1 : Below w.heap.size w w1 := ((Below.refl _ w).alloc (Nat.le_refl _) _).grown hgrow1 (by simp) (by intro k hk; simp [Value.ownBlock] at hk; omega)
          clear hgrow1 hnil1 hat1
          go_wp2
          go_ret
          refine ⟨v1, rfl, ?_, hb1⟩
          rw [HN.out, List.length_drop]
          simpa using hown1
      · have HN : Hid (bare ys = []) := by
          show bare ys = []
          rw [← HBK.out, List.drop_of_length_le (by omega)]; rfl
        have hke : k = ys.length := by omega
        subst hke
        by_cases hcap : cap = ys.length
        all_goals
          go_wp2_with (at_builtin; refine wpList_append_src _ rfl (.tmp 17) (.tmp 20) 22 22 rfl w.heap.size 5 i0 _ 1 Tryd.underlying22 hi hz0 hz1 hz2 rfl _ _ _ rfl (World.ownsRow_made w #[] 0 (Nat.le_refl _) (Nat.zero_le _) rfl) _ 0 [] rfl (srcNone _ _ _) (by simp [maxLen]) (by simp) (by simp) (w.heap.size + 1) (by simp) ?_)
          intro v1 w1 hown1 hgrow1 hnil1 hat1
          have hb1 : Below w.heap.size w w1 := ((Below.refl _ w).alloc (Nat.le_refl _) _).grown hgrow1 (by simp) (by intro k hk; simp [Value.ownBlock] at hk; omega)
          clear hgrow1 hnil1 hat1
          go_wp2
          go_ret
          refine ⟨v1, rfl, ?_, hb1⟩
          rw [HN.out]
          simpa [bcells] using hown1
theorem ba_append (a b : List UInt8) : ((⟨a.toArray⟩ : ByteArray) ++ ⟨b.toArray⟩) = ⟨(a ++ b).toArray⟩ := by
  apply ByteArray.ext
  simp
theorem ba_nil (s : ByteArray) : ((⟨#[]⟩ : ByteArray) ++ s) = s := by
  apply ByteArray.ext
  simp
theorem ba_self (s : ByteArray) : s = ⟨s.data.toList.toArray⟩ := by
  apply ByteArray.ext
  simp
theorem mp_text (ns : List UInt8) : mpBytes ns = textBytes (match bare ns with | [] => [] | x :: r => if 128 ≤ x.toNat then 0 :: x :: r else x :: r) := by
  unfold mpBytes textBytes
  cases bare ns with
  | nil => rfl
  | cons x r => by_cases h : 128 ≤ x.toNat <;> simp [h]
set_option maxHeartbeats 800000 in
set_option maxRecDepth 100000 in
theorem rmpint_c (u : Value) (ns : List UInt8) (hn : ns.length + 1 < 4294967296) (v : Value) (xs : List UInt8) (w : World) (hv : BSl w v xs) (hu : BSl w u ns) (hl : xs.length + ns.length + 16 ≤ 140737488355328) :
    Calls Tryd.prog 89 #[v, u] w fun e w' => Fresh w (xs ++ mpBytes ns) e w' := by
  obtain ⟨i0, hi, hz0, hz1, hz2⟩ := info_parts Tryd.infoU8
  have hble := bare_le ns
  have HM := mp_text ns
  go_enter Tryd.func89, Tryd.ntmps89
  go_wp2_with fail
  refine (rbare_c u ns _ hu (by omega)).mono ?_
  rintro e w1 ⟨v1, rfl, ho1, hb1⟩
  have hv1 := hv.fresh hb1
  have H1 : Hid (BSl w1 v1 (bare ns)) := BSl.ofRow ho1
  generalize hbs : bare ns = bs at *
  have HBS : Hid (bare ns = bs) := hbs
  clear hbs
  have HM2 : Hid (_ = _) := HM
  clear HM hu hv
  cases bs with
  | nil =>
    obtain ⟨ao, cap, rfl⟩ := BSl.nil H1.out
    have hcv := run_string H1.out
    go_wp2_with fail
    refine (rtext_c ⟨[].toArray⟩ (by rw [size_list]; simp) v xs _ hv1 (by rw [size_list]; simp; omega)).mono ?_
    rintro e w2 hf
    obtain ⟨v2, rfl, ho2, hb2⟩ := Fresh.next hb1 hf
    go_wp2
    go_ret
    exact ⟨v2, rfl, by rw [HM2.out]; exact ho2, hb2⟩
  | cons x r =>
    obtain ⟨b, off, cap, rfl, hc1, hc2, hob⟩ := BSl.cons H1.out
    have h0 := BSl.head H1.out
    simp only [List.length_cons] at hble hc1
    unfold maxLen at hc2
    have hs1 := hb1.size
    clear hob
    by_cases ht : 128 ≤ x.toNat
    · have ht1 : (128 : Int) ≤ (x.toNat : Int) := by omega
      have hsrc := (BSl.alloc H1.out (.cells #[.int .u8 0] 5)).src
      have hlit : (w1.alloc (.cells #[.int .u8 0] 5)).ownsRow w1.heap.size 5 1 (.slice (some ⟨w1.heap.size, 0, none⟩) 1 1) 1 [.int .u8 0] := World.ownsRow_lit w1 #[.int .u8 0] 1 (Nat.le_refl _) (by simp [maxLen]) rfl
      go_wp2_with (at_builtin; refine wpList_append_src _ rfl (.tmp 17) (.tmp 18) 22 22 rfl w1.heap.size 5 i0 _ 1 Tryd.underlying22 hi hz0 hz1 hz2 rfl _ _ _ rfl hlit _ (r.length + 1) (bcells (x :: r)) rfl hsrc (by unfold maxLen; omega) (by omega) (by simp) (w1.heap.size + 1) (by simp) ?_)
      intro v2 w2 ho2 hgrow2 hnil2 hat2
      have hb2 : Below w1.heap.size w1 w2 := ((Below.refl _ w1).alloc (Nat.le_refl _) _).grown hgrow2 (by simp) (by intro k hk; simp [Value.ownBlock] at hk; omega)
      have hv2 := hv1.fresh hb2
      have hb3 := hb1.trans (hb2.mono hs1)
      have ho3 : w2.ownsRow w1.heap.size 5 1 v2 (1 + (r.length + 1)) (bcells (0 :: x :: r)) := ho2
      have hcv := run_string (BSl.ofRow ho3)
      obtain ⟨ao, cp, rfl⟩ := ownsRow_shape ho3
      clear hgrow2 hnil2 hat2 ho2 ho3 hlit hsrc
      go_wp2_with fail
      refine (rtext_c ⟨(0 :: x :: r).toArray⟩ (by rw [size_list]; simp; omega) v xs _ hv2 (by rw [size_list]; simp; omega)).mono ?_
      rintro e w3 hf
      obtain ⟨v3, rfl, ho4, hb4⟩ := Fresh.next hb3 hf
      go_wp2
      go_ret
      exact ⟨v3, rfl, by rw [HM2.out]; simpa [ht] using ho4, hb4⟩
    · have ht1 : ¬ (128 : Int) ≤ (x.toNat : Int) := by omega
      have hcv : (convert 22 9 (.slice (some ⟨b, off, none⟩) (r.length + 1) cap)).run Tryd.prog w1 = .ok (.string ⟨(x :: r).toArray⟩) w1 := run_string H1.out
      go_wp2_with fail
      refine (rtext_c ⟨(x :: r).toArray⟩ (by rw [size_list]; simp; omega) v xs _ hv1 (by rw [size_list]; simp; omega)).mono ?_
      rintro e w3 hf
      obtain ⟨v3, rfl, ho4, hb4⟩ := Fresh.next hb1 hf
      go_wp2
      go_ret
      exact ⟨v3, rfl, by rw [HM2.out]; simpa [ht] using ho4, hb4⟩
end
end Go.Proofs.YtookapglookphaaDoor
