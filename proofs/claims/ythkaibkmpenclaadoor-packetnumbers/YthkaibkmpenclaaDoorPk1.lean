/- Packets, plainly: what is framed, and what is read of bytes. -/
import Derived.Test.YthkaibkmpenclaaDoorAeP
import Derived.Test.YthkaibkmpenclaaDoorAeB
import Derived.Test.YthkaibkmpenclaaDoorGoto
import Derived.Test.YthkaibkmpenclaaDoorFreB
import Derived.Lib.AppendZeros
import Derived.Laws.Cover3
namespace Go.Proofs.YthkaibkmpenclaaDoor
open Go Go.RowKit

/-- k bytes of n, the highest first. -/
def be : Nat → Nat → List UInt8
  | 0, _ => []
  | k + 1, n => UInt8.ofNat (n / 256 ^ k % 256) :: be k n
theorem be_length (k n : Nat) : (be k n).length = k := by
  induction k with
  | zero => rfl
  | succ k ih => simp [be, ih]
/-- The number whose bytes, the highest first, are these. -/
def val (xs : List UInt8) : Nat := xs.foldl (fun n b => n * 256 + b.toNat) 0
theorem val_be4 (n : Nat) (h : n ≤ 4294967295) : val (be 4 n) = n := by
  simp only [val, be, List.foldl_cons, List.foldl_nil, UInt8.toNat_ofNat', Nat.reducePow]
  omega
/-- A packet's nonce. -/
def nonceL (c : Nat) : List UInt8 := List.replicate 4 0 ++ be 8 c
theorem nonceL_length (c : Nat) : (nonceL c).length = 12 := by simp [nonceL, be_length]
/-- No key yet, or one of the right size. -/
def KeyOk (key : List UInt8) : Prop := key = [] ∨ key.length = 32
theorem KeyOk.sizes {key : List UInt8} (h : KeyOk key) (hne : key ≠ []) (c : Nat) : okSizes key (nonceL c) = true := ok_of (h.resolve_left hne) (nonceL_length c)
/-- How many bytes of the head are counted. -/
def hdN (key : List UInt8) : Nat := if key = [] then 4 else 0
/-- How many bytes stand behind. -/
def tagN (key : List UInt8) : Nat := if key = [] then 0 else 16
def padP (key : List UInt8) (n : Nat) : Nat := 4 + (8 - (hdN key + 1 + n + 4) % 8) % 8
theorem padP_range (key : List UInt8) (n : Nat) : 4 ≤ padP key n ∧ padP key n ≤ 11 := by unfold padP; omega
theorem padP_mod (key : List UInt8) (n : Nat) : (hdN key + (1 + n + padP key n)) % 8 = 0 := by unfold padP; omega
theorem padP_least (key : List UInt8) (n p : Nat) (h4 : 4 ≤ p) (h : p < padP key n) : (hdN key + (1 + n + p)) % 8 ≠ 0 := by unfold padP at h; omega
def bodyP (key p : List UInt8) : List UInt8 := UInt8.ofNat (padP key p.length) :: (p ++ List.replicate (padP key p.length) 0)
theorem bodyP_length (key p : List UInt8) : (bodyP key p).length = 1 + p.length + padP key p.length := by simp [bodyP]; omega
def headP (key p : List UInt8) : List UInt8 := be 4 (bodyP key p).length
theorem headP_length (key p : List UInt8) : (headP key p).length = 4 := be_length _ _
/-- What stands behind a packet's head. -/
def restP (key : List UInt8) (c : Nat) (p : List UInt8) : List UInt8 := if key = [] then bodyP key p else sealT key (nonceL c) (headP key p) (bodyP key p)
theorem restP_length {key : List UInt8} (hk : KeyOk key) (c : Nat) (p : List UInt8) : (restP key c p).length = 1 + p.length + padP key p.length + tagN key := by
  by_cases h : key = []
  · rw [restP, if_pos h, bodyP_length, tagN, if_pos h]; omega
  · rw [restP, if_neg h, sealT_length _ _ (hk.sizes h c), bodyP_length, tagN, if_neg h]
def packetL (key : List UInt8) (c : Nat) (p : List UInt8) : List UInt8 := headP key p ++ restP key c p
theorem packetL_length {key : List UInt8} (hk : KeyOk key) (c : Nat) (p : List UInt8) : (packetL key c p).length = 5 + p.length + padP key p.length + tagN key := by
  rw [packetL, List.length_append, headP_length, restP_length hk]; omega

/-- What is read of bytes. -/
inductive Nx where
  | short
  | bad (why : Nat)
  | told (p rest : List UInt8)
def lenOf (xs : List UInt8) : Nat := val (xs.take 4)
def lenE (key : List UInt8) (L : Nat) : Nat := if 35000 < L then 3 else if L < 6 ∨ (hdN key + L) % 8 ≠ 0 then 12 else 0
def bodyAt (key xs : List UInt8) : List UInt8 := (xs.drop 4).take (lenOf xs + tagN key)
def restAt (key xs : List UInt8) : List UInt8 := xs.drop (4 + lenOf xs + tagN key)
def openedE (key : List UInt8) (c : Nat) (xs : List UInt8) : Nat := if key = [] then 0 else openE key (nonceL c) (xs.take 4) (bodyAt key xs)
def openedT (key : List UInt8) (c : Nat) (xs : List UInt8) : List UInt8 := if key = [] then bodyAt key xs else openT key (nonceL c) (xs.take 4) (bodyAt key xs)
def payE (b : List UInt8) : Nat := if (b.getD 0 0).toNat < 4 ∨ b.length ≤ 1 + (b.getD 0 0).toNat then 12 else 0
def payL (b : List UInt8) : List UInt8 := (b.drop 1).take (b.length - (b.getD 0 0).toNat - 1)
def nextR (key : List UInt8) (c : Nat) (xs : List UInt8) : Nx :=
  if xs.length < 4 then .short
  else if lenE key (lenOf xs) ≠ 0 then .bad (lenE key (lenOf xs))
  else if xs.length < 4 + lenOf xs + tagN key then .short
  else if openedE key c xs ≠ 0 then .bad (openedE key c xs)
  else if payE (openedT key c xs) ≠ 0 then .bad (payE (openedT key c xs))
  else .told (payL (openedT key c xs)) (restAt key xs)

theorem head_len (key p : List UInt8) (hp : p.length ≤ 30000) (ys : List UInt8) : lenOf (headP key p ++ ys) = 1 + p.length + padP key p.length := by
  have h := padP_range key p.length
  rw [lenOf, List.take_left' (headP_length key p), headP, val_be4 _ (by rw [bodyP_length]; omega), bodyP_length]
theorem lenE_ok (key p : List UInt8) (h1 : 1 ≤ p.length) (hp : p.length ≤ 30000) : lenE key (1 + p.length + padP key p.length) = 0 := by
  have h := padP_range key p.length
  have hm := padP_mod key p.length
  rw [lenE, if_neg (by omega), if_neg (by omega)]
theorem pad_first (key p : List UInt8) : ((bodyP key p).getD 0 0).toNat = padP key p.length := by
  have h := padP_range key p.length
  simp only [bodyP, List.getD_cons_zero, UInt8.toNat_ofNat']
  omega
theorem payE_body (key p : List UInt8) (h1 : 1 ≤ p.length) : payE (bodyP key p) = 0 := by
  have h := padP_range key p.length
  rw [payE, pad_first, bodyP_length, if_neg (by omega)]
theorem payL_body (key p : List UInt8) : payL (bodyP key p) = p := by
  rw [payL, pad_first, bodyP_length, show 1 + p.length + padP key p.length - padP key p.length - 1 = p.length by omega]
  simp [bodyP]
theorem bodyAt_packet {key : List UInt8} (hk : KeyOk key) (c : Nat) (p : List UInt8) (hp : p.length ≤ 30000) (ys : List UInt8) : bodyAt key (packetL key c p ++ ys) = restP key c p := by
  rw [bodyAt, packetL, List.append_assoc, head_len key p hp, List.drop_left' (headP_length key p), List.take_left' (restP_length hk c p)]
theorem restAt_packet {key : List UInt8} (hk : KeyOk key) (c : Nat) (p : List UInt8) (hp : p.length ≤ 30000) (ys : List UInt8) : restAt key (packetL key c p ++ ys) = ys := by
  have hl : lenOf (packetL key c p ++ ys) = 1 + p.length + padP key p.length := by rw [packetL, List.append_assoc, head_len key p hp]
  rw [restAt, hl, List.drop_left' (by rw [packetL_length hk]; omega)]
theorem take4_packet (key : List UInt8) (c : Nat) (p ys : List UInt8) : (packetL key c p ++ ys).take 4 = headP key p := by
  rw [packetL, List.append_assoc, List.take_left' (headP_length key p)]
/-- A packet that is there as a whole is told. -/
theorem next_packet {key : List UInt8} (hk : KeyOk key) (c : Nat) (p : List UInt8) (h1 : 1 ≤ p.length) (hp : p.length ≤ 30000) (ys : List UInt8) : nextR key c (packetL key c p ++ ys) = .told p ys := by
  have hl := packetL_length hk c p
  have hlen : lenOf (packetL key c p ++ ys) = 1 + p.length + padP key p.length := by rw [packetL, List.append_assoc, head_len key p hp]
  have hE : openedE key c (packetL key c p ++ ys) = 0 := by
    rw [openedE]
    by_cases h : key = []
    · rw [if_pos h]
    · rw [if_neg h, take4_packet, bodyAt_packet hk c p hp, restP, if_neg h, open_seal _ _ (hk.sizes h c)]
  have hT : openedT key c (packetL key c p ++ ys) = bodyP key p := by
    rw [openedT]
    by_cases h : key = []
    · rw [if_pos h, bodyAt_packet hk c p hp, restP, if_pos h]
    · rw [if_neg h, take4_packet, bodyAt_packet hk c p hp, restP, if_neg h, open_text _ _ (hk.sizes h c)]
  have hxl : (packetL key c p ++ ys).length = 5 + p.length + padP key p.length + tagN key + ys.length := by rw [List.length_append, hl]
  rw [nextR, if_neg (by omega), hlen, lenE_ok key p h1 hp, if_neg (by simp), if_neg (by omega), hE, if_neg (by simp), hT, payE_body key p h1, if_neg (by simp), payL_body, restAt_packet hk c p hp]
/-- One that is not is waited for. -/
theorem next_short {key : List UInt8} (hk : KeyOk key) (c : Nat) (p : List UInt8) (h1 : 1 ≤ p.length) (hp : p.length ≤ 30000) (ys : List UInt8) (k : Nat) (h : k < (packetL key c p).length) : nextR key c ((packetL key c p ++ ys).take k) = .short := by
  have hl := packetL_length hk c p
  have hxl : ((packetL key c p ++ ys).take k).length = k := by rw [List.length_take, List.length_append]; omega
  rw [nextR, hxl]
  by_cases h4 : k < 4
  · rw [if_pos h4]
  · have hlen : lenOf ((packetL key c p ++ ys).take k) = 1 + p.length + padP key p.length := by
      rw [lenOf, List.take_take, show min 4 k = 4 by omega, take4_packet, headP, val_be4 _ (by have := padP_range key p.length; rw [bodyP_length]; omega), bodyP_length]
    rw [if_neg h4, hlen, lenE_ok key p h1 hp, if_neg (by simp), if_pos (by omega)]
/-- Both at once. -/
theorem next_take {key : List UInt8} (hk : KeyOk key) (c : Nat) (p : List UInt8) (h1 : 1 ≤ p.length) (hp : p.length ≤ 30000) (ys : List UInt8) (k : Nat) (h : (packetL key c p).length ≤ k) : nextR key c ((packetL key c p ++ ys).take k) = .told p (ys.take (k - (packetL key c p).length)) := by
  rw [List.take_append, List.take_of_length_le h, next_packet hk c p h1 hp]
/-- A sealed one whose sum is turned is refused. -/
theorem next_turned {key : List UInt8} (hk : key.length = 32) (c : Nat) (p : List UInt8) (h1 : 1 ≤ p.length) (hp : p.length ≤ 30000) (s ys : List UInt8) (hl : s.length = (bodyP key p).length + 16) (ht : s.take (bodyP key p).length = (restP key c p).take (bodyP key p).length) (hd : s.drop (bodyP key p).length ≠ (restP key c p).drop (bodyP key p).length) : nextR key c (headP key p ++ s ++ ys) = .bad 14 := by
  have hne : key ≠ [] := by intro e; rw [e] at hk; simp at hk
  have hko : KeyOk key := .inr hk
  have hok := hko.sizes hne c
  have hb := bodyP_length key p
  have hlen : lenOf (headP key p ++ s ++ ys) = 1 + p.length + padP key p.length := by rw [List.append_assoc, head_len key p hp]
  have htag : tagN key = 16 := by rw [tagN, if_neg hne]
  have hxl : (headP key p ++ s ++ ys).length = 4 + s.length + ys.length := by rw [List.length_append, List.length_append, headP_length]
  have hB : bodyAt key (headP key p ++ s ++ ys) = s := by
    rw [bodyAt, hlen, List.append_assoc, List.drop_left' (headP_length key p), List.take_left' (by omega)]
  rw [restP, if_neg hne, seal_take _ _ hok] at ht
  rw [restP, if_neg hne, seal_drop _ _ hok] at hd
  have hE : openedE key c (headP key p ++ s ++ ys) = 14 := by
    rw [openedE, if_neg hne, hB, List.append_assoc, List.take_left' (headP_length key p)]
    exact open_turned _ _ _ hok hl ht hd
  rw [nextR, if_neg (by omega), hlen, lenE_ok key p h1 hp, if_neg (by simp), if_neg (by omega), hE, if_pos (by simp)]

/-- A row of bytes that a call has made for itself, where all that was there before the call stands. -/
structure Own (w0 w : World) (v : Value) (xs : List UInt8) : Prop where
  row : w.ownsRow w0.heap.size 5 1 v xs.length (bcells xs)
  b : Below w0.heap.size w0 w
theorem Own.bsl {w0 w : World} {v : Value} {xs : List UInt8} (h : Own w0 w v xs) : BSl w v xs := BSl.ofRow h.row
theorem Own.fresh {w0 w : World} {v : Value} {xs : List UInt8} (h : Own w0 w v xs) : Fresh w0 xs (.returned v) w := ⟨v, rfl, h.row, h.b⟩
theorem Own.alloc {w0 w : World} {v : Value} {xs : List UInt8} (h : Own w0 w v xs) (o : Obj) : Own w0 (w.alloc o) v xs := ⟨h.row.alloc o, h.b.alloc h.b.size o⟩
theorem Own.drew {w0 w : World} {v : Value} {xs : List UInt8} (h : Own w0 w v xs) : Own w0 w.drew v xs := ⟨h.row.drew, h.b.drew⟩
theorem Own.keep {w0 w w' : World} {v : Value} {xs : List UInt8} (h : Own w0 w v xs) (hb : Below w.heap.size w w') : Own w0 w' v xs :=
  ⟨(Keeps.ofFresh (S := fun _ => False) hb).row h.row (fun _ _ h => h), h.b.trans (hb.mono h.b.size)⟩
theorem Own.shape {w0 w : World} {v : Value} {xs : List UInt8} (h : Own w0 w v xs) : ∃ ao cap, v = .slice ao xs.length cap := ownsRow_shape h.row
theorem wpList_own (w : World) {ops : Array Oper} {rest : List Oper} {o : Oper} {a : Act} {Q : Exit → Act → World → Prop} (hgd : o.guard = none) (s xo : Operand) (tx : TypeId)
    (ho : o.op = .call { callee := .builtin .append, args := #[s, xo], argTypes := #[22, tx] })
    (w0 : World) (v : Value) (xs : List UInt8) (hsv : a.eval s = v) (h : Own w0 w v xs) (x : Value) (news : List UInt8) (hx : a.eval xo = x) (hs : Src Tryd.prog 1 tx x news.length (bcells news) w)
    (hl : xs.length + news.length ≤ 140737488355328)
    (hK : ∀ v' w', Own w0 w' v' (xs ++ news) → w.grownBy w' v.ownBlock → (v'.ownBlock = v.ownBlock ∨ v'.ownBlock = some w.heap.size) → wpList Tryd.prog ops Q rest (a.put o.dst v') w') : wpList Tryd.prog ops Q (o :: rest) a w := by
  obtain ⟨i0, hi, hz0, hz1, hz2⟩ := info_parts Tryd.infoU8
  refine wpList_append_src w hgd s xo 22 tx ho w0.heap.size 5 i0 _ 1 Tryd.underlying22 hi hz0 hz1 hz2 rfl v _ _ hsv h.row x _ _ hx hs (by unfold maxLen; omega) (by omega) h.b.size w.heap.size rfl ?_
  intro v' w' h1 h2 _ h4
  refine hK v' w' ⟨?_, h.b.grown h2 h.b.size (fun k hk => (h.row.lt k hk).1)⟩ h2 h4
  rw [List.length_append, bcells_append]
  exact h1
theorem src_lit {w : World} (bs : List UInt8) : Src Tryd.prog 1 22 (.slice (some ⟨w.heap.size, 0, none⟩) bs.length bs.length) bs.length (bcells bs) (w.alloc (.cells (bcells bs).toArray 5)) :=
  srcBlock rfl (heap_alloc_new w _)
theorem be_cell (n i : Nat) : bcells [UInt8.ofNat (n / 256 ^ i % 256)] = [Value.int .u8 (IntKind.u8.wrap ((n : Int) / 2 ^ (8 * (i : Int)).toNat))] := by
  have h1 : (8 * (i : Int)).toNat = 8 * i := by omega
  have h2 : (2 : Nat) ^ (8 * i) = 256 ^ i := by rw [Nat.pow_mul]
  have h3 : ((n : Int) / 2 ^ (8 * i)) = ((n / 256 ^ i : Nat) : Int) := by rw [← h2]; simp
  rw [h1, h3]
  generalize n / 256 ^ i = x
  have h4 : IntKind.u8.wrap (x : Int) = ((x % 256 : Nat) : Int) := by simp [IntKind.wrap, IntKind.bits, IntKind.signed]
  rw [h4]
  simp [bcells]
theorem srcAtW {W : World} {B : Nat} {x : Int} (hb : W.heap[B]? = some (.cells #[.int .u8 x] 5 (0, 0))) : Src Tryd.prog 1 22 (.slice (some ⟨B, 0, none⟩) 1 1) 1 [.int .u8 x] W :=
  Src.ofSlice _ Tryd.underlying22 ⟨B, 0, none⟩ 1 1 [.int .u8 x] rfl (World.news_of_block (cs := #[.int .u8 x]) (t := 5) (fr := (0, 0)) hb) (by intro u hu; simp at hu; subst hu; rfl)
theorem Own.nothing (w : World) : Own w w (.slice none 0 0) [] := ⟨World.ownsRow_nil _ _ _ _, Below.refl _ _⟩
set_option maxHeartbeats 400000 in
set_option maxRecDepth 100000 in
theorem grow_c (n : Nat) (hn : n ≤ 1000000000) (w : World) :
    Calls Tryd.prog 50 #[.slice none 0 0, .int .i64 n] w fun e w' => ∃ v, e = .returned v ∧ Own w w' v [] := by
  obtain ⟨i0, hi, hz0, hz1, hz2⟩ := info_parts Tryd.infoU8
  by_cases h0 : n = 0
  · subst h0
    have HO := hidden (Own.nothing w)
    go_enter Tryd.func50, Tryd.ntmps50
    go_wp2
    go_ret
    exact ⟨_, rfl, HO.out⟩
  · have h1 : (0 : Int) < (n : Int) := by omega
    have hrun := Lib.run_append_nil_zeros (P := Tryd.prog) w 22 3 22 5 i0 (.int .u8 0) .i64 .i64 Tryd.underlying22 Tryd.underlying3 hi hz0 n (by omega) (by omega) (by omega) (by rw [hz2]; omega)
    have hge := grownCap_ge w n 0 5
    have hcm : grownCap w n 0 5 ≤ maxLen := grownCap_le_maxLen w n 0 _ (by unfold maxLen; omega)
    have HO : Hid (Own w (w.drew.alloc (.cells (Builtin.zeroCells (Value.int .u8 0).cells n ++ Builtin.zeroCells (Value.int .u8 0).cells (grownCap w n 0 5 - n)) 5)) (.slice (some ⟨w.heap.size, 0, none⟩) 0 (grownCap w n 0 5)) []) := by
      refine ⟨⟨rfl, .inr ⟨w.heap.size, _, _, rfl, Nat.le_refl _, heap_alloc_new w.drew _, Nat.zero_le _, hcm, ?_, ?_⟩⟩, ((Below.refl _ w).drew).alloc (Nat.le_refl _) _⟩
      · simp only [Array.size_append, size_zeroCells]
        simp [Value.cells]
        omega
      · rfl
    have HR := hidden hrun
    have hcap : 0 ≤ grownCap w n 0 5 := Nat.zero_le _
    clear hrun hcm
    generalize grownCap w n 0 5 = C at HO HR hge hcap
    generalize (w.drew.alloc (.cells (Builtin.zeroCells (Value.int .u8 0).cells n ++ Builtin.zeroCells (Value.int .u8 0).cells (C - n)) 5)) = w1 at HO HR
    go_enter Tryd.func50, Tryd.ntmps50
    go_wp2_with (at_builtin; refine Lib.wpList_append_run _ rfl (.tmp 20) (.tmp 21) 22 3 rfl _ _ rfl rfl _ _ HR.out ?_)
    go_ret
    exact ⟨_, rfl, HO.out⟩
theorem cell_kept {w w' : World} {a : Addr} {v : Value} (h : w.cell? a = some v) (hb : Below w.heap.size w w') : w'.cell? a = some v := (Keeps.ofFresh (S := fun _ => False) hb).cell h (fun h => h)

set_option maxHeartbeats 800000 in
set_option maxRecDepth 100000 in
theorem appendNumber_c (n k : Nat) (hk : 1 ≤ k) (hk8 : k ≤ 8) (v : Value) (bs : List UInt8) (w0 w : World) (h : Own w0 w v bs) (hl : bs.length ≤ 1000) :
    Calls Tryd.prog 30 #[v, .int .u64 n, .int .i64 k] w fun e w' => ∃ v', e = .returned v' ∧ Own w0 w' v' (bs ++ be k n) := by
  have HO := hidden h
  clear h
  go_enter Tryd.func30, Tryd.ntmps30
  go_wp2_with fail
  go_loopw [0, 7] (fun b s wr => ∃ j : Nat, j ≤ k ∧ s = .int .i64 (8 * (j : Int) - 8) ∧ ∃ pre, pre ++ be j n = be k n ∧ Own w0 wr b (bs ++ pre)) (fun _ s _ => (intOf s + 8).toNat)
  case atStart => exact ⟨k, Nat.le_refl _, by go_num, [], rfl, by rw [List.append_nil]; exact HO.out⟩
  case round =>
    clear HO
    obtain ⟨j, hj, rfl, pre, hpre, ho⟩ := hrel
    have HO := hidden ho
    clear ho
    match j, hj, hpre with
    | 0, _, hpre =>
      have HP : Hid (bs ++ pre = bs ++ be k n) := by simp [be] at hpre; rw [hpre]; rfl
      clear hpre
      go_wp2
      go_ret
      exact ⟨_, rfl, by rw [← HP.out]; exact HO.out⟩
    | i + 1, hj, hpre =>
      have hpl : pre.length + (i + 1) = k := by have := congrArg List.length hpre; simpa [be_length] using this
      have HL : Hid ((bs ++ pre).length ≤ 1008) := by show _ ≤ _; rw [List.length_append]; omega
      have HP : Hid ((pre ++ [UInt8.ofNat (n / 256 ^ i % 256)]) ++ be i n = be k n) := by
        show _ = _
        rw [← hpre, List.append_assoc]
        rfl
      have HE : Hid (bcells [UInt8.ofNat (n / 256 ^ i % 256)] = [Value.int .u8 (IntKind.u8.wrap ((n : Int) / 2 ^ (8 * (i : Int)).toNat))]) := be_cell n i
      clear hpl hpre
      rw [show (8 * ((i + 1 : Nat) : Int) - 8) = ((8 * i : Nat) : Int) from by omega]
      have hp0 : (0 : Int) ≤ ((8 * i : Nat) : Int) := Int.natCast_nonneg _
      have hp1 : ((8 * i : Nat) : Int) < 64 := by omega
      have hsrc := fun x => srcAtW (x := x) (heap_alloc_new wr (.cells #[.int .u8 x] 5))
      have HSR := hidden hsrc
      clear hsrc
      go_wp2_with (at_builtin; (refine wpList_own _ rfl (.tmp 15) (.tmp 20) 22 rfl w0 _ (bs ++ pre) rfl (HO.out.alloc _) _ [UInt8.ofNat (n / 256 ^ i % 256)] rfl ?qs (by have := HL.out; simp; simp at this; omega) ?_))
      case qs =>
        rw [HE.out]
        exact HSR.out _
      intro v4 w4 o4 _ _
      have O4 := hidden o4
      clear o4
      go_wp2
      go_roundw
      case rel => exact ⟨i, by omega, by go_num, _, HP.out, O4.out⟩
      case measure => simp [intOf]; omega

theorem eq_nil (w : World) (a : Option Addr) (l c : Nat) : (binOp .eql 22 (.slice a l c) (.slice none 0 0)).run Tryd.prog w = .ok (.bool a.isNone) w := by
  simp only [binOp]
  simp [run_equal_slice_nil w 22 5 a l c Tryd.underlying22]
set_option maxHeartbeats 400000 in
set_option maxRecDepth 100000 in
theorem clone_c (v : Value) (xs : List UInt8) (w : World) (hv : BSl w v xs) (hl : xs.length ≤ 1000000000) :
    Calls Tryd.prog 51 #[v] w fun e w' => ∃ v', e = .returned v' ∧ Own w w' v' xs := by
  have HV := hidden hv
  obtain ⟨ao, cap, rfl, hc1, hc2, hn, _⟩ := hv
  cases ao with
  | none =>
    obtain ⟨rfl, rfl⟩ := hn rfl
    have HO := hidden (Own.nothing w)
    clear hn
    simp only [List.length_nil]
    have hq := eq_nil w none 0 0
    simp only [Option.isNone_none] at hq
    go_enter Tryd.func51, Tryd.ntmps51
    go_wp2
    go_ret
    exact ⟨_, rfl, HO.out⟩
  | some a =>
    have HS := hidden ((HV.out.alloc (.cells #[] 5)).src)
    have HO : Hid (Own w (w.alloc (.cells #[] 5)) (.slice (some ⟨w.heap.size, 0, none⟩) 0 0) []) := ⟨own_empty w, (Below.refl _ w).alloc (Nat.le_refl _) _⟩
    have hq := eq_nil w (some a) xs.length cap
    simp only [Option.isNone_some] at hq
    clear hn hc1 hc2
    go_enter Tryd.func51, Tryd.ntmps51
    go_wp2_with (at_builtin; (refine wpList_own _ rfl (.tmp 5) (.tmp 6) 22 rfl w _ [] rfl HO.out _ xs rfl HS.out (by simp; omega) ?_))
    intro v4 w4 o4 _ _
    have O4 := hidden o4
    clear o4
    go_wp2
    go_ret
    exact ⟨_, rfl, O4.out⟩

/-- The first rows, one behind the other. -/
def cat (X : Nat → List UInt8) : Nat → List UInt8
  | 0 => []
  | j + 1 => cat X j ++ X j
theorem cat_le (X : Nat → List UInt8) (j n : Nat) (h : j ≤ n) : (cat X j).length ≤ (cat X n).length := by
  induction n with
  | zero =>
    have : j = 0 := by omega
    rw [this]; exact Nat.le_refl _
  | succ n ih =>
    by_cases e : j = n + 1
    · rw [e]; exact Nat.le_refl _
    · have := ih (by omega); rw [cat, List.length_append]; omega
set_option maxHeartbeats 800000 in
set_option maxRecDepth 100000 in
theorem concat_n (B n : Nat) (hn : n ≤ 100) (V : Nat → Value) (X : Nat → List UInt8) (hl : (cat X n).length ≤ 400000000) (w : World) (hk : ∀ j, j < n → w.cell? ⟨B, j, none⟩ = some (V j)) (hx : ∀ j, j < n → BSl w (V j) (X j)) :
    Calls Tryd.prog 32 #[.slice (some ⟨B, 0, none⟩) n n] w fun e w' => ∃ v', e = .returned v' ∧ Own w w' v' (cat X n) := by
  have HK := hidden hk
  have HX := hidden hx
  have HL := hidden hl
  clear hk hx hl
  go_enter Tryd.func32, Tryd.ntmps32
  go_wp2_with fail
  go_loopw [3, 11] (fun s c wr => ∃ j : Nat, j ≤ n ∧ c = .int .i64 (j : Int) ∧ s = .int .i64 ((cat X j).length : Int) ∧ wr = w) (fun _ c _ => n - (intOf c).toNat)
  case atStart => exact ⟨0, by omega, rfl, rfl, rfl⟩
  case round =>
    obtain ⟨j, hj, rfl, rfl, rfl⟩ := hrel
    by_cases hlt : j < n
    · have hlt' : (j : Int) < (n : Int) := by omega
      have hc := HK.out j hlt
      have hb := HX.out j hlt
      obtain ⟨a0, c0, e0⟩ := hb.len
      rw [e0] at hc
      have hs : (cat X (j + 1)).length = (cat X j).length + (X j).length := by rw [cat, List.length_append]
      have hle := cat_le X (j + 1) n (by omega)
      have h1 := HL.out
      have HS := hidden hs
      have hsm : (cat X j).length + (X j).length ≤ 400000000 := by omega
      clear hs hle h1 hb e0
      generalize (cat X j).length = m at HS hsm ⊢
      generalize (X j).length = q at HS hsm hc ⊢
      go_wp2_with fail
      go_roundw
      case rel => exact ⟨j + 1, by omega, by go_num, by rw [HS.out]; go_num, trivial⟩
      case measure => simp [intOf]; omega
    · have hlt' : ¬ (j : Int) < (n : Int) := by omega
      obtain rfl : j = n := by omega
      obtain ⟨wo, e⟩ : ∃ x, x = wr := ⟨wr, rfl⟩
      subst e
      have HG := hidden (grow_c (cat X j).length (by have := HL.out; omega) wo)
      generalize hm : (cat X j).length = m at HG ⊢
      have HM := hidden hm
      clear hm
      go_wp2_with fail
      refine HG.out.mono ?_
      rintro e w1 ⟨v, rfl, ho1⟩
      have HO1 := hidden ho1
      clear ho1 HG
      go_wp2_with fail
      go_loopw [6, 27] (fun s c wx => ∃ i : Nat, i ≤ j ∧ c = .int .i64 (i : Int) ∧ Own wo wx s (cat X i)) (fun _ c _ => j - (intOf c).toNat)
      case atStart => exact ⟨0, by omega, rfl, HO1.out⟩
      case round =>
        clear HO1
        obtain ⟨i, hi, rfl, ho⟩ := hrel
        have HO := hidden ho
        clear ho
        by_cases hilt : i < j
        · have hilt' : (i : Int) < (j : Int) := by omega
          have hc := cell_kept (HK.out i hilt) HO.out.b
          have HS := hidden ((HX.out i hilt).fresh HO.out.b).src
          have HT : Hid ((cat X i).length + (X i).length ≤ 400000000) := by
            have h1 := HL.out
            have h2 := cat_le X (i + 1) j (by omega)
            rw [cat, List.length_append] at h2
            show _ ≤ _
            omega
          go_wp2_with (at_builtin; (refine wpList_own _ rfl (.tmp 31) (.tmp 32) 22 rfl wo _ (cat X i) rfl HO.out _ (X i) rfl HS.out (by have := HT.out; omega) ?_))
          intro v4 w4 o4 _ _
          have O4 := hidden o4
          clear o4
          go_wp2
          go_roundw
          case rel => exact ⟨i + 1, by omega, by go_num, O4.out⟩
          case measure => simp [intOf]; omega
        · have hilt' : ¬ (i : Int) < (j : Int) := by omega
          obtain rfl : i = j := by omega
          go_wp2
          go_ret
          exact ⟨_, rfl, HO.out⟩
/-- Two of them. -/
theorem concat2 (B : Nat) (v0 v1 : Value) (xs ys : List UInt8) (hl : xs.length + ys.length ≤ 400000000) (w : World) (k0 : w.cell? ⟨B, 0, none⟩ = some v0) (k1 : w.cell? ⟨B, 1, none⟩ = some v1) (h0 : BSl w v0 xs) (h1 : BSl w v1 ys) :
    Calls Tryd.prog 32 #[.slice (some ⟨B, 0, none⟩) 2 2] w fun e w' => ∃ v', e = .returned v' ∧ Own w w' v' (xs ++ ys) := by
  have e : cat (fun j => if j = 0 then xs else ys) 2 = xs ++ ys := by simp [cat]
  have h := concat_n B 2 (by omega) (fun j => if j = 0 then v0 else v1) (fun j => if j = 0 then xs else ys) (by rw [e, List.length_append]; exact hl) w
    (fun j hj => by match j, hj with | 0, _ => exact k0 | 1, _ => exact k1) (fun j hj => by match j, hj with | 0, _ => exact h0 | 1, _ => exact h1)
  rw [e] at h
  exact h
/-- Three of them. -/
theorem concat3 (B : Nat) (v0 v1 v2 : Value) (xs ys zs : List UInt8) (hl : xs.length + ys.length + zs.length ≤ 400000000) (w : World) (k0 : w.cell? ⟨B, 0, none⟩ = some v0) (k1 : w.cell? ⟨B, 1, none⟩ = some v1) (k2 : w.cell? ⟨B, 2, none⟩ = some v2) (h0 : BSl w v0 xs) (h1 : BSl w v1 ys) (h2 : BSl w v2 zs) :
    Calls Tryd.prog 32 #[.slice (some ⟨B, 0, none⟩) 3 3] w fun e w' => ∃ v', e = .returned v' ∧ Own w w' v' (xs ++ ys ++ zs) := by
  have e : cat (fun j => if j = 0 then xs else if j = 1 then ys else zs) 3 = xs ++ ys ++ zs := by simp [cat]
  have h := concat_n B 3 (by omega) (fun j => if j = 0 then v0 else if j = 1 then v1 else v2) (fun j => if j = 0 then xs else if j = 1 then ys else zs) (by rw [e, List.length_append, List.length_append]; exact hl) w
    (fun j hj => by match j, hj with | 0, _ => exact k0 | 1, _ => exact k1 | 2, _ => exact k2) (fun j hj => by match j, hj with | 0, _ => exact h0 | 1, _ => exact h1 | 2, _ => exact h2)
  rw [e] at h
  exact h

/-- At block g there are a key and a count. -/
structure LineS (w : World) (g : Nat) (key : List UInt8) (c : Nat) : Prop where
  ex : ∃ kv, w.cell? ⟨g, 0, none⟩ = some kv ∧ w.cell? ⟨g, 1, none⟩ = some (.int .u64 (c : Int)) ∧ BSl w kv key
  ok : KeyOk key
  le : c ≤ 1000000
theorem LineS.fresh {w w' : World} {g : Nat} {key : List UInt8} {c : Nat} (h : LineS w g key c) (hb : Below w.heap.size w w') : LineS w' g key c := by
  obtain ⟨⟨kv, h1, h2, h3⟩, h4, h5⟩ := h
  exact ⟨⟨kv, cell_kept h1 hb, cell_kept h2 hb, h3.fresh hb⟩, h4, h5⟩
set_option maxHeartbeats 400000 in
theorem sealed_c (w : World) {g : Nat} {key : List UInt8} {c : Nat} (h : LineS w g key c) :
    Calls Tryd.prog 47 #[.pointer (some ⟨g, 0, none⟩)] w fun e w' => e = .returned (.bool (decide (key ≠ []))) ∧ w' = w := by
  obtain ⟨⟨kv, h1, h2, h3⟩, h4, h5⟩ := h
  obtain ⟨ao, cap, rfl⟩ := h3.len
  by_cases hk : key = []
  · subst hk
    simp only [List.length_nil] at h1
    clear h3 h4
    go_enter Tryd.func47, Tryd.ntmps47
    go_wp2
    go_ret
    exact ⟨rfl, rfl⟩
  · have hd : decide (key ≠ []) = true := by simpa using hk
    rw [hd]
    have HL : Hid (decide (0 < key.length) = true) := by have := List.length_pos_iff.2 hk; show _ = _; simpa using this
    clear h3 h4 hk hd
    go_enter Tryd.func47, Tryd.ntmps47
    go_wp2
    go_ret
    exact ⟨by show Ending.returned (.bool (decide (0 < key.length))) = _; rw [HL.out], rfl⟩
set_option maxHeartbeats 400000 in
theorem behind_c (w : World) {g : Nat} {key : List UInt8} {c : Nat} (h : LineS w g key c) :
    Calls Tryd.prog 42 #[.pointer (some ⟨g, 0, none⟩)] w fun e w' => e = .returned (.int .i64 (tagN key : Nat)) ∧ w' = w := by
  have HS := hidden (sealed_c w h)
  clear h
  by_cases hk : key = []
  · rw [tagN, if_pos hk]
    rw [show decide (key ≠ []) = false by simpa using hk] at HS
    go_enter Tryd.func42, Tryd.ntmps42
    go_wp2_with fail
    refine HS.out.mono ?_
    rintro e w2 ⟨rfl, rfl⟩
    go_wp2
    go_ret
    exact ⟨rfl, rfl⟩
  · rw [tagN, if_neg hk]
    rw [show decide (key ≠ []) = true by simpa using hk] at HS
    go_enter Tryd.func42, Tryd.ntmps42
    go_wp2_with fail
    refine HS.out.mono ?_
    rintro e w2 ⟨rfl, rfl⟩
    go_wp2
    go_ret
    exact ⟨rfl, rfl⟩
set_option maxHeartbeats 400000 in
theorem fillsUnits_c (n : Nat) (hn : n ≤ 1000000) (w : World) {g : Nat} {key : List UInt8} {c : Nat} (h : LineS w g key c) :
    Calls Tryd.prog 46 #[.pointer (some ⟨g, 0, none⟩), .int .i64 (n : Int)] w fun e w' => e = .returned (.bool (decide ((hdN key + n) % 8 = 0))) ∧ w' = w := by
  have HS := hidden (sealed_c w h)
  clear h
  by_cases hk : key = []
  · rw [hdN, if_pos hk]
    rw [show decide (key ≠ []) = false by simpa using hk] at HS
    have HE : Hid (decide ((4 + n) % 8 = 0) = ((4 + (n : Int)) % 8 == 0)) := by
      show _ = _
      rw [Bool.eq_iff_iff]
      simp
      omega
    go_enter Tryd.func46, Tryd.ntmps46
    go_wp2_with fail
    refine HS.out.mono ?_
    rintro e w2 ⟨rfl, rfl⟩
    go_wp2
    go_ret
    exact ⟨by rw [HE.out]; rfl, rfl⟩
  · rw [hdN, if_neg hk, Nat.zero_add]
    rw [show decide (key ≠ []) = true by simpa using hk] at HS
    have HE : Hid (decide (n % 8 = 0) = ((n : Int) % 8 == 0)) := by
      show _ = _
      rw [Bool.eq_iff_iff]
      simp
      omega
    go_enter Tryd.func46, Tryd.ntmps46
    go_wp2_with fail
    refine HS.out.mono ?_
    rintro e w2 ⟨rfl, rfl⟩
    go_wp2
    go_ret
    exact ⟨by rw [HE.out]; rfl, rfl⟩
theorem made4 : ∃ Z, (∀ w : World, (Instr.makeSlice 22 (.int .i64 4) (.int .i64 4)).run Tryd.prog w = .ok (.slice (some ⟨w.heap.size, 0, none⟩) 4 4) (w.alloc (.cells Z 5))) ∧ ∀ w : World, (w.alloc (.cells Z 5)).ownsRow w.heap.size 5 1 (.slice (some ⟨w.heap.size, 0, none⟩) 4 4) 4 (bcells (List.replicate 4 0)) :=
  ⟨_, fun w => made_run 4 (by omega) w, fun w => by
    have h := own_block (base := w.heap.size) (heap_alloc_new w (.cells (bcells (List.replicate 4 0)).toArray 5)) (Nat.le_refl _) (by simp)
    rw [List.length_replicate] at h
    exact h⟩
set_option maxHeartbeats 400000 in
set_option maxRecDepth 100000 in
theorem nonce_c (w : World) {g : Nat} {key : List UInt8} {c : Nat} (h : LineS w g key c) :
    Calls Tryd.prog 49 #[.pointer (some ⟨g, 0, none⟩)] w fun e w' => Fresh w (nonceL c) e w' := by
  obtain ⟨⟨kv, h1, h2, h3⟩, h4, h5⟩ := h
  obtain ⟨Z, hm, hz⟩ := made4
  have HZ := hidden hz
  clear h1 h3 h4 hz
  have hlt := World.block_lt_of_cell? w _ h2
  have hA := hidden (fun (wx : World) (hb : Below w.heap.size w wx) => appendNumber_c c 8 (by omega) (by omega) _ (List.replicate 4 0) w (wx.alloc (.cells Z 5)) ⟨by have := HZ.out wx; exact ⟨this.1, this.2.imp_right fun ⟨g, cap, cur, e1, e2, e3⟩ => ⟨g, cap, cur, e1, Nat.le_trans hb.size e2, e3⟩⟩, hb.alloc hb.size _⟩ (by simp))
  go_enter Tryd.func49, Tryd.ntmps49
  go_wp2_with fail
  have hc2 : ∀ o, (w.alloc o).cell? ⟨g, 1, none⟩ = some (.int .u64 (c : Int)) := fun o => cell_kept h2 ((Below.refl _ w).alloc (Nat.le_refl _) o)
  go_region_with (go_at_call 30; refine (hA.out _ (Below.refl _ _).drew).mono ?_; rintro e w3 ⟨v3, rfl, ho3⟩)
  all_goals
    have HF := hidden ho3.fresh
    clear ho3
    go_wp2
    go_ret
    exact HF.out

section
variable {o : Oper} {ρ : Operand → Value} {w : World} {x : Operand} {v : Value} {Φ : Value → World → Prop}
theorem gives_load {a : Addr} (ho : o.op = .load 22 x) (hx : ρ x = .pointer (some a)) (hc : w.cell? a = some v) (h : Φ v w) : Gives Tryd.prog o ρ w Φ := by
  refine Gives.value (w' := w) (v := v) ?_ h
  unfold execOp
  simp only [ho]
  rw [hx]
  simp [Instr.loadAt, loadVar, Instr.sureAddr, hc]
theorem gives_nil {a : Addr} (ho : o.op = .nilCheck x) (hx : ρ x = .pointer (some a)) (h : Φ (.pointer (some a)) w) : Gives Tryd.prog o ρ w Φ := by
  refine Gives.value (w' := w) (v := .pointer (some a)) ?_ h
  unfold execOp
  simp only [ho]
  rw [hx]
  rfl
theorem gives_field0 {g : Nat} (ho : o.op = .fieldAddr 61 x 0) (hx : ρ x = .pointer (some ⟨g, 0, none⟩)) (h : Φ (.pointer (some ⟨g, 0, none⟩)) w) : Gives Tryd.prog o ρ w Φ := by
  refine Gives.value (w' := w) (v := .pointer (some ⟨g, 0, none⟩)) ?_ h
  unfold execOp
  simp only [ho]
  rw [hx]
  kernel_rfl
theorem gives_ext0 {xs : List UInt8} {n : Int} (ho : o.op = .extract x 0) (hx : ρ x = v) (hv : (Fact.told xs n).holds v w) : Gives Tryd.prog o ρ w fun v' w2 => Ex w w2 ∧ (Fact.bsl xs).holds v' w2 := by
  obtain ⟨u, rfl, hu⟩ := hv
  refine Gives.value (w' := w) (v := u) ?_ ⟨Ex.refl _, hu⟩
  unfold execOp
  simp only [ho]
  rw [hx]
  rfl
theorem gives_ext1 {xs : List UInt8} {n : Int} (ho : o.op = .extract x 1) (hx : ρ x = v) (hv : (Fact.told xs n).holds v w) : Gives Tryd.prog o ρ w fun v' w2 => Ex w w2 ∧ (Fact.val (.int .i64 n)).holds v' w2 := by
  obtain ⟨u, rfl, hu⟩ := hv
  refine Gives.value (w' := w) (v := .int .i64 n) ?_ ⟨Ex.refl _, rfl⟩
  unfold execOp
  simp only [ho]
  rw [hx]
  rfl
end
theorem told_pair {xs : List UInt8} {n : Nat} {w : World} {f : FuncId} {args : Array Value} (h : Calls Tryd.prog f args w fun e w' => ETold w n xs e w') : Calls Tryd.prog f args w fun e w' => ∃ v, e = .returned v ∧ Ex w w' ∧ (Fact.told xs (n : Int)).holds v w' :=
  h.mono fun _ _ ⟨h1, v, h2, h3, _⟩ => ⟨_, h2, h1, v, rfl, h3⟩

set_option maxHeartbeats 1600000 in
set_option maxRecDepth 100000 in
theorem seal_c (w : World) {g : Nat} {key : List UInt8} {c : Nat} (h : LineS w g key c) (hcl : Cl w) (v1 v2 : Value) (hd_ b : List UInt8) (h1 : BSl w v1 hd_) (h2 : BSl w v2 b) (hsl : hd_.length ≤ 10000) (hbl : b.length ≤ 10000) :
    Calls Tryd.prog 31 #[.pointer (some ⟨g, 0, none⟩), v1, v2] w fun e w' => Ex w w' ∧ ∃ v, e = .returned (.tuple #[v, .int .i64 ((if key = [] then 0 else sealE key (nonceL c) : Nat) : Int)]) ∧ BSl w' v (if key = [] then b else sealT key (nonceL c) hd_ b) := by
  have HS := hidden (sealed_c w h)
  have HLS := hidden h
  have H1 := hidden h1
  have H2 := hidden h2
  have HCL := hidden hcl
  obtain ⟨⟨kv, c0, c1, c2⟩, hko, _⟩ := h
  have HKV := hidden c0
  have HKB := hidden c2
  clear c0 c1 c2 h1 h2 hcl
  by_cases hk : key = []
  · rw [if_pos hk, if_pos hk]
    rw [show decide (key ≠ []) = false by simpa using hk] at HS
    clear hk hko
    go_enter Tryd.func31, Tryd.ntmps31
    go_wp2_with fail
    refine HS.out.mono ?_
    rintro e w2 ⟨rfl, rfl⟩
    go_wp2
    go_ret2
    exact ⟨Ex.refl _, _, rfl, H2.out⟩
  · rw [if_neg hk, if_neg hk]
    rw [show decide (key ≠ []) = true by simpa using hk] at HS
    have HCALL : Hid (∀ (wx : World) (u : Value), Ex w wx → BSl wx u (nonceL c) → Calls Tryd.prog 48 #[kv, u, v1, v2] wx fun e w' => ∃ v, e = .returned v ∧ Ex wx w' ∧ (Fact.told (sealT key (nonceL c) hd_ b) ((sealE key (nonceL c) : Nat) : Int)).holds v w') := by
      intro wx u he hu
      exact told_pair ((Seal_c kv u v1 v2 key (nonceL c) hd_ b wx (HCL.out.fresh he) hsl hbl (HKB.out.fresh he) hu (H1.out.fresh he) (H2.out.fresh he)).mono fun _ _ h => h.told)
    clear hk hko hsl hbl
    generalize sealE key (nonceL c) = En at HCALL ⊢
    generalize (sealT key (nonceL c) hd_ b) = Tn at HCALL ⊢
    go_enter Tryd.func31, Tryd.ntmps31
    go_wp2_with fail
    refine HS.out.mono ?_
    rintro e w2 ⟨rfl, hw2⟩
    subst hw2
    go_wp2_with fail
    refine region_free [(.val (.pointer (some ⟨g, 0, none⟩))), (.val (.pointer (some ⟨g, 0, none⟩))), (.val (.pointer (some ⟨g, 0, none⟩))), (.val kv), (.val (.pointer (some ⟨g, 0, none⟩))), (.bsl (nonceL c)), (.val v1), (.val v2), (.told Tn (En : Int)), (.bsl Tn), (.val (.int .i64 (En : Int))), (.bsl Tn), (.val (.int .i64 (En : Int)))] (by kernel_rfl) ?_ ?_
    · refine req_cons (.val (.pointer (some ⟨g, 0, none⟩))) (by kernel_rfl) (fun vs w1 he hd => StepG.plain (by kernel_rfl) (gives_move (x := (.tmp 0)) (v := (.pointer (some ⟨g, 0, none⟩))) (by kernel_rfl) (by kernel_rfl) ⟨Ex.refl _, rfl⟩)) ?_
      refine req_cons (.val (.pointer (some ⟨g, 0, none⟩))) (by kernel_rfl) (fun vs w1 he hd => StepG.plain (by kernel_rfl) (gives_nil (x := .tmp 12) (by kernel_rfl) (Eq.trans (b := vs 0) (by kernel_rfl) (hd 0 (.val (.pointer (some ⟨g, 0, none⟩))) (by kernel_rfl) (by kernel_rfl))) ⟨Ex.refl _, rfl⟩)) ?_
      refine req_cons (.val (.pointer (some ⟨g, 0, none⟩))) (by kernel_rfl) (fun vs w1 he hd => StepG.plain (by kernel_rfl) (gives_field0 (x := .tmp 13) (by kernel_rfl) (Eq.trans (b := vs 1) (by kernel_rfl) (hd 1 (.val (.pointer (some ⟨g, 0, none⟩))) (by kernel_rfl) (by kernel_rfl))) ⟨Ex.refl _, rfl⟩)) ?_
      refine req_cons (.val kv) (by kernel_rfl) (fun vs w1 he hd => StepG.plain (by kernel_rfl) (gives_load (x := .tmp 14) (v := kv) (by kernel_rfl) (Eq.trans (b := vs 2) (by kernel_rfl) (hd 2 (.val (.pointer (some ⟨g, 0, none⟩))) (by kernel_rfl) (by kernel_rfl))) (cell_kept HKV.out he) ⟨Ex.refl _, rfl⟩)) ?_
      refine req_cons (.val (.pointer (some ⟨g, 0, none⟩))) (by kernel_rfl) (fun vs w1 he hd => StepG.plain (by kernel_rfl) (gives_move (x := (.tmp 0)) (v := (.pointer (some ⟨g, 0, none⟩))) (by kernel_rfl) (by kernel_rfl) ⟨Ex.refl _, rfl⟩)) ?_
      refine req_cons (.bsl (nonceL c)) (by kernel_rfl) (fun vs w1 he hd => StepG.plain (by kernel_rfl) (gives_call (f := 49) (xs := #[(.tmp 16)]) (ts := #[82]) (vs := #[(vs 4)]) (by kernel_rfl) (by kernel_rfl) (by kernel_rfl) Tryd.func49 (by kernel_rfl) (by kernel_rfl) (by rw [show vs 4 = .pointer (some ⟨g, 0, none⟩) from (hd 4 (.val (.pointer (some ⟨g, 0, none⟩))) (by kernel_rfl) (by kernel_rfl))]; exact told_bytes (nonce_c _ (HLS.out.fresh he))))) ?_
      refine req_cons (.val v1) (by kernel_rfl) (fun vs w1 he hd => StepG.plain (by kernel_rfl) (gives_move (x := (.tmp 1)) (v := v1) (by kernel_rfl) (by kernel_rfl) ⟨Ex.refl _, rfl⟩)) ?_
      refine req_cons (.val v2) (by kernel_rfl) (fun vs w1 he hd => StepG.plain (by kernel_rfl) (gives_move (x := (.tmp 2)) (v := v2) (by kernel_rfl) (by kernel_rfl) ⟨Ex.refl _, rfl⟩)) ?_
      refine req_cons (.told Tn (En : Int)) (by kernel_rfl) (fun vs w1 he hd => StepG.plain (by kernel_rfl) (gives_call (f := 48) (xs := #[(.tmp 15), (.tmp 17), (.tmp 18), (.tmp 19)]) (ts := #[22, 22, 22, 22]) (vs := #[(vs 3), (vs 5), (vs 6), (vs 7)]) (by kernel_rfl) (by kernel_rfl) (by kernel_rfl) Tryd.func48 (by kernel_rfl) (by kernel_rfl) (by rw [show vs 3 = kv from (hd 3 (.val kv) (by kernel_rfl) (by kernel_rfl)), show vs 6 = v1 from (hd 6 (.val v1) (by kernel_rfl) (by kernel_rfl)), show vs 7 = v2 from (hd 7 (.val v2) (by kernel_rfl) (by kernel_rfl))]; exact HCALL.out _ _ he (hd 5 (.bsl (nonceL c)) (by kernel_rfl) (by kernel_rfl))))) ?_
      refine req_cons (.bsl Tn) (by kernel_rfl) (fun vs w1 he hd => StepG.plain (by kernel_rfl) (gives_ext0 (n := (En : Int)) (x := .tmp 20) (v := vs 8) (by kernel_rfl) (by kernel_rfl) (hd 8 (.told Tn (En : Int)) (by kernel_rfl) (by kernel_rfl)))) ?_
      refine req_cons (.val (.int .i64 (En : Int))) (by kernel_rfl) (fun vs w1 he hd => StepG.plain (by kernel_rfl) (gives_ext1 (xs := Tn) (x := .tmp 20) (v := vs 8) (by kernel_rfl) (by kernel_rfl) (hd 8 (.told Tn (En : Int)) (by kernel_rfl) (by kernel_rfl)))) ?_
      refine req_cons (.bsl Tn) (by kernel_rfl) (fun vs w1 he hd => StepG.plain (by kernel_rfl) (gives_assign (x := (.tmp 21)) (v := (vs 9)) (by kernel_rfl) (by kernel_rfl) ⟨Ex.refl _, (hd 9 (.bsl Tn) (by kernel_rfl) (by kernel_rfl))⟩)) ?_
      refine req_cons (.val (.int .i64 (En : Int))) (by kernel_rfl) (fun vs w1 he hd => StepG.plain (by kernel_rfl) (gives_assign (x := (.tmp 22)) (v := (.int .i64 (En : Int))) (by kernel_rfl) (Eq.trans (b := vs 10) (by kernel_rfl) (hd 10 (.val (.int .i64 (En : Int))) (by kernel_rfl) (by kernel_rfl))) ⟨Ex.refl _, rfl⟩)) ?_
      exact req_nil
    intro vs w4 hx hF
    have e0 : vs 0 = (.pointer (some ⟨g, 0, none⟩)) := told_at hF 0 (.val (.pointer (some ⟨g, 0, none⟩))) (by decide) (by kernel_rfl)
    have e1 : vs 1 = (.pointer (some ⟨g, 0, none⟩)) := told_at hF 1 (.val (.pointer (some ⟨g, 0, none⟩))) (by decide) (by kernel_rfl)
    have e2 : vs 2 = (.pointer (some ⟨g, 0, none⟩)) := told_at hF 2 (.val (.pointer (some ⟨g, 0, none⟩))) (by decide) (by kernel_rfl)
    have e3 : vs 3 = kv := told_at hF 3 (.val kv) (by decide) (by kernel_rfl)
    have e4 : vs 4 = (.pointer (some ⟨g, 0, none⟩)) := told_at hF 4 (.val (.pointer (some ⟨g, 0, none⟩))) (by decide) (by kernel_rfl)
    have e6 : vs 6 = v1 := told_at hF 6 (.val v1) (by decide) (by kernel_rfl)
    have e7 : vs 7 = v2 := told_at hF 7 (.val v2) (by decide) (by kernel_rfl)
    have e10 : vs 10 = (.int .i64 (En : Int)) := told_at hF 10 (.val (.int .i64 (En : Int))) (by decide) (by kernel_rfl)
    have e12 : vs 12 = (.int .i64 (En : Int)) := told_at hF 12 (.val (.int .i64 (En : Int))) (by decide) (by kernel_rfl)
    have HB11 := hidden (told_at hF 11 (.bsl Tn) (by decide) (by kernel_rfl))
    simp only [List.length_cons, List.length_nil, actsTo, if_true, dstOf, List.getElem?_toArray, List.getElem?_cons_succ, List.getElem?_cons_zero, Option.bind_some, Act.put, List.setIfInBounds_toArray, List.set_cons_zero, List.set_cons_succ]
    simp only [e0, e1, e2, e3, e4, e6, e7, e10, e12]
    generalize vs 5 = y5
    generalize vs 8 = y8
    generalize vs 9 = y9
    generalize vs 11 = y11 at HB11 ⊢
    clear hF e0 e1 e2 e3 e4 e6 e7 e10 e12 vs
    go_wp2
    go_ret2
    exact ⟨hx, _, rfl, HB11.out⟩

set_option maxHeartbeats 1600000 in
set_option maxRecDepth 100000 in
theorem open_c (w : World) {g : Nat} {key : List UInt8} {c : Nat} (h : LineS w g key c) (hcl : Cl w) (v1 v2 : Value) (hd_ b : List UInt8) (h1 : BSl w v1 hd_) (h2 : BSl w v2 b) (hsl : hd_.length ≤ 10000) (hbl : b.length ≤ 10000) :
    Calls Tryd.prog 43 #[.pointer (some ⟨g, 0, none⟩), v1, v2] w fun e w' => Ex w w' ∧ ∃ v, e = .returned (.tuple #[v, .int .i64 ((if key = [] then 0 else openE key (nonceL c) hd_ b : Nat) : Int)]) ∧ BSl w' v (if key = [] then b else openT key (nonceL c) hd_ b) := by
  have HS := hidden (sealed_c w h)
  have HLS := hidden h
  have H1 := hidden h1
  have H2 := hidden h2
  have HCL := hidden hcl
  obtain ⟨⟨kv, c0, c1, c2⟩, hko, _⟩ := h
  have HKV := hidden c0
  have HKB := hidden c2
  clear c0 c1 c2 h1 h2 hcl
  by_cases hk : key = []
  · rw [if_pos hk, if_pos hk]
    rw [show decide (key ≠ []) = false by simpa using hk] at HS
    clear hk hko
    go_enter Tryd.func43, Tryd.ntmps43
    go_wp2_with fail
    refine HS.out.mono ?_
    rintro e w2 ⟨rfl, rfl⟩
    go_wp2
    go_ret2
    exact ⟨Ex.refl _, _, rfl, H2.out⟩
  · rw [if_neg hk, if_neg hk]
    rw [show decide (key ≠ []) = true by simpa using hk] at HS
    have HCALL : Hid (∀ (wx : World) (u : Value), Ex w wx → BSl wx u (nonceL c) → Calls Tryd.prog 58 #[kv, u, v1, v2] wx fun e w' => ∃ v, e = .returned v ∧ Ex wx w' ∧ (Fact.told (openT key (nonceL c) hd_ b) ((openE key (nonceL c) hd_ b : Nat) : Int)).holds v w') := by
      intro wx u he hu
      exact told_pair (Open_c kv u v1 v2 key (nonceL c) hd_ b wx (HCL.out.fresh he) hsl hbl (HKB.out.fresh he) hu (H1.out.fresh he) (H2.out.fresh he))
    clear hk hko hsl hbl
    generalize openE key (nonceL c) hd_ b = En at HCALL ⊢
    generalize (openT key (nonceL c) hd_ b) = Tn at HCALL ⊢
    go_enter Tryd.func43, Tryd.ntmps43
    go_wp2_with fail
    refine HS.out.mono ?_
    rintro e w2 ⟨rfl, hw2⟩
    subst hw2
    go_wp2_with fail
    refine region_free [(.val (.pointer (some ⟨g, 0, none⟩))), (.val (.pointer (some ⟨g, 0, none⟩))), (.val (.pointer (some ⟨g, 0, none⟩))), (.val kv), (.val (.pointer (some ⟨g, 0, none⟩))), (.bsl (nonceL c)), (.val v1), (.val v2), (.told Tn (En : Int)), (.bsl Tn), (.val (.int .i64 (En : Int))), (.bsl Tn), (.val (.int .i64 (En : Int)))] (by kernel_rfl) ?_ ?_
    · refine req_cons (.val (.pointer (some ⟨g, 0, none⟩))) (by kernel_rfl) (fun vs w1 he hd => StepG.plain (by kernel_rfl) (gives_move (x := (.tmp 0)) (v := (.pointer (some ⟨g, 0, none⟩))) (by kernel_rfl) (by kernel_rfl) ⟨Ex.refl _, rfl⟩)) ?_
      refine req_cons (.val (.pointer (some ⟨g, 0, none⟩))) (by kernel_rfl) (fun vs w1 he hd => StepG.plain (by kernel_rfl) (gives_nil (x := .tmp 12) (by kernel_rfl) (Eq.trans (b := vs 0) (by kernel_rfl) (hd 0 (.val (.pointer (some ⟨g, 0, none⟩))) (by kernel_rfl) (by kernel_rfl))) ⟨Ex.refl _, rfl⟩)) ?_
      refine req_cons (.val (.pointer (some ⟨g, 0, none⟩))) (by kernel_rfl) (fun vs w1 he hd => StepG.plain (by kernel_rfl) (gives_field0 (x := .tmp 13) (by kernel_rfl) (Eq.trans (b := vs 1) (by kernel_rfl) (hd 1 (.val (.pointer (some ⟨g, 0, none⟩))) (by kernel_rfl) (by kernel_rfl))) ⟨Ex.refl _, rfl⟩)) ?_
      refine req_cons (.val kv) (by kernel_rfl) (fun vs w1 he hd => StepG.plain (by kernel_rfl) (gives_load (x := .tmp 14) (v := kv) (by kernel_rfl) (Eq.trans (b := vs 2) (by kernel_rfl) (hd 2 (.val (.pointer (some ⟨g, 0, none⟩))) (by kernel_rfl) (by kernel_rfl))) (cell_kept HKV.out he) ⟨Ex.refl _, rfl⟩)) ?_
      refine req_cons (.val (.pointer (some ⟨g, 0, none⟩))) (by kernel_rfl) (fun vs w1 he hd => StepG.plain (by kernel_rfl) (gives_move (x := (.tmp 0)) (v := (.pointer (some ⟨g, 0, none⟩))) (by kernel_rfl) (by kernel_rfl) ⟨Ex.refl _, rfl⟩)) ?_
      refine req_cons (.bsl (nonceL c)) (by kernel_rfl) (fun vs w1 he hd => StepG.plain (by kernel_rfl) (gives_call (f := 49) (xs := #[(.tmp 16)]) (ts := #[82]) (vs := #[(vs 4)]) (by kernel_rfl) (by kernel_rfl) (by kernel_rfl) Tryd.func49 (by kernel_rfl) (by kernel_rfl) (by rw [show vs 4 = .pointer (some ⟨g, 0, none⟩) from (hd 4 (.val (.pointer (some ⟨g, 0, none⟩))) (by kernel_rfl) (by kernel_rfl))]; exact told_bytes (nonce_c _ (HLS.out.fresh he))))) ?_
      refine req_cons (.val v1) (by kernel_rfl) (fun vs w1 he hd => StepG.plain (by kernel_rfl) (gives_move (x := (.tmp 1)) (v := v1) (by kernel_rfl) (by kernel_rfl) ⟨Ex.refl _, rfl⟩)) ?_
      refine req_cons (.val v2) (by kernel_rfl) (fun vs w1 he hd => StepG.plain (by kernel_rfl) (gives_move (x := (.tmp 2)) (v := v2) (by kernel_rfl) (by kernel_rfl) ⟨Ex.refl _, rfl⟩)) ?_
      refine req_cons (.told Tn (En : Int)) (by kernel_rfl) (fun vs w1 he hd => StepG.plain (by kernel_rfl) (gives_call (f := 58) (xs := #[(.tmp 15), (.tmp 17), (.tmp 18), (.tmp 19)]) (ts := #[22, 22, 22, 22]) (vs := #[(vs 3), (vs 5), (vs 6), (vs 7)]) (by kernel_rfl) (by kernel_rfl) (by kernel_rfl) Tryd.func58 (by kernel_rfl) (by kernel_rfl) (by rw [show vs 3 = kv from (hd 3 (.val kv) (by kernel_rfl) (by kernel_rfl)), show vs 6 = v1 from (hd 6 (.val v1) (by kernel_rfl) (by kernel_rfl)), show vs 7 = v2 from (hd 7 (.val v2) (by kernel_rfl) (by kernel_rfl))]; exact HCALL.out _ _ he (hd 5 (.bsl (nonceL c)) (by kernel_rfl) (by kernel_rfl))))) ?_
      refine req_cons (.bsl Tn) (by kernel_rfl) (fun vs w1 he hd => StepG.plain (by kernel_rfl) (gives_ext0 (n := (En : Int)) (x := .tmp 20) (v := vs 8) (by kernel_rfl) (by kernel_rfl) (hd 8 (.told Tn (En : Int)) (by kernel_rfl) (by kernel_rfl)))) ?_
      refine req_cons (.val (.int .i64 (En : Int))) (by kernel_rfl) (fun vs w1 he hd => StepG.plain (by kernel_rfl) (gives_ext1 (xs := Tn) (x := .tmp 20) (v := vs 8) (by kernel_rfl) (by kernel_rfl) (hd 8 (.told Tn (En : Int)) (by kernel_rfl) (by kernel_rfl)))) ?_
      refine req_cons (.bsl Tn) (by kernel_rfl) (fun vs w1 he hd => StepG.plain (by kernel_rfl) (gives_assign (x := (.tmp 21)) (v := (vs 9)) (by kernel_rfl) (by kernel_rfl) ⟨Ex.refl _, (hd 9 (.bsl Tn) (by kernel_rfl) (by kernel_rfl))⟩)) ?_
      refine req_cons (.val (.int .i64 (En : Int))) (by kernel_rfl) (fun vs w1 he hd => StepG.plain (by kernel_rfl) (gives_assign (x := (.tmp 22)) (v := (.int .i64 (En : Int))) (by kernel_rfl) (Eq.trans (b := vs 10) (by kernel_rfl) (hd 10 (.val (.int .i64 (En : Int))) (by kernel_rfl) (by kernel_rfl))) ⟨Ex.refl _, rfl⟩)) ?_
      exact req_nil
    intro vs w4 hx hF
    have e0 : vs 0 = (.pointer (some ⟨g, 0, none⟩)) := told_at hF 0 (.val (.pointer (some ⟨g, 0, none⟩))) (by decide) (by kernel_rfl)
    have e1 : vs 1 = (.pointer (some ⟨g, 0, none⟩)) := told_at hF 1 (.val (.pointer (some ⟨g, 0, none⟩))) (by decide) (by kernel_rfl)
    have e2 : vs 2 = (.pointer (some ⟨g, 0, none⟩)) := told_at hF 2 (.val (.pointer (some ⟨g, 0, none⟩))) (by decide) (by kernel_rfl)
    have e3 : vs 3 = kv := told_at hF 3 (.val kv) (by decide) (by kernel_rfl)
    have e4 : vs 4 = (.pointer (some ⟨g, 0, none⟩)) := told_at hF 4 (.val (.pointer (some ⟨g, 0, none⟩))) (by decide) (by kernel_rfl)
    have e6 : vs 6 = v1 := told_at hF 6 (.val v1) (by decide) (by kernel_rfl)
    have e7 : vs 7 = v2 := told_at hF 7 (.val v2) (by decide) (by kernel_rfl)
    have e10 : vs 10 = (.int .i64 (En : Int)) := told_at hF 10 (.val (.int .i64 (En : Int))) (by decide) (by kernel_rfl)
    have e12 : vs 12 = (.int .i64 (En : Int)) := told_at hF 12 (.val (.int .i64 (En : Int))) (by decide) (by kernel_rfl)
    have HB11 := hidden (told_at hF 11 (.bsl Tn) (by decide) (by kernel_rfl))
    simp only [List.length_cons, List.length_nil, actsTo, if_true, dstOf, List.getElem?_toArray, List.getElem?_cons_succ, List.getElem?_cons_zero, Option.bind_some, Act.put, List.setIfInBounds_toArray, List.set_cons_zero, List.set_cons_succ]
    simp only [e0, e1, e2, e3, e4, e6, e7, e10, e12]
    generalize vs 5 = y5
    generalize vs 8 = y8
    generalize vs 9 = y9
    generalize vs 11 = y11 at HB11 ⊢
    clear hF e0 e1 e2 e3 e4 e6 e7 e10 e12 vs
    go_wp2
    go_ret2
    exact ⟨hx, _, rfl, HB11.out⟩

theorem madeN (n : Nat) (hn : n ≤ 1000000) : ∃ Z, (∀ w : World, (Instr.makeSlice 22 (.int .i64 (n : Int)) (.int .i64 (n : Int))).run Tryd.prog w = .ok (.slice (some ⟨w.heap.size, 0, none⟩) n n) (w.alloc (.cells Z 5))) ∧ ∀ w : World, BSl (w.alloc (.cells Z 5)) (.slice (some ⟨w.heap.size, 0, none⟩) n n) (List.replicate n 0) :=
  ⟨_, fun w => made_run n hn w, fun w => BSl.zeros w n hn⟩
theorem bsl_one (w : World) (b : UInt8) : BSl (w.alloc (.cells #[.int .u8 (b.toNat : Int)] 5)) (.slice (some ⟨w.heap.size, 0, none⟩) 1 1) [b] :=
  BSl.ofBlock (xs := [b]) (heap_alloc_new w (.cells #[.int .u8 (b.toNat : Int)] 5)) (by simp)
theorem bsl_at {w : World} {B : Nat} {b : UInt8} {x : Int} (h : w.heap[B]? = some (.cells #[.int .u8 x] 5 (0, 0))) (hx : x = (b.toNat : Int)) : BSl w (.slice (some ⟨B, 0, none⟩) 1 1) [b] := by
  subst hx
  exact BSl.ofBlock (xs := [b]) h (by simp)
theorem Own.next {w w3 w' : World} {v : Value} {xs : List UInt8} (hb : Below w.heap.size w w3) (h : Own w3 w' v xs) : Own w w' v xs :=
  ⟨⟨h.row.1, h.row.2.imp_right fun ⟨g, cap, cur, e1, e2, e3⟩ => ⟨g, cap, cur, e1, Nat.le_trans hb.size e2, e3⟩⟩, hb.trans (h.b.mono hb.size)⟩
theorem three_c (w : World) (q : Nat) (x : Int) (Z : Array Value) (v : Value) (p : List UInt8) (b : UInt8) (hx : x = (b.toNat : Int))
    (hz : ∀ w : World, BSl (w.alloc (.cells Z 5)) (.slice (some ⟨w.heap.size, 0, none⟩) q q) (List.replicate q 0)) (hv : BSl w v p) (hp : p.length ≤ 1000000) (hq : q ≤ 1000000) :
    Calls Tryd.prog 32 #[.slice (some ⟨w.heap.size + 1 + 1, 0, none⟩) 3 3]
      (((w.alloc (.cells #[.int .u8 x] 5)).alloc (.cells Z 5)).alloc (.cells #[.slice (some ⟨w.heap.size, 0, none⟩) 1 1, v, .slice (some ⟨w.heap.size + 1, 0, none⟩) q q] 22))
      fun e w' => ∃ v', e = .returned v' ∧ Own w w' v' (b :: (p ++ List.replicate q 0)) := by
  subst hx
  have h0 := bsl_one w b
  generalize e1 : w.alloc (.cells #[.int .u8 (b.toNat : Int)] 5) = w1 at h0 ⊢
  have b1 : Below w.heap.size w w1 := by rw [← e1]; exact (Below.refl _ w).alloc (Nat.le_refl _) _
  have s1 : w1.heap.size = w.heap.size + 1 := by rw [← e1]; simp
  have h2 := hz w1
  generalize e2 : w1.alloc (.cells Z 5) = w2 at h2 ⊢
  have b2 : Below w1.heap.size w1 w2 := by rw [← e2]; exact (Below.refl _ w1).alloc (Nat.le_refl _) _
  have s2 : w2.heap.size = w.heap.size + 1 + 1 := by rw [← e2]; simp [s1]
  rw [s1] at h2
  have hn := heap_alloc_new w2 (.cells #[.slice (some ⟨w.heap.size, 0, none⟩) 1 1, v, .slice (some ⟨w.heap.size + 1, 0, none⟩) q q] 22)
  have b3 := (Below.refl w2.heap.size w2).alloc (Nat.le_refl _) (.cells #[.slice (some ⟨w.heap.size, 0, none⟩) 1 1, v, .slice (some ⟨w.heap.size + 1, 0, none⟩) q q] 22)
  rw [s2] at hn
  generalize w2.alloc (.cells #[.slice (some ⟨w.heap.size, 0, none⟩) 1 1, v, .slice (some ⟨w.heap.size + 1, 0, none⟩) q q] 22) = w3 at hn b3 ⊢
  have bb : Below w.heap.size w w3 := b1.trans ((b2.trans (b3.mono b2.size)).mono b1.size)
  refine (concat3 (w.heap.size + 1 + 1) _ v _ [b] p (List.replicate q 0) (by simp; omega) w3 ?_ ?_ ?_ ((h0.fresh b2).fresh b3) (hv.fresh bb) (h2.fresh b3)).mono ?_
  · exact cell_row (cs := [.slice (some ⟨w.heap.size, 0, none⟩) 1 1, v, .slice (some ⟨w.heap.size + 1, 0, none⟩) q q]) hn 0
  · exact cell_row (cs := [.slice (some ⟨w.heap.size, 0, none⟩) 1 1, v, .slice (some ⟨w.heap.size + 1, 0, none⟩) q q]) hn 1
  · exact cell_row (cs := [.slice (some ⟨w.heap.size, 0, none⟩) 1 1, v, .slice (some ⟨w.heap.size + 1, 0, none⟩) q q]) hn 2
  · rintro e w' ⟨v', rfl, ho⟩
    exact ⟨v', rfl, by simpa using Own.next bb ho⟩
set_option maxHeartbeats 800000 in
set_option maxRecDepth 100000 in
theorem filled_c (w : World) {g : Nat} {key : List UInt8} {c : Nat} (h : LineS w g key c) (v : Value) (p : List UInt8) (hv : BSl w v p) (hp : p.length ≤ 40000) :
    Calls Tryd.prog 29 #[.pointer (some ⟨g, 0, none⟩), v] w fun e w' => ∃ v', e = .returned v' ∧ Own w w' v' (bodyP key p) := by
  have HL := hidden h
  have HV := hidden hv
  obtain ⟨ao, cap, rfl⟩ := hv.len
  clear h hv
  obtain ⟨n, hn⟩ : ∃ n, n = p.length := ⟨_, rfl⟩
  have HN := hidden hn
  rw [← hn] at hp ⊢
  have HR := hidden (padP_range key n)
  have HM := hidden (padP_mod key n)
  have HLE := hidden (padP_least key n)
  have HBP : Hid (bodyP key p = [UInt8.ofNat (padP key n)] ++ p ++ List.replicate (padP key n) 0) := by show _ = _; rw [bodyP, ← hn]; simp
  rw [HBP.out]
  rw [← hn] at HV
  clear hn HBP
  generalize padP key n = P at HR HM HLE ⊢
  go_enter Tryd.func29, Tryd.ntmps29
  go_wp2_with fail
  go_loopw [5] (fun s wr => ∃ q : Nat, 4 ≤ q ∧ q ≤ P ∧ s = .int .i64 (q : Int) ∧ wr = w) (fun s _ => P - (intOf s).toNat)
  case atStart => exact ⟨4, by omega, HR.out.1, rfl, rfl⟩
  case round =>
    obtain ⟨q, hq4, hqP, rfl, rfl⟩ := hrel
    have hP := HR.out.2
    by_cases hlt : q < P
    · have hF := fillsUnits_c (1 + n + q) (by omega) wr HL.out
      rw [decide_eq_false (HLE.out q hq4 hlt)] at hF
      rw [show ((1 + n + q : Nat) : Int) = 1 + (n : Int) + (q : Int) by omega] at hF
      have HF := hidden hF
      clear hF
      go_wp2_with fail
      refine HF.out.mono ?_
      rintro e w2 ⟨rfl, hw2⟩
      subst hw2
      go_wp2
      go_roundw
      case rel => exact ⟨q + 1, by omega, by omega, by go_num, trivial⟩
      case measure => simp [intOf]; omega
    · obtain rfl : q = P := by omega
      have hF := fillsUnits_c (1 + n + q) (by omega) wr HL.out
      rw [decide_eq_true HM.out] at hF
      rw [show ((1 + n + q : Nat) : Int) = 1 + (n : Int) + (q : Int) by omega] at hF
      have HF := hidden hF
      clear hF
      obtain ⟨wo, ewo⟩ : ∃ x, x = wr := ⟨wr, rfl⟩
      subst ewo
      go_wp2_with fail
      refine HF.out.mono ?_
      rintro e w2 ⟨rfl, hw2⟩
      subst hw2
      obtain ⟨Z, hm, hz⟩ := madeN q (by omega)
      have HZ := hidden hz
      clear hz HF
      have HX : Hid ((q : Int) = ((UInt8.ofNat q).toNat : Int)) := by
        show _ = _
        rw [UInt8.toNat_ofNat']
        omega
      have hq256 : (q : Int) % 256 = (q : Int) := by omega
      go_wp2_with fail
      refine (three_c w2 q (q : Int) Z _ p _ HX.out HZ.out (HV.out) (by have := HN.out; omega) (by omega)).mono ?_
      rintro e w5 ⟨v5, rfl, ho5⟩
      have HO := hidden ho5
      clear ho5
      go_wp2
      go_ret
      exact ⟨_, rfl, HO.out⟩

/-- A block without bytes holds no bytes of a slice. -/
theorem BSl.off {w : World} {v : Value} {xs : List UInt8} (h : BSl w v xs) (hne : xs ≠ []) {g : Nat} {cs : Array Value} {t : TypeId} {fr : Nat × Nat} (hg : w.heap[g]? = some (.cells cs t fr)) (hn : ∀ (i : Nat) (n : Int), cs[i]? ≠ some (.int .u8 n)) : v.ownBlock ≠ some g := by
  obtain ⟨b, o, cap, rfl, _⟩ := h.nonnil hne
  intro e
  have e' : b = g := by simpa [Value.ownBlock] using e
  subst e'
  have hc := h.cellAt 0 (List.length_pos_iff.2 hne)
  simp only [World.cell?, hg] at hc
  exact hn _ _ hc
theorem BSl.keepN {S : Nat → Prop} {w w' : World} {v : Value} {xs : List UInt8} (h : BSl w v xs) (hk : Keeps S w w') (hs : xs ≠ [] → ∀ k, v.ownBlock = some k → ¬ S k) : BSl w' v xs := by
  by_cases e : xs = []
  · subst e
    obtain ⟨ao, cap, h1, h2, h3, h4, h5⟩ := h
    exact ⟨ao, cap, h1, h2, h3, h4, fun _ _ h => absurd rfl h⟩
  · exact h.keep hk (hs e)
/-- An Out at block g: its key, in block kb, and how many packets it has made. -/
structure OutS (w : World) (g : Nat) (kb : Option Nat) (key : List UInt8) (c : Nat) : Prop where
  ex : ∃ kv, w.heap[g]? = some (.cells #[kv, .int .u64 (c : Int)] 63 (0, 0)) ∧ BSl w kv key ∧ kv.ownBlock = kb
  ne : kb ≠ some g
  lt : ∀ k, kb = some k → k < w.heap.size
  ok : KeyOk key
  le : c ≤ 1000000
theorem OutS.keep {S : Nat → Prop} {w w' : World} {g : Nat} {kb : Option Nat} {key : List UInt8} {c : Nat} (h : OutS w g kb key c) (hk : Keeps S w w') (hg : ¬ S g) (hkb : ∀ k, kb = some k → ¬ S k) : OutS w' g kb key c := by
  obtain ⟨⟨kv, h1, h2, rfl⟩, h3, h4, h5, h6⟩ := h
  exact ⟨⟨kv, (hk.block g (lt_of_block h1) hg).trans h1, h2.keep hk hkb, rfl⟩, h3, fun k e => Nat.lt_of_lt_of_le (h4 k e) hk.size, h5, h6⟩
theorem OutS.fresh {w w' : World} {g : Nat} {kb : Option Nat} {key : List UInt8} {c : Nat} (h : OutS w g kb key c) (hb : Below w.heap.size w w') : OutS w' g kb key c := h.keep (Keeps.ofFresh (S := fun _ => False) hb) (fun h => h) (fun _ _ h => h)
theorem OutS.blockLt {w : World} {g : Nat} {kb : Option Nat} {key : List UInt8} {c : Nat} (h : OutS w g kb key c) : g < w.heap.size := by
  obtain ⟨⟨kv, h1, _⟩, _⟩ := h
  exact lt_of_block h1
theorem OutS.line {w : World} {g : Nat} {kb : Option Nat} {key : List UInt8} {c : Nat} (h : OutS w g kb key c) : LineS w g key c := by
  obtain ⟨⟨kv, h1, h2, rfl⟩, h3, h4, h5, h6⟩ := h
  exact ⟨⟨kv, cell_row (cs := [kv, .int .u64 (c : Int)]) h1 0, cell_row (cs := [kv, .int .u64 (c : Int)]) h1 1, h2⟩, h5, h6⟩
set_option maxHeartbeats 400000 in
theorem newOut_c (w : World) : Calls Tryd.prog 10 #[] w fun e w' => e = .returned (.pointer (some ⟨w.heap.size, 0, none⟩)) ∧ OutS w' w.heap.size none [] 0 ∧ Below w.heap.size w w' := by
  have HO : Hid (OutS (w.alloc (.cells #[.slice none 0 0, .int .u64 0] 63)) w.heap.size none [] 0) := ⟨⟨_, heap_alloc_new w _, bsl_none _, rfl⟩, by simp, by simp, .inl rfl, by omega⟩
  go_enter Tryd.func10, Tryd.ntmps10
  go_wp2
  go_ret
  exact ⟨rfl, HO.out, (Below.refl _ w).alloc (Nat.le_refl _) _⟩
set_option maxHeartbeats 400000 in
theorem rightKey_c (v : Value) (xs : List UInt8) (w : World) (hv : BSl w v xs) : Calls Tryd.prog 33 #[v] w fun e w' => e = .returned (.bool (decide (xs.length = 32))) ∧ w' = w := by
  obtain ⟨ao, cap, rfl⟩ := hv.len
  have HE : Hid (((xs.length : Int) == 32) = decide (xs.length = 32)) := by
    show _ = _
    rw [Bool.eq_iff_iff]
    simp
    omega
  clear hv
  generalize xs.length = n at *
  go_enter Tryd.func33, Tryd.ntmps33
  go_wp2
  go_ret
  exact ⟨by rw [← HE.out]; rfl, rfl⟩
set_option maxHeartbeats 400000 in
theorem setKey_c (v : Value) (xs : List UInt8) (w : World) {g : Nat} {cs : List Value} {t : TypeId} {u : Value} (hg : w.heap[g]? = some (.cells cs.toArray t (0, 0))) (h0 : cs[0]? = some u) (hv : BSl w v xs) (hl : xs.length = 32) :
    Calls Tryd.prog 34 #[.pointer (some ⟨g, 0, none⟩), v] w fun e w' => e = .returned (.tuple #[]) ∧ ∃ w1 kv, Own w w1 kv xs ∧ w' = w1.setCell ⟨g, 0, none⟩ kv := by
  have HC := hidden (clone_c v xs w hv (by omega))
  have HG := hidden hg
  clear hv hg hl
  go_enter Tryd.func34, Tryd.ntmps34
  go_wp2_with fail
  refine HC.out.mono ?_
  rintro e w1 ⟨kv, rfl, ho⟩
  have hg1 : w1.heap[g]? = some (.cells cs.toArray t (0, 0)) := ((Keeps.ofFresh (S := fun _ => False) ho.b).block g (lt_of_block HG.out) (fun h => h)).trans HG.out
  have hc := cell_row hg1 0
  rw [h0] at hc
  have hf := frozen_row hg1 0
  have HO := hidden ho
  obtain ⟨ao, cp, rfl⟩ := ho.shape
  clear ho hg1 h0
  go_wp2
  go_end0
  exact ⟨rfl, _, _, HO.out, rfl⟩
theorem set2a {w : World} {a : Nat} {t : TypeId} {v0 v1 : Value} (h : w.heap[a]? = some (.cells #[v0, v1] t (0, 0))) (x : Value) : (w.setCell ⟨a, 0, none⟩ x).heap[a]? = some (.cells #[x, v1] t (0, 0)) := by
  rw [heap_setCell_same _ _ _ _ _ _ h]
  rfl
theorem set2b {w : World} {a : Nat} {t : TypeId} {v0 v1 : Value} (h : w.heap[a]? = some (.cells #[v0, v1] t (0, 0))) (x : Value) : (w.setCell ⟨a, 1, none⟩ x).heap[a]? = some (.cells #[v0, x] t (0, 0)) := by
  rw [heap_setCell_same _ _ _ _ _ _ h]
  rfl
theorem own_ge {w0 w : World} {v : Value} {xs : List UInt8} (h : Own w0 w v xs) : ∀ k, v.ownBlock = some k → w0.heap.size ≤ k ∧ k < w.heap.size := h.row.lt
set_option maxHeartbeats 400000 in
theorem outKeys_c (v : Value) (xs : List UInt8) (w : World) {g : Nat} {kb : Option Nat} {key : List UInt8} {c : Nat} (h : OutS w g kb key c) (hv : BSl w v xs) (hl : xs.length = 32) :
    Calls Tryd.prog 12 #[.pointer (some ⟨g, 0, none⟩), v] w fun e w' => e = .returned (.int .i64 0) ∧ ∃ kb', OutS w' g kb' xs c ∧ Keeps (fun k => k = g) w w' ∧ ∀ k, kb' = some k → w.heap.size ≤ k := by
  have HR := rightKey_c v xs w hv
  rw [decide_eq_true hl] at HR
  have HR := hidden HR
  obtain ⟨⟨kv, h1, h2, h3⟩, h4, h5, h6, h7⟩ := h
  have HSK := hidden (setKey_c v xs w (cs := [kv, .int .u64 (c : Int)]) h1 rfl hv hl)
  have H1 := hidden h1
  clear h1 h2 h3 h4 h5 h6 hv
  go_enter Tryd.func12, Tryd.ntmps12
  go_wp2_with fail
  refine HR.out.mono ?_
  rintro e w2 ⟨rfl, hw2⟩
  subst hw2
  go_wp2_with fail
  refine HSK.out.mono ?_
  rintro e w3 ⟨rfl, w1, kv', ho, rfl⟩
  have hg1 : w1.heap[g]? = some (.cells #[kv, .int .u64 (c : Int)] 63 (0, 0)) := ((Keeps.ofFresh (S := fun _ => False) ho.b).block g (lt_of_block H1.out) (fun h => h)).trans H1.out
  have hlt := lt_of_block H1.out
  have hkk : Keeps (fun k => k = g) w1 (w1.setCell ⟨g, 0, none⟩ kv') := (Keeps.refl (fun k => k = g) w1).setCell (p := ⟨g, 0, none⟩) (.inl rfl) _
  have HF : Hid (OutS (w1.setCell ⟨g, 0, none⟩ kv') g kv'.ownBlock xs c) := by
    refine ⟨⟨kv', set2a hg1 _, ho.bsl.keep hkk (fun k e hk => ?_), rfl⟩, fun e => ?_, fun k e => ?_, .inr hl, h7⟩
    · have := (own_ge ho k e).1; omega
    · have := (own_ge ho g e).1; omega
    · rw [World.size_setCell]; exact (own_ge ho k e).2
  have HK : Hid (Keeps (fun k => k = g) w2 (w1.setCell ⟨g, 0, none⟩ kv')) := (Keeps.ofFresh ho.b).trans hkk
  have HG := hidden (own_ge ho)
  clear ho hg1 hkk
  go_wp2
  go_ret
  exact ⟨rfl, _, HF.out, HK.out, fun k e => (HG.out k e).1⟩
set_option maxHeartbeats 400000 in
theorem outKeys_no (v : Value) (xs : List UInt8) (w : World) {g : Nat} (hv : BSl w v xs) (hl : xs.length ≠ 32) :
    Calls Tryd.prog 12 #[.pointer (some ⟨g, 0, none⟩), v] w fun e w' => e = .returned (.int .i64 1) ∧ w' = w := by
  have HR := rightKey_c v xs w hv
  rw [decide_eq_false hl] at HR
  have HR := hidden HR
  clear hv
  go_enter Tryd.func12, Tryd.ntmps12
  go_wp2_with fail
  refine HR.out.mono ?_
  rintro e w2 ⟨rfl, hw2⟩
  subst hw2
  go_wp2
  go_ret
  exact ⟨rfl, rfl⟩

/-- What Packet tells: a row of its own, and a count that is one more. -/
def PTold (w : World) (g : Nat) (kb : Option Nat) (key : List UInt8) (c : Nat) (p : List UInt8) (e : Ending) (w' : World) : Prop :=
  ∃ v, e = .returned (.tuple #[v, .int .i64 0]) ∧ w'.ownsRow w.heap.size 5 1 v (packetL key c p).length (bcells (packetL key c p)) ∧ OutS w' g kb key (c + 1) ∧ Keeps (fun k => k = g) w w'
theorem seal_k (w : World) {g : Nat} {key : List UInt8} {c : Nat} (h : LineS w g key c) (hcl : Cl w) (v1 v2 : Value) (p : List UInt8) (h1 : BSl w v1 (headP key p)) (h2 : BSl w v2 (bodyP key p)) (hp : p.length ≤ 9000) :
    Calls Tryd.prog 31 #[.pointer (some ⟨g, 0, none⟩), v1, v2] w fun e w' => Ex w w' ∧ ∃ v, e = .returned (.tuple #[v, .int .i64 0]) ∧ BSl w' v (restP key c p) := by
  have hr := padP_range key p.length
  refine (seal_c w h hcl v1 v2 _ _ h1 h2 (by rw [headP_length]; omega) (by rw [bodyP_length]; omega)).mono ?_
  rintro e w' ⟨hx, v, rfl, hb⟩
  refine ⟨hx, v, ?_, by rw [restP]; exact hb⟩
  by_cases hk : key = []
  · rw [if_pos hk]; rfl
  · rw [if_neg hk, sealE, if_pos (h.ok.sizes hk c)]; rfl
theorem two_c (w : World) (v0 v1 : Value) (xs ys : List UInt8) (hl : xs.length + ys.length ≤ 400000000) (h0 : BSl w v0 xs) (h1 : BSl w v1 ys) :
    Calls Tryd.prog 32 #[.slice (some ⟨w.heap.size, 0, none⟩) 2 2] (w.alloc (.cells #[v0, v1] 22)) fun e w' => ∃ v', e = .returned v' ∧ Own w w' v' (xs ++ ys) := by
  have hn := heap_alloc_new w (.cells #[v0, v1] 22)
  have b3 := (Below.refl w.heap.size w).alloc (Nat.le_refl _) (.cells #[v0, v1] 22)
  refine (concat2 w.heap.size v0 v1 xs ys hl _ ?_ ?_ (h0.fresh b3) (h1.fresh b3)).mono ?_
  · exact cell_row (cs := [v0, v1]) hn 0
  · exact cell_row (cs := [v0, v1]) hn 1
  · rintro e w' ⟨v', rfl, ho⟩
    exact ⟨v', rfl, Own.next b3 ho⟩
set_option maxHeartbeats 400000 in
set_option maxRecDepth 100000 in
theorem packet_c (v : Value) (p : List UInt8) (w : World) {g : Nat} {kb : Option Nat} {key : List UInt8} {c : Nat} (h : OutS w g kb key c) (hcl : Cl w) (hv : BSl w v p) (h1 : 1 ≤ p.length) (hp : p.length ≤ 9000) (hc : c + 1 ≤ 1000000) :
    Calls Tryd.prog 11 #[.pointer (some ⟨g, 0, none⟩), v] w fun e w' => PTold w g kb key c p e w' := by
  have HOS := hidden h
  have HCL := hidden hcl
  have HF := hidden (filled_c w h.line v p hv (by omega))
  obtain ⟨ao, cap, rfl⟩ := hv.len
  obtain ⟨n, hn⟩ : ∃ n, n = p.length := ⟨_, rfl⟩
  have HP := hidden hn
  have hz : ((n : Int) == 0) = false := by simp; omega
  have hz2 : ¬ (34000 : Int) < (n : Int) := by omega
  rw [← hn] at h1 hp HF ⊢
  have HK := hidden h.ok
  clear h hcl hv hn
  go_enter Tryd.func11, Tryd.ntmps11
  go_wp2_with fail
  refine HF.out.mono ?_
  rintro e w1 ⟨vb, rfl, hb⟩
  have HB := hidden hb
  obtain ⟨ab, cb, rfl⟩ := hb.shape
  have hbl := bodyP_length key p
  have hr := padP_range key p.length
  obtain ⟨L, hL⟩ : ∃ L, L = (bodyP key p).length := ⟨_, rfl⟩
  have hL9 : L ≤ 9100 := by have := HP.out; omega
  have hAN := appendNumber_c L 4 (by omega) (by omega) _ [] w1 w1 (Own.nothing w1) (by simp)
  rw [List.nil_append, hL] at hAN
  rw [show be 4 (bodyP key p).length = headP key p from rfl] at hAN
  rw [← hL] at hAN HB ⊢
  have HAN := hidden hAN
  clear hb hbl hr hAN HF hL
  go_wp2_with fail
  refine HAN.out.mono ?_
  rintro e w2 ⟨vh, rfl, hh⟩
  have HH := hidden hh
  have HB2 : Hid (Below w.heap.size w w2) := HB.out.b.trans (HH.out.b.mono HB.out.b.size)
  obtain ⟨ah, ch, rfl⟩ := hh.shape
  clear hh
  generalize (headP key p).length = m4 at HH ⊢
  clear HAN
  have HSL := hidden (seal_k w2 (HOS.out.fresh HB2.out).line (HCL.out.fresh HB2.out) _ _ p HH.out.bsl (HB.out.bsl.fresh HH.out.b) (by have := HP.out; omega))
  go_wp2_with fail
  refine HSL.out.mono ?_
  rintro e w3 ⟨hx3, vr, rfl, hr3⟩
  have HB3 : Hid (Below w.heap.size w w3) := HB2.out.trans (Below.mono hx3 HB2.out.size)
  have HR3 := hidden hr3
  have HH3 := hidden (HH.out.bsl.fresh hx3)
  have HO3 := hidden (HOS.out.fresh HB3.out)
  obtain ⟨ar, cr, rfl⟩ := hr3.len
  clear hr3 HSL
  generalize (restP key c p).length = m5 at HR3 ⊢
  clear hx3
  obtain ⟨⟨kv, g1, g2, g3⟩, _⟩ := id HO3.out
  have HG3 := hidden g1
  have hc1 := cell_row (cs := [kv, .int .u64 (c : Int)]) g1 1
  simp only [List.getElem?_cons_succ, List.getElem?_cons_zero] at hc1
  have hf1 := frozen_row g1 1
  clear g1 g2 g3
  have hcx : (c : Int) ≤ 999999 := by omega
  obtain ⟨w4, ew4⟩ : ∃ w4, w4 = w3.setCell ⟨g, 1, none⟩ (.int .u64 ((c : Int) + 1)) := ⟨_, rfl⟩
  have hk4 : Keeps (fun k => k = g) w3 w4 := by rw [ew4]; exact (Keeps.refl (fun k => k = g) w3).setCell (p := ⟨g, 1, none⟩) (.inl rfl) _
  have hnb : ∀ (i : Nat) (m : Int), (#[kv, .int .u64 (c : Int)] : Array Value)[i]? ≠ some (.int .u8 m) := by
    have hkv : ∃ a n c, kv = .slice a n c := by
      obtain ⟨⟨kv', q1, q2, _⟩, _⟩ := HO3.out
      rw [HG3.out] at q1
      simp at q1
      subst q1
      obtain ⟨a, c, e⟩ := q2.len
      exact ⟨_, _, _, e⟩
    obtain ⟨a, n, c', rfl⟩ := hkv
    intro i m
    match i with
    | 0 => simp
    | 1 => simp
    | i + 2 => simp
  have HR4 : Hid (BSl w4 (.slice ar m5 cr) (restP key c p)) := HR3.out.keepN hk4 fun hne k e hs => HR3.out.off hne HG3.out hnb (by rw [e, hs])
  have HH4 : Hid (BSl w4 (.slice ah m4 ch) (headP key p)) := HH3.out.keepN hk4 fun hne k e hs => HH3.out.off hne HG3.out hnb (by rw [e, hs])
  have HO4 : Hid (OutS w4 g kb key (c + 1)) := by
    obtain ⟨⟨kv', q1, q2, q3⟩, q4, q5, q6, q7⟩ := HO3.out
    rw [HG3.out] at q1
    simp at q1
    subst q1
    refine ⟨⟨kv, ?_, q2.keep hk4 (fun k e hs => q4 (by rw [← q3, e, hs])), q3⟩, q4, fun k e => by rw [ew4, World.size_setCell]; exact q5 k e, q6, hc⟩
    rw [ew4, set2b HG3.out]
    simp
  have HK4 : Hid (Keeps (fun k => k = g) w w4) := (Keeps.ofFresh HB3.out).trans hk4
  have hs4 : w4.heap.size = w3.heap.size := by rw [ew4, World.size_setCell]
  have HW4 := hidden ew4
  have HLN : Hid ((headP key p).length + (restP key c p).length ≤ 400000000) := by
    have h1 := restP_length HK.out c p
    have h2 := padP_range key p.length
    have h3 := HP.out
    have h4 : tagN key ≤ 16 := by unfold tagN; split <;> omega
    show _ ≤ _
    rw [h1, headP_length]
    omega
  have hTWO := two_c w4 _ _ _ _ HLN.out HH4.out HR4.out
  rw [hs4, ew4] at hTWO
  have HTWO := hidden hTWO
  clear hk4 hnb ew4 hs4 hc hTWO
  go_wp2_with fail
  refine HTWO.out.mono ?_
  rintro e w5 ⟨v5, rfl, ho5⟩
  rw [← HW4.out] at ho5
  have HFIN : Hid (PTold w g kb key c p (.returned (.tuple #[v5, .int .i64 0])) w5) := by
    refine ⟨v5, rfl, ?_, HO4.out.fresh ho5.b, HK4.out.trans (Keeps.ofFresh ho5.b)⟩
    have hr := ho5.row
    exact ⟨hr.1, hr.2.imp_right fun ⟨g, cap, cur, e1, e2, e3⟩ => ⟨g, cap, cur, e1, Nat.le_trans HK4.out.size e2, e3⟩⟩
  clear ho5
  go_wp2
  go_ret2
  exact HFIN.out
end Go.Proofs.YthkaibkmpenclaaDoor
