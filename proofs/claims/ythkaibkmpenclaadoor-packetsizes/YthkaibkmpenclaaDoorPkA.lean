/- Packets, plainly: what is framed, and what is read of bytes. -/
import Derived.Test.YthkaibkmpenclaaDoorAeP
namespace Go.Proofs.YthkaibkmpenclaaDoor
open Go Go.RowKit

/-- k bytes of n, the highest first. -/
def be : Nat → Nat → List UInt8
  | 0, _ => []
  | k + 1, n => UInt8.ofNat (n / 256 ^ k % 256) :: be k n
theorem be_length (k n : Nat) : (be k n).length = k := by
  induction k with
  | zero => rfl
  | succ k ih => simp [be, ih]
/-- The number whose bytes, the highest first, are these. -/
def val (xs : List UInt8) : Nat := xs.foldl (fun n b => n * 256 + b.toNat) 0
theorem val_be4 (n : Nat) (h : n ≤ 4294967295) : val (be 4 n) = n := by
  simp only [val, be, List.foldl_cons, List.foldl_nil, UInt8.toNat_ofNat', Nat.reducePow]
  omega
/-- A packet's nonce. -/
def nonceL (c : Nat) : List UInt8 := List.replicate 4 0 ++ be 8 c
theorem nonceL_length (c : Nat) : (nonceL c).length = 12 := by simp [nonceL, be_length]
/-- No key yet, or one of the right size. -/
def KeyOk (key : List UInt8) : Prop := key = [] ∨ key.length = 32
theorem KeyOk.sizes {key : List UInt8} (h : KeyOk key) (hne : key ≠ []) (c : Nat) : okSizes key (nonceL c) = true := ok_of (h.resolve_left hne) (nonceL_length c)
/-- How many bytes of the head are counted. -/
def hdN (key : List UInt8) : Nat := if key = [] then 4 else 0
/-- How many bytes stand behind. -/
def tagN (key : List UInt8) : Nat := if key = [] then 0 else 16
def padP (key : List UInt8) (n : Nat) : Nat := 4 + (8 - (hdN key + 1 + n + 4) % 8) % 8
theorem padP_range (key : List UInt8) (n : Nat) : 4 ≤ padP key n ∧ padP key n ≤ 11 := by unfold padP; omega
theorem padP_mod (key : List UInt8) (n : Nat) : (hdN key + (1 + n + padP key n)) % 8 = 0 := by unfold padP; omega
theorem padP_least (key : List UInt8) (n p : Nat) (h4 : 4 ≤ p) (h : p < padP key n) : (hdN key + (1 + n + p)) % 8 ≠ 0 := by unfold padP at h; omega
def bodyP (key p : List UInt8) : List UInt8 := UInt8.ofNat (padP key p.length) :: (p ++ List.replicate (padP key p.length) 0)
theorem bodyP_length (key p : List UInt8) : (bodyP key p).length = 1 + p.length + padP key p.length := by simp [bodyP]; omega
def headP (key p : List UInt8) : List UInt8 := be 4 (bodyP key p).length
theorem headP_length (key p : List UInt8) : (headP key p).length = 4 := be_length _ _
/-- What stands behind a packet's head. -/
def restP (key : List UInt8) (c : Nat) (p : List UInt8) : List UInt8 := if key = [] then bodyP key p else sealT key (nonceL c) (headP key p) (bodyP key p)
theorem restP_length {key : List UInt8} (hk : KeyOk key) (c : Nat) (p : List UInt8) : (restP key c p).length = 1 + p.length + padP key p.length + tagN key := by
  by_cases h : key = []
  · rw [restP, if_pos h, bodyP_length, tagN, if_pos h]; omega
  · rw [restP, if_neg h, sealT_length _ _ (hk.sizes h c), bodyP_length, tagN, if_neg h]
def packetL (key : List UInt8) (c : Nat) (p : List UInt8) : List UInt8 := headP key p ++ restP key c p
theorem packetL_length {key : List UInt8} (hk : KeyOk key) (c : Nat) (p : List UInt8) : (packetL key c p).length = 5 + p.length + padP key p.length + tagN key := by
  rw [packetL, List.length_append, headP_length, restP_length hk]; omega

/-- What is read of bytes. -/
inductive Nx where
  | short
  | bad (why : Nat)
  | told (p rest : List UInt8)
def lenOf (xs : List UInt8) : Nat := val (xs.take 4)
def lenE (key : List UInt8) (L : Nat) : Nat := if 35000 < L then 3 else if L < 6 ∨ (hdN key + L) % 8 ≠ 0 then 12 else 0
def bodyAt (key xs : List UInt8) : List UInt8 := (xs.drop 4).take (lenOf xs + tagN key)
def restAt (key xs : List UInt8) : List UInt8 := xs.drop (4 + lenOf xs + tagN key)
def openedE (key : List UInt8) (c : Nat) (xs : List UInt8) : Nat := if key = [] then 0 else openE key (nonceL c) (xs.take 4) (bodyAt key xs)
def openedT (key : List UInt8) (c : Nat) (xs : List UInt8) : List UInt8 := if key = [] then bodyAt key xs else openT key (nonceL c) (xs.take 4) (bodyAt key xs)
def payE (b : List UInt8) : Nat := if (b.getD 0 0).toNat < 4 ∨ b.length ≤ 1 + (b.getD 0 0).toNat then 12 else 0
def payL (b : List UInt8) : List UInt8 := (b.drop 1).take (b.length - (b.getD 0 0).toNat - 1)
def nextR (key : List UInt8) (c : Nat) (xs : List UInt8) : Nx :=
  if xs.length < 4 then .short
  else if lenE key (lenOf xs) ≠ 0 then .bad (lenE key (lenOf xs))
  else if xs.length < 4 + lenOf xs + tagN key then .short
  else if openedE key c xs ≠ 0 then .bad (openedE key c xs)
  else if payE (openedT key c xs) ≠ 0 then .bad (payE (openedT key c xs))
  else .told (payL (openedT key c xs)) (restAt key xs)

theorem head_len (key p : List UInt8) (hp : p.length ≤ 30000) (ys : List UInt8) : lenOf (headP key p ++ ys) = 1 + p.length + padP key p.length := by
  have h := padP_range key p.length
  rw [lenOf, List.take_left' (headP_length key p), headP, val_be4 _ (by rw [bodyP_length]; omega), bodyP_length]
theorem lenE_ok (key p : List UInt8) (h1 : 1 ≤ p.length) (hp : p.length ≤ 30000) : lenE key (1 + p.length + padP key p.length) = 0 := by
  have h := padP_range key p.length
  have hm := padP_mod key p.length
  rw [lenE, if_neg (by omega), if_neg (by omega)]
theorem pad_first (key p : List UInt8) : ((bodyP key p).getD 0 0).toNat = padP key p.length := by
  have h := padP_range key p.length
  simp only [bodyP, List.getD_cons_zero, UInt8.toNat_ofNat']
  omega
theorem payE_body (key p : List UInt8) (h1 : 1 ≤ p.length) : payE (bodyP key p) = 0 := by
  have h := padP_range key p.length
  rw [payE, pad_first, bodyP_length, if_neg (by omega)]
theorem payL_body (key p : List UInt8) : payL (bodyP key p) = p := by
  rw [payL, pad_first, bodyP_length, show 1 + p.length + padP key p.length - padP key p.length - 1 = p.length by omega]
  simp [bodyP]
theorem bodyAt_packet {key : List UInt8} (hk : KeyOk key) (c : Nat) (p : List UInt8) (hp : p.length ≤ 30000) (ys : List UInt8) : bodyAt key (packetL key c p ++ ys) = restP key c p := by
  rw [bodyAt, packetL, List.append_assoc, head_len key p hp, List.drop_left' (headP_length key p), List.take_left' (restP_length hk c p)]
theorem restAt_packet {key : List UInt8} (hk : KeyOk key) (c : Nat) (p : List UInt8) (hp : p.length ≤ 30000) (ys : List UInt8) : restAt key (packetL key c p ++ ys) = ys := by
  have hl : lenOf (packetL key c p ++ ys) = 1 + p.length + padP key p.length := by rw [packetL, List.append_assoc, head_len key p hp]
  rw [restAt, hl, List.drop_left' (by rw [packetL_length hk]; omega)]
theorem take4_packet (key : List UInt8) (c : Nat) (p ys : List UInt8) : (packetL key c p ++ ys).take 4 = headP key p := by
  rw [packetL, List.append_assoc, List.take_left' (headP_length key p)]
/-- A packet that is there as a whole is told. -/
theorem next_packet {key : List UInt8} (hk : KeyOk key) (c : Nat) (p : List UInt8) (h1 : 1 ≤ p.length) (hp : p.length ≤ 30000) (ys : List UInt8) : nextR key c (packetL key c p ++ ys) = .told p ys := by
  have hl := packetL_length hk c p
  have hlen : lenOf (packetL key c p ++ ys) = 1 + p.length + padP key p.length := by rw [packetL, List.append_assoc, head_len key p hp]
  have hE : openedE key c (packetL key c p ++ ys) = 0 := by
    rw [openedE]
    by_cases h : key = []
    · rw [if_pos h]
    · rw [if_neg h, take4_packet, bodyAt_packet hk c p hp, restP, if_neg h, open_seal _ _ (hk.sizes h c)]
  have hT : openedT key c (packetL key c p ++ ys) = bodyP key p := by
    rw [openedT]
    by_cases h : key = []
    · rw [if_pos h, bodyAt_packet hk c p hp, restP, if_pos h]
    · rw [if_neg h, take4_packet, bodyAt_packet hk c p hp, restP, if_neg h, open_text _ _ (hk.sizes h c)]
  have hxl : (packetL key c p ++ ys).length = 5 + p.length + padP key p.length + tagN key + ys.length := by rw [List.length_append, hl]
  rw [nextR, if_neg (by omega), hlen, lenE_ok key p h1 hp, if_neg (by simp), if_neg (by omega), hE, if_neg (by simp), hT, payE_body key p h1, if_neg (by simp), payL_body, restAt_packet hk c p hp]
/-- One that is not is waited for. -/
theorem next_short {key : List UInt8} (hk : KeyOk key) (c : Nat) (p : List UInt8) (h1 : 1 ≤ p.length) (hp : p.length ≤ 30000) (ys : List UInt8) (k : Nat) (h : k < (packetL key c p).length) : nextR key c ((packetL key c p ++ ys).take k) = .short := by
  have hl := packetL_length hk c p
  have hxl : ((packetL key c p ++ ys).take k).length = k := by rw [List.length_take, List.length_append]; omega
  rw [nextR, hxl]
  by_cases h4 : k < 4
  · rw [if_pos h4]
  · have hlen : lenOf ((packetL key c p ++ ys).take k) = 1 + p.length + padP key p.length := by
      rw [lenOf, List.take_take, show min 4 k = 4 by omega, take4_packet, headP, val_be4 _ (by have := padP_range key p.length; rw [bodyP_length]; omega), bodyP_length]
    rw [if_neg h4, hlen, lenE_ok key p h1 hp, if_neg (by simp), if_pos (by omega)]
/-- Both at once. -/
theorem next_take {key : List UInt8} (hk : KeyOk key) (c : Nat) (p : List UInt8) (h1 : 1 ≤ p.length) (hp : p.length ≤ 30000) (ys : List UInt8) (k : Nat) (h : (packetL key c p).length ≤ k) : nextR key c ((packetL key c p ++ ys).take k) = .told p (ys.take (k - (packetL key c p).length)) := by
  rw [List.take_append, List.take_of_length_le h, next_packet hk c p h1 hp]
/-- A sealed one whose sum is turned is refused. -/
theorem next_turned {key : List UInt8} (hk : key.length = 32) (c : Nat) (p : List UInt8) (h1 : 1 ≤ p.length) (hp : p.length ≤ 30000) (s ys : List UInt8) (hl : s.length = (bodyP key p).length + 16) (ht : s.take (bodyP key p).length = (restP key c p).take (bodyP key p).length) (hd : s.drop (bodyP key p).length ≠ (restP key c p).drop (bodyP key p).length) : nextR key c (headP key p ++ s ++ ys) = .bad 14 := by
  have hne : key ≠ [] := by intro e; rw [e] at hk; simp at hk
  have hko : KeyOk key := .inr hk
  have hok := hko.sizes hne c
  have hb := bodyP_length key p
  have hlen : lenOf (headP key p ++ s ++ ys) = 1 + p.length + padP key p.length := by rw [List.append_assoc, head_len key p hp]
  have htag : tagN key = 16 := by rw [tagN, if_neg hne]
  have hxl : (headP key p ++ s ++ ys).length = 4 + s.length + ys.length := by rw [List.length_append, List.length_append, headP_length]
  have hB : bodyAt key (headP key p ++ s ++ ys) = s := by
    rw [bodyAt, hlen, List.append_assoc, List.drop_left' (headP_length key p), List.take_left' (by omega)]
  rw [restP, if_neg hne, seal_take _ _ hok] at ht
  rw [restP, if_neg hne, seal_drop _ _ hok] at hd
  have hE : openedE key c (headP key p ++ s ++ ys) = 14 := by
    rw [openedE, if_neg hne, hB, List.append_assoc, List.take_left' (headP_length key p)]
    exact open_turned _ _ _ hok hl ht hd
  rw [nextR, if_neg (by omega), hlen, lenE_ok key p h1 hp, if_neg (by simp), if_neg (by omega), hE, if_pos (by simp)]
end Go.Proofs.YthkaibkmpenclaaDoor
