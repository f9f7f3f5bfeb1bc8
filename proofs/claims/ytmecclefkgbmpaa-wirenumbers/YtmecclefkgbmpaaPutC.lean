/- What put does, kind by kind. -/
import Derived.Test.YtmecclefkgbmpaaPutB
namespace Go.Proofs.Ytmecclefkgbmpaa
open Go Go.RowKit

/-- What a part writes. -/
def partBytes (k n : Int) (s : ByteArray) (ss : List ByteArray) : List UInt8 :=
  if k = 1 then [byteOf (wrap64 n)] else if k = 2 then [bit (n % 2 == 1)] else if k = 3 then be 4 (n % 4294967296).toNat else if k = 4 then be 8 n.toNat
  else if k = 5 then textBytes s.data.toList else if k = 6 then mpBytes s.data.toList else if k = 7 then textBytes (joined ss) else s.data.toList

structure PutIn (n : Int) (s : ByteArray) (l : Value) (ss : List ByteArray) (v : Value) (xs : List UInt8) (w : World) (base a : Nat) (g : Option Nat) (bs : List UInt8) : Prop where
  lo : 0 ≤ n
  hi : n < 18446744073709551616
  size : s.size ≤ 1000
  list : SSl w l ss
  join : (joined ss).length ≤ 10000
  len : ss.length ≤ 1000
  state : WS w base a g bs
  doc : BSl w v xs
  apart : v.ownBlock ≠ some a ∧ ∀ k, g = some k → v.ownBlock ≠ some k
  lapart : l.ownBlock ≠ some a ∧ ∀ k, g = some k → l.ownBlock ≠ some k
  blen : bs.length ≤ 1000000000
  xlen : xs.length ≤ 1000000000

def PutPost (w : World) (base a : Nat) (g : Option Nat) (bs xs pb : List UInt8) (e : Ending) (w' : World) : Prop :=
  ∃ v' g', e = .returned v' ∧ WS w' base a g' (bs ++ pb) ∧ BSl w' v' (xs ++ pb) ∧ (v'.ownBlock ≠ some a ∧ ∀ k, g' = some k → v'.ownBlock ≠ some k) ∧ Wrote a g g' w w' ∧ w'.ownsRow w.heap.size 5 1 v' (xs ++ pb).length (bcells (xs ++ pb))

theorem row_mono {w : World} {b0 b1 : Nat} {e : TypeId} {size : Nat} {v : Value} {n : Nat} {xs : List Value} (h : w.ownsRow b1 e size v n xs) (hb : b0 ≤ b1) : w.ownsRow b0 e size v n xs :=
  ⟨h.1, h.2.elim .inl fun ⟨g, cap, cur, h1, h2, h3⟩ => .inr ⟨g, cap, cur, h1, Nat.le_trans hb h2, h3⟩⟩

theorem put_end {w w1 w2 : World} {base a : Nat} {g g' : Option Nat} {bs xs pb : List UInt8} {e : Ending} (hw : WS w1 base a g' (bs ++ pb)) (hwr : Wrote a g g' w w1) (hf : Fresh w1 (xs ++ pb) e w2) : PutPost w base a g bs xs pb e w2 := by
  obtain ⟨v', rfl, ho, hb⟩ := hf
  have hlt := hw.lt
  refine ⟨v', g', rfl, hw.keep (S := fun _ => False) (Keeps.ofFresh hb) (fun h => h) (fun _ _ h => h), BSl.ofRow ho, ⟨fun e => ?_, fun k hk e => ?_⟩, ⟨hwr.keeps.trans (Keeps.ofFresh hb), hwr.row⟩, row_mono ho hwr.keeps.size⟩
  · have := (ho.lt _ e).1; omega
  · have h1 := (ho.lt _ e).1; have h2 := (hw.rowLt k hk).2; omega

/-- The boxed part, behind what the Writer wrote. -/
theorem box_kept {w w1 : World} {o : Obj} {base a : Nat} {g g' : Option Nat} {bs : List UInt8} (h : WS w base a g bs) (hwr : Wrote a g g' (w.alloc o) w1) : w1.heap[w.heap.size]? = some o := by
  rw [hwr.keeps.block w.heap.size (by simp) ?_]
  · exact heap_alloc_new w o
  · rintro (e | e)
    · have := h.lt; omega
    · have := (h.rowLt _ e).2; omega

theorem wrote_fresh {w w' w2 : World} {a : Nat} {g g' : Option Nat} (hb : Below w.heap.size w w') (h : Wrote a g g' w' w2) : Wrote a g g' w w2 :=
  ⟨(Keeps.ofFresh hb).trans h.keeps, h.row.elim .inl fun ⟨k, e, hk⟩ => .inr ⟨k, e, Nat.le_trans hb.size hk⟩⟩

set_option maxHeartbeats 800000 in
set_option maxRecDepth 100000 in
theorem put1_c {n : Int} {s : ByteArray} {l : Value} {ss : List ByteArray} {v : Value} {xs : List UInt8} {w : World} {base a : Nat} {g : Option Nat} {bs : List UInt8} (H : PutIn n s l ss v xs w base a g bs) :
    Calls Try.prog 18 #[.pointer (some ⟨a, 0, none⟩), v, part 1 n s l] w fun e w' => PutPost w base a g bs xs ([byteOf (wrap64 n)]) e w' := by
  obtain ⟨h0, h1, hs, hl, hjn, hN, h, hv, hap, hlap, hb1, hb2⟩ := H
  obtain ⟨ao, cap, rfl, _⟩ := id hl
  unfold part
  go_enter Try.func18, Try.ntmps18
  go_wp2_with fail
  refine (byte_c _ _ (h.alloc _) (by omega)).mono ?_
  rintro e w1 ⟨rfl, g1, hw1, hwr1⟩
  have hbox := box_kept h hwr1
  have hv1 := (hv.alloc _).wrote hwr1 hap
  have hwr2 := wrote_alloc hwr1
  have c1 := cell_of_row w1 _ 1 _ _ _ hbox
  simp at c1
  clear hwr1
  go_wp2_with fail
  refine (rbyte_c _ v xs _ hv1 (by omega)).mono ?_
  rintro e w2 hf
  have R : PutPost w base a g bs xs ([byteOf (wrap64 n)]) e w2 := put_end (hw1) hwr2 (hf)
  obtain ⟨v2, rfl, _, _⟩ := hf
  go_wp2
  go_ret
  exact R

set_option maxHeartbeats 800000 in
set_option maxRecDepth 100000 in
theorem put2_c {n : Int} {s : ByteArray} {l : Value} {ss : List ByteArray} {v : Value} {xs : List UInt8} {w : World} {base a : Nat} {g : Option Nat} {bs : List UInt8} (H : PutIn n s l ss v xs w base a g bs) :
    Calls Try.prog 18 #[.pointer (some ⟨a, 0, none⟩), v, part 2 n s l] w fun e w' => PutPost w base a g bs xs ([bit (n % 2 == 1)]) e w' := by
  obtain ⟨h0, h1, hs, hl, hjn, hN, h, hv, hap, hlap, hb1, hb2⟩ := H
  obtain ⟨ao, cap, rfl, _⟩ := id hl
  unfold part
  go_enter Try.func18, Try.ntmps18
  go_wp2_with fail
  refine (bool_c _ _ (h.alloc _) (by omega)).mono ?_
  rintro e w1 ⟨rfl, g1, hw1, hwr1⟩
  have hbox := box_kept h hwr1
  have hv1 := (hv.alloc _).wrote hwr1 hap
  have hwr2 := wrote_alloc hwr1
  have c1 := cell_of_row w1 _ 1 _ _ _ hbox
  simp at c1
  clear hwr1
  go_wp2_with fail
  refine (rbool_c _ v xs _ hv1 (by omega)).mono ?_
  rintro e w2 hf
  have R : PutPost w base a g bs xs ([bit (n % 2 == 1)]) e w2 := put_end (hw1) hwr2 (hf)
  obtain ⟨v2, rfl, _, _⟩ := hf
  go_wp2
  go_ret
  exact R

set_option maxHeartbeats 800000 in
set_option maxRecDepth 100000 in
theorem put3_c {n : Int} {s : ByteArray} {l : Value} {ss : List ByteArray} {v : Value} {xs : List UInt8} {w : World} {base a : Nat} {g : Option Nat} {bs : List UInt8} (H : PutIn n s l ss v xs w base a g bs) :
    Calls Try.prog 18 #[.pointer (some ⟨a, 0, none⟩), v, part 3 n s l] w fun e w' => PutPost w base a g bs xs (be 4 (n % 4294967296).toNat) e w' := by
  obtain ⟨h0, h1, hs, hl, hjn, hN, h, hv, hap, hlap, hb1, hb2⟩ := H
  obtain ⟨ao, cap, rfl, _⟩ := id hl
  unfold part
  go_enter Try.func18, Try.ntmps18
  go_wp2_with fail
  refine (u32_c _ (by omega) (by omega) _ (h.alloc _) (by omega)).mono ?_
  rintro e w1 ⟨rfl, g1, hw1, hwr1⟩
  have hbox := box_kept h hwr1
  have hv1 := (hv.alloc _).wrote hwr1 hap
  have hwr2 := wrote_alloc hwr1
  have c1 := cell_of_row w1 _ 1 _ _ _ hbox
  simp at c1
  clear hwr1
  go_wp2_with fail
  refine (ru32_c _ (by omega) (by omega) v xs _ hv1 (by omega)).mono ?_
  rintro e w2 hf
  have R : PutPost w base a g bs xs (be 4 (n % 4294967296).toNat) e w2 := put_end (hw1) hwr2 (hf)
  obtain ⟨v2, rfl, _, _⟩ := hf
  go_wp2
  go_ret
  exact R

set_option maxHeartbeats 800000 in
set_option maxRecDepth 100000 in
theorem put4_c {n : Int} {s : ByteArray} {l : Value} {ss : List ByteArray} {v : Value} {xs : List UInt8} {w : World} {base a : Nat} {g : Option Nat} {bs : List UInt8} (H : PutIn n s l ss v xs w base a g bs) :
    Calls Try.prog 18 #[.pointer (some ⟨a, 0, none⟩), v, part 4 n s l] w fun e w' => PutPost w base a g bs xs (be 8 n.toNat) e w' := by
  obtain ⟨h0, h1, hs, hl, hjn, hN, h, hv, hap, hlap, hb1, hb2⟩ := H
  obtain ⟨ao, cap, rfl, _⟩ := id hl
  unfold part
  go_enter Try.func18, Try.ntmps18
  go_wp2_with fail
  refine (u64_c _ (by omega) (by omega) _ (h.alloc _) (by omega)).mono ?_
  rintro e w1 ⟨rfl, g1, hw1, hwr1⟩
  have hbox := box_kept h hwr1
  have hv1 := (hv.alloc _).wrote hwr1 hap
  have hwr2 := wrote_alloc hwr1
  have c1 := cell_of_row w1 _ 1 _ _ _ hbox
  simp at c1
  clear hwr1
  go_wp2_with fail
  refine (ru64_c _ (by omega) (by omega) v xs _ hv1 (by omega)).mono ?_
  rintro e w2 hf
  have R : PutPost w base a g bs xs (be 8 n.toNat) e w2 := put_end (hw1) hwr2 (hf)
  obtain ⟨v2, rfl, _, _⟩ := hf
  go_wp2
  go_ret
  exact R

set_option maxHeartbeats 800000 in
set_option maxRecDepth 100000 in
theorem put5_c {n : Int} {s : ByteArray} {l : Value} {ss : List ByteArray} {v : Value} {xs : List UInt8} {w : World} {base a : Nat} {g : Option Nat} {bs : List UInt8} (H : PutIn n s l ss v xs w base a g bs) :
    Calls Try.prog 18 #[.pointer (some ⟨a, 0, none⟩), v, part 5 n s l] w fun e w' => PutPost w base a g bs xs (textBytes s.data.toList) e w' := by
  obtain ⟨h0, h1, hs, hl, hjn, hN, h, hv, hap, hlap, hb1, hb2⟩ := H
  obtain ⟨ao, cap, rfl, _⟩ := id hl
  unfold part
  go_enter Try.func18, Try.ntmps18
  go_wp2_with fail
  refine (text_c s (by omega) _ (h.alloc _) (by omega)).mono ?_
  rintro e w1 ⟨rfl, g1, hw1, hwr1⟩
  have hbox := box_kept h hwr1
  have hv1 := (hv.alloc _).wrote hwr1 hap
  have hwr2 := wrote_alloc hwr1
  have c2 := cell_of_row w1 _ 2 _ _ _ hbox
  simp at c2
  clear hwr1
  go_wp2_with fail
  refine (rtext_c s (by omega) v xs _ hv1 (by omega)).mono ?_
  rintro e w2 hf
  have R : PutPost w base a g bs xs (textBytes s.data.toList) e w2 := put_end (hw1) hwr2 (hf)
  obtain ⟨v2, rfl, _, _⟩ := hf
  go_wp2
  go_ret
  exact R

set_option maxHeartbeats 800000 in
set_option maxRecDepth 100000 in
theorem put7_c {n : Int} {s : ByteArray} {l : Value} {ss : List ByteArray} {v : Value} {xs : List UInt8} {w : World} {base a : Nat} {g : Option Nat} {bs : List UInt8} (H : PutIn n s l ss v xs w base a g bs) :
    Calls Try.prog 18 #[.pointer (some ⟨a, 0, none⟩), v, part 7 n s l] w fun e w' => PutPost w base a g bs xs (textBytes (joined ss)) e w' := by
  obtain ⟨h0, h1, hs, hl, hjn, hN, h, hv, hap, hlap, hb1, hb2⟩ := H
  obtain ⟨ao, cap, rfl, _⟩ := id hl
  unfold part
  have hl2 : SSl (w.alloc (.cells #[.int .i64 7, .int .u64 n, .string s, .slice ao ss.length cap] 34)) (.slice ao ss.length cap) ss := hl.keep (S := fun _ => False) ((Keeps.refl _ _).alloc _) fun _ _ h => h
  go_enter Try.func18, Try.ntmps18
  go_wp2_with fail
  refine (names_c _ ss _ hl2 (by omega) (by omega) (h.alloc _) (by omega)).mono ?_
  rintro e w1 ⟨rfl, g1, hw1, hwr1⟩
  have hbox := box_kept h hwr1
  have hv1 := (hv.alloc _).wrote hwr1 hap
  have hwr2 := wrote_alloc hwr1
  have c3 := cell_of_row w1 _ 3 _ _ _ hbox
  simp at c3
  have hl3 := hl2.keep hwr1.keeps fun k hk hS => hS.elim (fun e => hlap.1 (by rw [hk, e])) (fun e => hlap.2 k e hk)
  go_wp2_with fail
  refine (rnames_c _ ss v xs _ hv1 hl3 (by omega) (by omega)).mono ?_
  rintro e w2 hf
  have R : PutPost w base a g bs xs (textBytes (joined ss)) e w2 := put_end (hw1) hwr2 (hf)
  obtain ⟨v2, rfl, _, _⟩ := hf
  go_wp2
  go_ret
  exact R

set_option maxHeartbeats 800000 in
set_option maxRecDepth 100000 in
theorem put6_c {n : Int} {s : ByteArray} {l : Value} {ss : List ByteArray} {v : Value} {xs : List UInt8} {w : World} {base a : Nat} {g : Option Nat} {bs : List UInt8} (H : PutIn n s l ss v xs w base a g bs) :
    Calls Try.prog 18 #[.pointer (some ⟨a, 0, none⟩), v, part 6 n s l] w fun e w' => PutPost w base a g bs xs (mpBytes s.data.toList) e w' := by
  obtain ⟨h0, h1, hs, hl, hjn, hN, h, hv, hap, hlap, hb1, hb2⟩ := H
  obtain ⟨ao, cap, rfl, _⟩ := id hl
  unfold part
  have hcv := run_bytes s
  go_enter Try.func18, Try.ntmps18
  go_wp2_with fail
  have hW := bytesW_below (w.alloc (.cells #[.int .i64 6, .int .u64 n, .string s, .slice ao ss.length cap] 34)) s
  have hwB := (h.alloc (.cells #[.int .i64 6, .int .u64 n, .string s, .slice ao ss.length cap] 34)).keep (S := fun _ => False) (Keeps.ofFresh hW) (fun h => h) (fun _ _ h => h)
  have hvB := bytes_bsl (w.alloc (.cells #[.int .i64 6, .int .u64 n, .string s, .slice ao ss.length cap] 34)) s (by omega)
  have hsz : s.data.toList.length = s.size := by rw [Array.length_toList]; rfl
  have hapB : (bytesV (w.alloc (.cells #[.int .i64 6, .int .u64 n, .string s, .slice ao ss.length cap] 34)) s).ownBlock ≠ some a ∧ ∀ k, g = some k → (bytesV (w.alloc (.cells #[.int .i64 6, .int .u64 n, .string s, .slice ao ss.length cap] 34)) s).ownBlock ≠ some k := by
    have h1 := h.lt
    refine ⟨by simp [bytesV, Value.ownBlock]; omega, fun k e h2 => ?_⟩
    have := (h.rowLt k e).2
    simp [bytesV, Value.ownBlock] at h2
    omega
  refine (mpint_c _ s.data.toList (by omega) _ hvB hwB hapB (by omega)).mono ?_
  rintro e w1 ⟨rfl, g1, hw1, hwr1⟩
  have hwr2 := wrote_fresh hW hwr1
  have hbox := box_kept h hwr2
  have hv1 := (hv.alloc _).wrote hwr2 hap
  have hwr3 := wrote_alloc hwr2
  have c2 := cell_of_row w1 _ 2 _ _ _ hbox
  simp at c2
  clear hwr1 hwr2 hW hwB hvB hapB
  go_wp2_with fail
  have hvC := bytes_bsl w1 s (by omega)
  have hbC := bytesW_below w1 s
  have hv2 := hv1.fresh hbC
  refine (rmpint_c _ s.data.toList (by omega) v xs _ hv2 hvC (by omega)).mono ?_
  rintro e w2 hf
  have R : PutPost w base a g bs xs (mpBytes s.data.toList) e w2 := put_end (hw1) hwr3 (Fresh.next hbC hf)
  obtain ⟨v2, rfl, _, _⟩ := hf
  go_wp2
  go_ret
  exact R

end Go.Proofs.Ytmecclefkgbmpaa
