/- The calls, of a tree of one's own; the chapter's run. -/
import Derived.Test.YtnigfnikajejaabTmS
namespace Go.Proofs.Ytnigfnikajejaab
open Go Go.RowKit

section
variable {w : World} {R : Nat → Role} {a : Nat} {S : Tr} {base : Nat}
theorem make_t (H : TS base w R a S) (hb : base ≤ w.heap.size) (v : Value) (p : List Nm) (hv : SSl w v p) (hvR : ∀ k, v.ownBlock = some k → R k = .no) (dir : Bool) (hnx : S.next ≤ 9000000000000000000) :
    Calls Try.prog 7 #[.pointer (some ⟨a, 0, none⟩), v, .bool dir] w (TSPost base w a (makeT S p dir).2 (.tuple #[.int .i64 (makeT S p dir).1.1, .int .i64 (makeT S p dir).1.2]) R) := by
  obtain ⟨⟨B, dv, hv', tv, hx⟩, ⟨pa, nm, o⟩, hR⟩ := H
  exact (make_c hx o v p hv hvR dir hnx).mono fun e w' h => h.ts hR hb (o.makes p dir)
theorem rename_t (H : TS base w R a S) (hb : base ≤ w.heap.size) (v1 v2 : Value) (p q : List Nm) (h1 : SSl w v1 p) (h2 : SSl w v2 q) (hvR : ∀ k, v2.ownBlock = some k → R k = .no) :
    Calls Try.prog 15 #[.pointer (some ⟨a, 0, none⟩), v1, v2] w (TSPost base w a (renameT S p q).2 (.int .i64 (renameT S p q).1) R) := by
  obtain ⟨⟨B, dv, hv', tv, hx⟩, ⟨pa, nm, o⟩, hR⟩ := H
  exact (rename_c hx o v1 v2 p q h1 h2 hvR).mono fun e w' h => h.ts hR hb (o.renames p q)
theorem write_t (H : TS base w R a S) (hb : base ≤ w.heap.size) (i : Int) (k : Nat) (hk : k ≤ 18446744073709551615) (vb : Value) (b : List UInt8) (hvb : BSl w vb b) (hbl : b.length ≤ 1000000000) (hvR : b ≠ [] → ∀ j, vb.ownBlock = some j → R j = .no) :
    Calls Try.prog 8 #[.pointer (some ⟨a, 0, none⟩), .int .i64 i, .int .u64 k, vb] w (TSPost base w a (writeT S i k b).2 (.int .i64 (writeT S i k b).1) R) := by
  obtain ⟨⟨B, dv, hv', tv, hx⟩, ⟨pa, nm, o⟩, hR⟩ := H
  exact (write_c hx o i k hk vb b hvb hbl hvR).mono fun e w' h => h.ts hR hb ⟨pa, nm, o.write i k b⟩
theorem look_t (H : TS base w R a S) (v : Value) (p : List Nm) (hv : SSl w v p) :
    Calls Try.prog 18 #[.pointer (some ⟨a, 0, none⟩), v] w fun e w' => e = .returned (.tuple #[.int .i64 (lookT S p).1, .int .i64 (lookT S p).2]) ∧ Below w.heap.size w w' := by
  obtain ⟨⟨B, dv, hv', tv, hx⟩, ⟨pa, nm, o⟩, hR⟩ := H
  exact look_c hx o v p hv
theorem read_t (H : TS base w R a S) (i : Int) (k n : Nat) (hk : k ≤ 18446744073709551615) (hn : n ≤ 4294967295) :
    Calls Try.prog 17 #[.pointer (some ⟨a, 0, none⟩), .int .i64 i, .int .u64 k, .int .u32 n] w (ReadPost w (readT S i k n)) := by
  obtain ⟨⟨B, dv, hv', tv, hx⟩, ⟨pa, nm, o⟩, hR⟩ := H
  exact read_c hx o i k n hk hn
theorem attrs_t (H : TS base w R a S) (i : Int) : Calls Try.prog 30 #[.pointer (some ⟨a, 0, none⟩), .int .i64 i] w fun e w' => e = .returned (.tuple #[(attrsT S i).1.v, .int .i64 (attrsT S i).2]) ∧ Below w.heap.size w w' := by
  obtain ⟨⟨B, dv, hv', tv, hx⟩, ⟨pa, nm, o⟩, hR⟩ := H
  exact attrs_c hx o i

def nmA : Nm := ⟨#[97]⟩
def nmB : Nm := ⟨#[98]⟩
def trA : Tr := (makeT newTr [nmA] true).2
def trB : Tr := (makeT trA [nmA, nmB] false).2
theorem trA_ans : (makeT newTr [nmA] true).1 = (1, 0) := by kernel_rfl
theorem trB_ans : (makeT trA [nmA, nmB] false).1 = (2, 0) := by kernel_rfl
theorem trB_rem : removeT trB [nmA] true = (27, trB) := by kernel_rfl
theorem trB_len : trB.ths.length = 3 := by kernel_rfl
theorem trA_next : trA.next = 2 := by kernel_rfl
set_option maxHeartbeats 2000000 in
set_option maxRecDepth 100000 in
theorem known_c (w : World) : Calls Try.prog 12 #[] w fun e w' => e = .returned (.bool true) ∧ Below w.heap.size w w' := by
  go_enter Try.func12, Try.ntmps12
  go_wp2_with fail
  refine (new_c w).mono ?_
  rintro e w1 ⟨R1, a, rfl, ht1, hb1⟩
  have HT1 := hidden ht1
  have HB1 := hidden hb1
  clear ht1 hb1
  go_wp2_with fail
  have hs1 := HB1.out.size
  have htA := HT1.out.still ((Keeps.refl (fun _ => False) w1).alloc (.cells #[.string ⟨#[97]⟩] 9))
  have hmk1 := make_t htA (by simp; omega) _ [nmA] (ssl_lit w1 [nmA] (by decide)) (fun k e => by cases e; exact HT1.out.lim _ (Nat.le_refl _)) true (by decide)
  rw [trA_ans] at hmk1
  refine hmk1.mono ?_
  rintro e w2 ⟨rfl, R2, ht2, hm2⟩
  have HT2 : Hid (TS w.heap.size w2 R2 a trA) := ht2
  have HB2 : Hid (Below w.heap.size w w2) := (HB1.out.alloc hs1 _).trans (hm2.below HT1.out.2.2 (by simp; omega))
  clear ht2 hm2 htA hmk1 hs1
  go_wp2_with fail
  have hs2 := HB2.out.size
  have htB := HT2.out.still ((Keeps.refl (fun _ => False) w2).alloc (.cells #[.string ⟨#[97]⟩, .string ⟨#[98]⟩] 9))
  have hmk2 := make_t htB (by simp; omega) _ [nmA, nmB] (ssl_lit w2 [nmA, nmB] (by decide)) (fun k e => by cases e; exact HT2.out.lim _ (Nat.le_refl _)) false (by rw [trA_next]; decide)
  rw [trB_ans] at hmk2
  refine hmk2.mono ?_
  rintro e w3 ⟨rfl, R3, ht3, hm3⟩
  have HT3 : Hid (TS w.heap.size w3 R3 a trB) := ht3
  have HB3 : Hid (Below w.heap.size w w3) := (HB2.out.alloc hs2 _).trans (hm3.below HT2.out.2.2 (by simp; omega))
  clear ht3 hm3 htB hmk2 hs2
  go_wp2_with fail
  have hs3 := HB3.out.size
  have htC := HT3.out.still ((Keeps.refl (fun _ => False) w3).alloc (.cells #[.string ⟨#[97]⟩] 9))
  have hrm : Calls Try.prog 14 #[.pointer (some ⟨a, 0, none⟩), .slice (some ⟨w3.heap.size, 0, none⟩) 1 1, .bool true] (w3.alloc (.cells #[.string ⟨#[97]⟩] 9)) (TSPost w.heap.size (w3.alloc (.cells #[.string ⟨#[97]⟩] 9)) a trB (.int .i64 27) R3) := by
    obtain ⟨⟨B, dv, hv', tv, hx⟩, ⟨pa, nm, o⟩, hR⟩ := htC
    have h := remove_c hx o _ [nmA] (ssl_lit w3 [nmA] (by decide)) true
    rw [trB_rem] at h
    exact h.mono fun e w' h => h.ts hR (by simp; omega) ⟨pa, nm, o⟩
  refine hrm.mono ?_
  rintro e w4 ⟨rfl, R4, ht4, hm4⟩
  have HT4 : Hid (TS w.heap.size w4 R4 a trB) := ht4
  have HB4 : Hid (Below w.heap.size w w4) := (HB3.out.alloc hs3 _).trans (hm4.below HT3.out.2.2 (by simp; omega))
  clear ht4 hm4 htC hrm hs3
  go_wp2_with fail
  refine (count_c HT4.out.1).mono ?_
  rintro e wq ⟨rfl, hq⟩; obtain rfl := hq.symm; clear hq
  rw [trB_len]
  go_wp2_with fail
  go_ret
  exact ⟨rfl, HB4.out⟩
end
end Go.Proofs.Ytnigfnikajejaab
