/- Calls that PacketNumbers makes and no other law does. -/
import Derived.Test.YthkaibkmpenclaaDoorPke
namespace Go.Proofs.YthkaibkmpenclaaDoor
open Go Go.RowKit

set_option maxHeartbeats 400000 in
set_option maxRecDepth 100000 in
theorem packet_long (v : Value) (p : List UInt8) (w : World) (g : Nat) (hv : BSl w v p) (hl : 34000 < p.length) (hl2 : p.length ≤ 1000000) :
    Calls Tryd.prog 11 #[.pointer (some ⟨g, 0, none⟩), v] w fun e w' => e = .returned (.tuple #[.slice none 0 0, .int .i64 3]) ∧ w' = w := by
  obtain ⟨ao, cap, rfl⟩ := hv.len
  obtain ⟨n, hn⟩ : ∃ n, n = p.length := ⟨_, rfl⟩
  rw [← hn] at hl hl2 ⊢
  have h1 : ((n : Int) == 0) = false := by simp; omega
  have h2 : (34000 : Int) < (n : Int) := by omega
  clear hv hn
  go_enter Tryd.func11, Tryd.ntmps11
  go_wp2
  go_ret2
  exact ⟨rfl, rfl⟩
set_option maxHeartbeats 400000 in
theorem inKeys_no (v : Value) (xs : List UInt8) (w : World) {g : Nat} (hv : BSl w v xs) (hl : xs.length ≠ 32) :
    Calls Tryd.prog 16 #[.pointer (some ⟨g, 0, none⟩), v] w fun e w' => e = .returned (.int .i64 1) ∧ w' = w := by
  have HR := rightKey_c v xs w hv
  rw [decide_eq_false hl] at HR
  have HR := hidden HR
  clear hv
  go_enter Tryd.func16, Tryd.ntmps16
  go_wp2_with fail
  refine HR.out.mono ?_
  rintro e w2 ⟨rfl, hw2⟩
  subst hw2
  go_wp2
  go_ret
  exact ⟨rfl, rfl⟩
set_option maxHeartbeats 400000 in
theorem inKeys_dead (v : Value) (ks : List UInt8) (w : World) {g h : Nat} {kb : Option Nat} {key : List UInt8} {c : Nat} {xs : List UInt8} {why : Nat} (i : InS w g h kb key c xs why) (hw : why ≠ 0) (hv : BSl w v ks) (hl : ks.length = 32) :
    Calls Tryd.prog 16 #[.pointer (some ⟨g, 0, none⟩), v] w fun e w' => e = .returned (.int .i64 0) ∧ w' = w := by
  have HR := rightKey_c v ks w hv
  rw [decide_eq_true hl] at HR
  have HR := hidden HR
  obtain ⟨⟨kv, hv0, ps, h1, h2, hkb, h3, h4⟩, h5, h6, h7, h8, h9⟩ := i
  obtain ⟨c0, c1, c2, c3, c4, hf⟩ := cells5 h1
  have hy : ((why : Int) == 0) = false := by simp; omega
  clear h1 h2 hv hkb h3 c0 c1 c2 c3 hf
  go_enter Tryd.func16, Tryd.ntmps16
  go_wp2_with fail
  refine HR.out.mono ?_
  rintro e w2 ⟨rfl, hw2⟩
  subst hw2
  go_wp2
  go_ret
  exact ⟨rfl, rfl⟩
/-- In.Keys of a right key, whatever the In refused. -/
theorem inKeys_any {W W0 w : World} {xb gi gr M N : Nat} (B : BI W W0 w xb gi gr M N) (v : Value) (ks : List UInt8) (hv : BSl w v ks) (hl : ks.length = 32) :
    Calls Tryd.prog 16 #[.pointer (some ⟨gi, 0, none⟩), v] w fun e w' => e = .returned (.int .i64 0) ∧ Below W.heap.size W w' := by
  obtain ⟨⟨h, ki, kr, br, k1, k2, c1, c2, xs, why, a1, a2, a3, a4, a5, a6, a7, a8, a9⟩, b, kp, ne, lo⟩ := B
  by_cases hw : why = 0
  · subst hw
    refine (inKeys_c v ks w a1 hv hl).mono ?_
    rintro e w' ⟨rfl, kb', _, hm⟩
    exact ⟨rfl, b.trans (hm.keeps.below b.size (fun k e => by rcases e with rfl | rfl <;> omega))⟩
  · refine (inKeys_dead v ks w a1 hw hv hl).mono ?_
    rintro e w' ⟨rfl, rfl⟩
    exact ⟨rfl, b⟩

theorem lit_step {w : World} (s : Nat) (hs : w.heap.size = s) (xs : List UInt8) (hl : xs.length ≤ 1000) :
    BSl (w.alloc (.cells (bcells xs).toArray 5)) (.slice (some ⟨s, 0, none⟩) xs.length xs.length) xs ∧ Below w.heap.size w (w.alloc (.cells (bcells xs).toArray 5)) ∧ (w.alloc (.cells (bcells xs).toArray 5)).heap.size = s + 1 := by
  subst hs
  exact ⟨BSl.ofBlock (heap_alloc_new w _) (by omega), (Below.refl _ w).alloc (Nat.le_refl _) _, by simp⟩
theorem app_step {w : World} (s : Nat) (hs : w.heap.size = s) (c : Nat) (hc : 28 ≤ c) (hc2 : c ≤ maxLen) :
    BSl (w.alloc (.cells (#[.int .u8 0, .int .u8 0, .int .u8 0, .int .u8 8] ++ (Builtin.zeroCells #[.int .u8 0] 24 ++ Builtin.zeroCells #[.int .u8 0] (c - 28))) 5)) (.slice (some ⟨s, 0, none⟩) 28 c) ([0, 0, 0, 8] ++ List.replicate 24 0) ∧ Below w.heap.size w (w.alloc (.cells (#[.int .u8 0, .int .u8 0, .int .u8 0, .int .u8 8] ++ (Builtin.zeroCells #[.int .u8 0] 24 ++ Builtin.zeroCells #[.int .u8 0] (c - 28))) 5)) ∧ (w.alloc (.cells (#[.int .u8 0, .int .u8 0, .int .u8 0, .int .u8 8] ++ (Builtin.zeroCells #[.int .u8 0] 24 ++ Builtin.zeroCells #[.int .u8 0] (c - 28))) 5)).heap.size = s + 1 := by
  subst hs
  refine ⟨BSl.ofRow (base := 0) (n := 28) ⟨by rw [bcells_length]; simp, .inr ⟨w.heap.size, c, _, rfl, Nat.zero_le _, heap_alloc_new w _, hc, hc2, ?_, ?_⟩⟩, (Below.refl _ w).alloc (Nat.le_refl _) _, by simp⟩
  · simp only [Array.size_append, size_zeroCells]
    simp
    omega
  · simp only [Array.toList_append, zeroCells_bytes]
    rw [← List.append_assoc, show ([Value.int .u8 0, .int .u8 0, .int .u8 0, .int .u8 8] : List Value) = bcells [0, 0, 0, 8] from rfl, ← bcells_append]
    have h : (bcells ([0, 0, 0, 8] ++ List.replicate 24 0)).length = 28 * 1 := by rw [bcells_length]; simp
    rw [← h]
    exact List.take_left
def lits (wr : World) : World := ((((((((((((((wr.alloc (.cells (bcells [0, 0, 0]).toArray 5)).alloc (.cells (bcells [0, 0, 0, 5]).toArray 5)).alloc (.cells (bcells [0, 0, 0, 6]).toArray 5)).alloc (.cells (bcells [0, 0, 0, 8]).toArray 5)).alloc (.cells (bcells [0, 0, 0, 12, 4, 5, 6, 7, 8, 9, 10, 11, 12, 13, 14, 15]).toArray 5)).alloc (.cells (bcells [0, 0, 0, 12, 3, 5, 6, 7, 8, 9, 10, 11, 12, 13, 14, 15]).toArray 5)).alloc (.cells (bcells [0, 0, 0, 12, 11, 5, 6, 7, 8, 9, 10, 11, 12, 13, 14, 15]).toArray 5)).alloc (.cells (bcells [0, 0, 0, 12, 10, 5, 6, 7, 8, 9, 10, 11, 12, 13, 14, 15]).toArray 5)).alloc (.cells (bcells [0, 0, 136, 185]).toArray 5)).alloc (.cells (bcells [0, 0, 136, 184]).toArray 5)).alloc (.cells (bcells [255, 255, 255, 255, 1]).toArray 5)).alloc (.cells (bcells [0, 0, 0, 8]).toArray 5)).alloc (.cells (#[.int .u8 0, .int .u8 0, .int .u8 0, .int .u8 8] ++ (Builtin.zeroCells #[.int .u8 0] 24 ++ Builtin.zeroCells #[.int .u8 0] ((grownCap wr 28 4 5) - 28))) 5)).alloc (.cells #[.slice (some ⟨wr.heap.size, 0, none⟩) 3 3, .slice (some ⟨wr.heap.size + 1, 0, none⟩) 4 4, .slice (some ⟨wr.heap.size + 1 + 1, 0, none⟩) 4 4, .slice (some ⟨wr.heap.size + 1 + 1 + 1, 0, none⟩) 4 4, .slice (some ⟨wr.heap.size + 1 + 1 + 1 + 1, 0, none⟩) 16 16, .slice (some ⟨wr.heap.size + 1 + 1 + 1 + 1 + 1, 0, none⟩) 16 16, .slice (some ⟨wr.heap.size + 1 + 1 + 1 + 1 + 1 + 1, 0, none⟩) 16 16, .slice (some ⟨wr.heap.size + 1 + 1 + 1 + 1 + 1 + 1 + 1, 0, none⟩) 16 16, .slice (some ⟨wr.heap.size + 1 + 1 + 1 + 1 + 1 + 1 + 1 + 1, 0, none⟩) 4 4, .slice (some ⟨wr.heap.size + 1 + 1 + 1 + 1 + 1 + 1 + 1 + 1 + 1, 0, none⟩) 4 4, .slice (some ⟨wr.heap.size + 1 + 1 + 1 + 1 + 1 + 1 + 1 + 1 + 1 + 1, 0, none⟩) 5 5, .slice (some ⟨wr.heap.size + 1 + 1 + 1 + 1 + 1 + 1 + 1 + 1 + 1 + 1 + 1 + 1, 0, none⟩) 28 (grownCap wr 28 4 5)] 22)).drew
set_option maxHeartbeats 1600000 in
theorem lits_c (wr : World) : Below wr.heap.size wr (lits wr) ∧ ∀ j, j < 12 → ∃ (xb n cap : Nat) (us : List UInt8), (lits wr).cell? ⟨wr.heap.size + 1 + 1 + 1 + 1 + 1 + 1 + 1 + 1 + 1 + 1 + 1 + 1 + 1, j, none⟩ = some (.slice (some ⟨xb, 0, none⟩) n cap) ∧ BSl (lits wr) (.slice (some ⟨xb, 0, none⟩) n cap) us ∧ us.length ≤ 28 ∧ xb < (lits wr).heap.size := by
  have hc1 := grownCap_ge wr 28 4 5
  have hc2 := grownCap_le_maxLen wr 28 4 5 (by simp [maxLen])
  unfold lits
  generalize grownCap wr 28 4 5 = c at hc1 hc2 ⊢
  obtain ⟨b0, q0, s0⟩ := lit_step (w := wr) (wr.heap.size) rfl [0, 0, 0] (by decide)
  generalize wr.alloc (.cells (bcells [0, 0, 0]).toArray 5) = w1 at b0 q0 s0 ⊢
  obtain ⟨b1, q1, s1⟩ := lit_step (w := w1) (wr.heap.size + 1) s0 [0, 0, 0, 5] (by decide)
  generalize w1.alloc (.cells (bcells [0, 0, 0, 5]).toArray 5) = w2 at b1 q1 s1 ⊢
  obtain ⟨b2, q2, s2⟩ := lit_step (w := w2) (wr.heap.size + 1 + 1) s1 [0, 0, 0, 6] (by decide)
  generalize w2.alloc (.cells (bcells [0, 0, 0, 6]).toArray 5) = w3 at b2 q2 s2 ⊢
  obtain ⟨b3, q3, s3⟩ := lit_step (w := w3) (wr.heap.size + 1 + 1 + 1) s2 [0, 0, 0, 8] (by decide)
  generalize w3.alloc (.cells (bcells [0, 0, 0, 8]).toArray 5) = w4 at b3 q3 s3 ⊢
  obtain ⟨b4, q4, s4⟩ := lit_step (w := w4) (wr.heap.size + 1 + 1 + 1 + 1) s3 [0, 0, 0, 12, 4, 5, 6, 7, 8, 9, 10, 11, 12, 13, 14, 15] (by decide)
  generalize w4.alloc (.cells (bcells [0, 0, 0, 12, 4, 5, 6, 7, 8, 9, 10, 11, 12, 13, 14, 15]).toArray 5) = w5 at b4 q4 s4 ⊢
  obtain ⟨b5, q5, s5⟩ := lit_step (w := w5) (wr.heap.size + 1 + 1 + 1 + 1 + 1) s4 [0, 0, 0, 12, 3, 5, 6, 7, 8, 9, 10, 11, 12, 13, 14, 15] (by decide)
  generalize w5.alloc (.cells (bcells [0, 0, 0, 12, 3, 5, 6, 7, 8, 9, 10, 11, 12, 13, 14, 15]).toArray 5) = w6 at b5 q5 s5 ⊢
  obtain ⟨b6, q6, s6⟩ := lit_step (w := w6) (wr.heap.size + 1 + 1 + 1 + 1 + 1 + 1) s5 [0, 0, 0, 12, 11, 5, 6, 7, 8, 9, 10, 11, 12, 13, 14, 15] (by decide)
  generalize w6.alloc (.cells (bcells [0, 0, 0, 12, 11, 5, 6, 7, 8, 9, 10, 11, 12, 13, 14, 15]).toArray 5) = w7 at b6 q6 s6 ⊢
  obtain ⟨b7, q7, s7⟩ := lit_step (w := w7) (wr.heap.size + 1 + 1 + 1 + 1 + 1 + 1 + 1) s6 [0, 0, 0, 12, 10, 5, 6, 7, 8, 9, 10, 11, 12, 13, 14, 15] (by decide)
  generalize w7.alloc (.cells (bcells [0, 0, 0, 12, 10, 5, 6, 7, 8, 9, 10, 11, 12, 13, 14, 15]).toArray 5) = w8 at b7 q7 s7 ⊢
  obtain ⟨b8, q8, s8⟩ := lit_step (w := w8) (wr.heap.size + 1 + 1 + 1 + 1 + 1 + 1 + 1 + 1) s7 [0, 0, 136, 185] (by decide)
  generalize w8.alloc (.cells (bcells [0, 0, 136, 185]).toArray 5) = w9 at b8 q8 s8 ⊢
  obtain ⟨b9, q9, s9⟩ := lit_step (w := w9) (wr.heap.size + 1 + 1 + 1 + 1 + 1 + 1 + 1 + 1 + 1) s8 [0, 0, 136, 184] (by decide)
  generalize w9.alloc (.cells (bcells [0, 0, 136, 184]).toArray 5) = w10 at b9 q9 s9 ⊢
  obtain ⟨b10, q10, s10⟩ := lit_step (w := w10) (wr.heap.size + 1 + 1 + 1 + 1 + 1 + 1 + 1 + 1 + 1 + 1) s9 [255, 255, 255, 255, 1] (by decide)
  generalize w10.alloc (.cells (bcells [255, 255, 255, 255, 1]).toArray 5) = w11 at b10 q10 s10 ⊢
  obtain ⟨b11, q11, s11⟩ := lit_step (w := w11) (wr.heap.size + 1 + 1 + 1 + 1 + 1 + 1 + 1 + 1 + 1 + 1 + 1) s10 [0, 0, 0, 8] (by decide)
  generalize w11.alloc (.cells (bcells [0, 0, 0, 8]).toArray 5) = w12 at b11 q11 s11 ⊢
  obtain ⟨b12, q12, s12⟩ := app_step (w := w12) (wr.heap.size + 1 + 1 + 1 + 1 + 1 + 1 + 1 + 1 + 1 + 1 + 1 + 1) s11 c hc1 hc2
  generalize w12.alloc (.cells (#[.int .u8 0, .int .u8 0, .int .u8 0, .int .u8 8] ++ (Builtin.zeroCells #[.int .u8 0] 24 ++ Builtin.zeroCells #[.int .u8 0] (c - 28))) 5) = w13 at b12 q12 s12 ⊢
  have hn := heap_alloc_new w13 (.cells #[.slice (some ⟨wr.heap.size, 0, none⟩) 3 3, .slice (some ⟨wr.heap.size + 1, 0, none⟩) 4 4, .slice (some ⟨wr.heap.size + 1 + 1, 0, none⟩) 4 4, .slice (some ⟨wr.heap.size + 1 + 1 + 1, 0, none⟩) 4 4, .slice (some ⟨wr.heap.size + 1 + 1 + 1 + 1, 0, none⟩) 16 16, .slice (some ⟨wr.heap.size + 1 + 1 + 1 + 1 + 1, 0, none⟩) 16 16, .slice (some ⟨wr.heap.size + 1 + 1 + 1 + 1 + 1 + 1, 0, none⟩) 16 16, .slice (some ⟨wr.heap.size + 1 + 1 + 1 + 1 + 1 + 1 + 1, 0, none⟩) 16 16, .slice (some ⟨wr.heap.size + 1 + 1 + 1 + 1 + 1 + 1 + 1 + 1, 0, none⟩) 4 4, .slice (some ⟨wr.heap.size + 1 + 1 + 1 + 1 + 1 + 1 + 1 + 1 + 1, 0, none⟩) 4 4, .slice (some ⟨wr.heap.size + 1 + 1 + 1 + 1 + 1 + 1 + 1 + 1 + 1 + 1, 0, none⟩) 5 5, .slice (some ⟨wr.heap.size + 1 + 1 + 1 + 1 + 1 + 1 + 1 + 1 + 1 + 1 + 1 + 1, 0, none⟩) 28 c] 22)
  have q13 := ((Below.refl w13.heap.size w13).alloc (Nat.le_refl _) (.cells #[.slice (some ⟨wr.heap.size, 0, none⟩) 3 3, .slice (some ⟨wr.heap.size + 1, 0, none⟩) 4 4, .slice (some ⟨wr.heap.size + 1 + 1, 0, none⟩) 4 4, .slice (some ⟨wr.heap.size + 1 + 1 + 1, 0, none⟩) 4 4, .slice (some ⟨wr.heap.size + 1 + 1 + 1 + 1, 0, none⟩) 16 16, .slice (some ⟨wr.heap.size + 1 + 1 + 1 + 1 + 1, 0, none⟩) 16 16, .slice (some ⟨wr.heap.size + 1 + 1 + 1 + 1 + 1 + 1, 0, none⟩) 16 16, .slice (some ⟨wr.heap.size + 1 + 1 + 1 + 1 + 1 + 1 + 1, 0, none⟩) 16 16, .slice (some ⟨wr.heap.size + 1 + 1 + 1 + 1 + 1 + 1 + 1 + 1, 0, none⟩) 4 4, .slice (some ⟨wr.heap.size + 1 + 1 + 1 + 1 + 1 + 1 + 1 + 1 + 1, 0, none⟩) 4 4, .slice (some ⟨wr.heap.size + 1 + 1 + 1 + 1 + 1 + 1 + 1 + 1 + 1 + 1, 0, none⟩) 5 5, .slice (some ⟨wr.heap.size + 1 + 1 + 1 + 1 + 1 + 1 + 1 + 1 + 1 + 1 + 1 + 1, 0, none⟩) 28 c] 22)).drew
  have s13 : (w13.alloc (.cells #[.slice (some ⟨wr.heap.size, 0, none⟩) 3 3, .slice (some ⟨wr.heap.size + 1, 0, none⟩) 4 4, .slice (some ⟨wr.heap.size + 1 + 1, 0, none⟩) 4 4, .slice (some ⟨wr.heap.size + 1 + 1 + 1, 0, none⟩) 4 4, .slice (some ⟨wr.heap.size + 1 + 1 + 1 + 1, 0, none⟩) 16 16, .slice (some ⟨wr.heap.size + 1 + 1 + 1 + 1 + 1, 0, none⟩) 16 16, .slice (some ⟨wr.heap.size + 1 + 1 + 1 + 1 + 1 + 1, 0, none⟩) 16 16, .slice (some ⟨wr.heap.size + 1 + 1 + 1 + 1 + 1 + 1 + 1, 0, none⟩) 16 16, .slice (some ⟨wr.heap.size + 1 + 1 + 1 + 1 + 1 + 1 + 1 + 1, 0, none⟩) 4 4, .slice (some ⟨wr.heap.size + 1 + 1 + 1 + 1 + 1 + 1 + 1 + 1 + 1, 0, none⟩) 4 4, .slice (some ⟨wr.heap.size + 1 + 1 + 1 + 1 + 1 + 1 + 1 + 1 + 1 + 1, 0, none⟩) 5 5, .slice (some ⟨wr.heap.size + 1 + 1 + 1 + 1 + 1 + 1 + 1 + 1 + 1 + 1 + 1 + 1, 0, none⟩) 28 c] 22)).drew.heap.size = wr.heap.size + 1 + 1 + 1 + 1 + 1 + 1 + 1 + 1 + 1 + 1 + 1 + 1 + 1 + 1 := by rw [show (w13.alloc (.cells #[.slice (some ⟨wr.heap.size, 0, none⟩) 3 3, .slice (some ⟨wr.heap.size + 1, 0, none⟩) 4 4, .slice (some ⟨wr.heap.size + 1 + 1, 0, none⟩) 4 4, .slice (some ⟨wr.heap.size + 1 + 1 + 1, 0, none⟩) 4 4, .slice (some ⟨wr.heap.size + 1 + 1 + 1 + 1, 0, none⟩) 16 16, .slice (some ⟨wr.heap.size + 1 + 1 + 1 + 1 + 1, 0, none⟩) 16 16, .slice (some ⟨wr.heap.size + 1 + 1 + 1 + 1 + 1 + 1, 0, none⟩) 16 16, .slice (some ⟨wr.heap.size + 1 + 1 + 1 + 1 + 1 + 1 + 1, 0, none⟩) 16 16, .slice (some ⟨wr.heap.size + 1 + 1 + 1 + 1 + 1 + 1 + 1 + 1, 0, none⟩) 4 4, .slice (some ⟨wr.heap.size + 1 + 1 + 1 + 1 + 1 + 1 + 1 + 1 + 1, 0, none⟩) 4 4, .slice (some ⟨wr.heap.size + 1 + 1 + 1 + 1 + 1 + 1 + 1 + 1 + 1 + 1, 0, none⟩) 5 5, .slice (some ⟨wr.heap.size + 1 + 1 + 1 + 1 + 1 + 1 + 1 + 1 + 1 + 1 + 1 + 1, 0, none⟩) 28 c] 22)).drew.heap.size = (w13.alloc (.cells #[.slice (some ⟨wr.heap.size, 0, none⟩) 3 3, .slice (some ⟨wr.heap.size + 1, 0, none⟩) 4 4, .slice (some ⟨wr.heap.size + 1 + 1, 0, none⟩) 4 4, .slice (some ⟨wr.heap.size + 1 + 1 + 1, 0, none⟩) 4 4, .slice (some ⟨wr.heap.size + 1 + 1 + 1 + 1, 0, none⟩) 16 16, .slice (some ⟨wr.heap.size + 1 + 1 + 1 + 1 + 1, 0, none⟩) 16 16, .slice (some ⟨wr.heap.size + 1 + 1 + 1 + 1 + 1 + 1, 0, none⟩) 16 16, .slice (some ⟨wr.heap.size + 1 + 1 + 1 + 1 + 1 + 1 + 1, 0, none⟩) 16 16, .slice (some ⟨wr.heap.size + 1 + 1 + 1 + 1 + 1 + 1 + 1 + 1, 0, none⟩) 4 4, .slice (some ⟨wr.heap.size + 1 + 1 + 1 + 1 + 1 + 1 + 1 + 1 + 1, 0, none⟩) 4 4, .slice (some ⟨wr.heap.size + 1 + 1 + 1 + 1 + 1 + 1 + 1 + 1 + 1 + 1, 0, none⟩) 5 5, .slice (some ⟨wr.heap.size + 1 + 1 + 1 + 1 + 1 + 1 + 1 + 1 + 1 + 1 + 1 + 1, 0, none⟩) 28 c] 22)).heap.size from rfl]; simp [s12]
  rw [s12] at hn
  have hcell : ∀ j, (w13.alloc (.cells #[.slice (some ⟨wr.heap.size, 0, none⟩) 3 3, .slice (some ⟨wr.heap.size + 1, 0, none⟩) 4 4, .slice (some ⟨wr.heap.size + 1 + 1, 0, none⟩) 4 4, .slice (some ⟨wr.heap.size + 1 + 1 + 1, 0, none⟩) 4 4, .slice (some ⟨wr.heap.size + 1 + 1 + 1 + 1, 0, none⟩) 16 16, .slice (some ⟨wr.heap.size + 1 + 1 + 1 + 1 + 1, 0, none⟩) 16 16, .slice (some ⟨wr.heap.size + 1 + 1 + 1 + 1 + 1 + 1, 0, none⟩) 16 16, .slice (some ⟨wr.heap.size + 1 + 1 + 1 + 1 + 1 + 1 + 1, 0, none⟩) 16 16, .slice (some ⟨wr.heap.size + 1 + 1 + 1 + 1 + 1 + 1 + 1 + 1, 0, none⟩) 4 4, .slice (some ⟨wr.heap.size + 1 + 1 + 1 + 1 + 1 + 1 + 1 + 1 + 1, 0, none⟩) 4 4, .slice (some ⟨wr.heap.size + 1 + 1 + 1 + 1 + 1 + 1 + 1 + 1 + 1 + 1, 0, none⟩) 5 5, .slice (some ⟨wr.heap.size + 1 + 1 + 1 + 1 + 1 + 1 + 1 + 1 + 1 + 1 + 1 + 1, 0, none⟩) 28 c] 22)).drew.cell? ⟨wr.heap.size + 1 + 1 + 1 + 1 + 1 + 1 + 1 + 1 + 1 + 1 + 1 + 1 + 1, j, none⟩ = ([.slice (some ⟨wr.heap.size, 0, none⟩) 3 3, .slice (some ⟨wr.heap.size + 1, 0, none⟩) 4 4, .slice (some ⟨wr.heap.size + 1 + 1, 0, none⟩) 4 4, .slice (some ⟨wr.heap.size + 1 + 1 + 1, 0, none⟩) 4 4, .slice (some ⟨wr.heap.size + 1 + 1 + 1 + 1, 0, none⟩) 16 16, .slice (some ⟨wr.heap.size + 1 + 1 + 1 + 1 + 1, 0, none⟩) 16 16, .slice (some ⟨wr.heap.size + 1 + 1 + 1 + 1 + 1 + 1, 0, none⟩) 16 16, .slice (some ⟨wr.heap.size + 1 + 1 + 1 + 1 + 1 + 1 + 1, 0, none⟩) 16 16, .slice (some ⟨wr.heap.size + 1 + 1 + 1 + 1 + 1 + 1 + 1 + 1, 0, none⟩) 4 4, .slice (some ⟨wr.heap.size + 1 + 1 + 1 + 1 + 1 + 1 + 1 + 1 + 1, 0, none⟩) 4 4, .slice (some ⟨wr.heap.size + 1 + 1 + 1 + 1 + 1 + 1 + 1 + 1 + 1 + 1, 0, none⟩) 5 5, .slice (some ⟨wr.heap.size + 1 + 1 + 1 + 1 + 1 + 1 + 1 + 1 + 1 + 1 + 1 + 1, 0, none⟩) 28 c] : List Value)[j]? := fun j => cell_row (w := w13.alloc (.cells #[.slice (some ⟨wr.heap.size, 0, none⟩) 3 3, .slice (some ⟨wr.heap.size + 1, 0, none⟩) 4 4, .slice (some ⟨wr.heap.size + 1 + 1, 0, none⟩) 4 4, .slice (some ⟨wr.heap.size + 1 + 1 + 1, 0, none⟩) 4 4, .slice (some ⟨wr.heap.size + 1 + 1 + 1 + 1, 0, none⟩) 16 16, .slice (some ⟨wr.heap.size + 1 + 1 + 1 + 1 + 1, 0, none⟩) 16 16, .slice (some ⟨wr.heap.size + 1 + 1 + 1 + 1 + 1 + 1, 0, none⟩) 16 16, .slice (some ⟨wr.heap.size + 1 + 1 + 1 + 1 + 1 + 1 + 1, 0, none⟩) 16 16, .slice (some ⟨wr.heap.size + 1 + 1 + 1 + 1 + 1 + 1 + 1 + 1, 0, none⟩) 4 4, .slice (some ⟨wr.heap.size + 1 + 1 + 1 + 1 + 1 + 1 + 1 + 1 + 1, 0, none⟩) 4 4, .slice (some ⟨wr.heap.size + 1 + 1 + 1 + 1 + 1 + 1 + 1 + 1 + 1 + 1, 0, none⟩) 5 5, .slice (some ⟨wr.heap.size + 1 + 1 + 1 + 1 + 1 + 1 + 1 + 1 + 1 + 1 + 1 + 1, 0, none⟩) 28 c] 22)) hn j
  generalize (w13.alloc (.cells #[.slice (some ⟨wr.heap.size, 0, none⟩) 3 3, .slice (some ⟨wr.heap.size + 1, 0, none⟩) 4 4, .slice (some ⟨wr.heap.size + 1 + 1, 0, none⟩) 4 4, .slice (some ⟨wr.heap.size + 1 + 1 + 1, 0, none⟩) 4 4, .slice (some ⟨wr.heap.size + 1 + 1 + 1 + 1, 0, none⟩) 16 16, .slice (some ⟨wr.heap.size + 1 + 1 + 1 + 1 + 1, 0, none⟩) 16 16, .slice (some ⟨wr.heap.size + 1 + 1 + 1 + 1 + 1 + 1, 0, none⟩) 16 16, .slice (some ⟨wr.heap.size + 1 + 1 + 1 + 1 + 1 + 1 + 1, 0, none⟩) 16 16, .slice (some ⟨wr.heap.size + 1 + 1 + 1 + 1 + 1 + 1 + 1 + 1, 0, none⟩) 4 4, .slice (some ⟨wr.heap.size + 1 + 1 + 1 + 1 + 1 + 1 + 1 + 1 + 1, 0, none⟩) 4 4, .slice (some ⟨wr.heap.size + 1 + 1 + 1 + 1 + 1 + 1 + 1 + 1 + 1 + 1, 0, none⟩) 5 5, .slice (some ⟨wr.heap.size + 1 + 1 + 1 + 1 + 1 + 1 + 1 + 1 + 1 + 1 + 1 + 1, 0, none⟩) 28 c] 22)).drew = w14 at q13 s13 hcell ⊢
  clear hn
  have u13 := q13
  have u12 : Below w12.heap.size w12 w14 := q12.trans (u13.mono q12.size)
  have u11 : Below w11.heap.size w11 w14 := q11.trans (u12.mono q11.size)
  have u10 : Below w10.heap.size w10 w14 := q10.trans (u11.mono q10.size)
  have u9 : Below w9.heap.size w9 w14 := q9.trans (u10.mono q9.size)
  have u8 : Below w8.heap.size w8 w14 := q8.trans (u9.mono q8.size)
  have u7 : Below w7.heap.size w7 w14 := q7.trans (u8.mono q7.size)
  have u6 : Below w6.heap.size w6 w14 := q6.trans (u7.mono q6.size)
  have u5 : Below w5.heap.size w5 w14 := q5.trans (u6.mono q5.size)
  have u4 : Below w4.heap.size w4 w14 := q4.trans (u5.mono q4.size)
  have u3 : Below w3.heap.size w3 w14 := q3.trans (u4.mono q3.size)
  have u2 : Below w2.heap.size w2 w14 := q2.trans (u3.mono q2.size)
  have u1 : Below w1.heap.size w1 w14 := q1.trans (u2.mono q1.size)
  have u0 : Below wr.heap.size wr w14 := q0.trans (u1.mono q0.size)
  refine ⟨u0, fun j hj => ?_⟩
  match j, hj with
  | 0, _ => exact ⟨wr.heap.size, 3, 3, [0, 0, 0], hcell 0, b0.fresh u1, by decide, by omega⟩
  | 1, _ => exact ⟨wr.heap.size + 1, 4, 4, [0, 0, 0, 5], hcell 1, b1.fresh u2, by decide, by omega⟩
  | 2, _ => exact ⟨wr.heap.size + 1 + 1, 4, 4, [0, 0, 0, 6], hcell 2, b2.fresh u3, by decide, by omega⟩
  | 3, _ => exact ⟨wr.heap.size + 1 + 1 + 1, 4, 4, [0, 0, 0, 8], hcell 3, b3.fresh u4, by decide, by omega⟩
  | 4, _ => exact ⟨wr.heap.size + 1 + 1 + 1 + 1, 16, 16, [0, 0, 0, 12, 4, 5, 6, 7, 8, 9, 10, 11, 12, 13, 14, 15], hcell 4, b4.fresh u5, by decide, by omega⟩
  | 5, _ => exact ⟨wr.heap.size + 1 + 1 + 1 + 1 + 1, 16, 16, [0, 0, 0, 12, 3, 5, 6, 7, 8, 9, 10, 11, 12, 13, 14, 15], hcell 5, b5.fresh u6, by decide, by omega⟩
  | 6, _ => exact ⟨wr.heap.size + 1 + 1 + 1 + 1 + 1 + 1, 16, 16, [0, 0, 0, 12, 11, 5, 6, 7, 8, 9, 10, 11, 12, 13, 14, 15], hcell 6, b6.fresh u7, by decide, by omega⟩
  | 7, _ => exact ⟨wr.heap.size + 1 + 1 + 1 + 1 + 1 + 1 + 1, 16, 16, [0, 0, 0, 12, 10, 5, 6, 7, 8, 9, 10, 11, 12, 13, 14, 15], hcell 7, b7.fresh u8, by decide, by omega⟩
  | 8, _ => exact ⟨wr.heap.size + 1 + 1 + 1 + 1 + 1 + 1 + 1 + 1, 4, 4, [0, 0, 136, 185], hcell 8, b8.fresh u9, by decide, by omega⟩
  | 9, _ => exact ⟨wr.heap.size + 1 + 1 + 1 + 1 + 1 + 1 + 1 + 1 + 1, 4, 4, [0, 0, 136, 184], hcell 9, b9.fresh u10, by decide, by omega⟩
  | 10, _ => exact ⟨wr.heap.size + 1 + 1 + 1 + 1 + 1 + 1 + 1 + 1 + 1 + 1, 5, 5, [255, 255, 255, 255, 1], hcell 10, b10.fresh u11, by decide, by omega⟩
  | 11, _ => exact ⟨wr.heap.size + 1 + 1 + 1 + 1 + 1 + 1 + 1 + 1 + 1 + 1 + 1 + 1, 28, c, ([0, 0, 0, 8] ++ List.replicate 24 0), hcell 11, b12.fresh u13, by decide, by omega⟩

theorem fd2_c {W W0 w : World} {xb gi gr M N : Nat} (B : BI W W0 w xb gi gr M N) (v : Value) (ys : List UInt8) (hv : BSl w v ys) (hM : M + ys.length ≤ 100000) :
    Calls Tryd.prog 18 #[.pointer (some ⟨gi, 0, none⟩), v] w fun e w' => e = .returned (.tuple #[]) ∧
      ∀ w3 v2, Below w'.heap.size w' w3 → BSl w3 v2 ys → Calls Tryd.prog 19 #[.pointer (some ⟨gr, 0, none⟩), v2] w3 fun e2 w2 => e2 = .returned (.tuple #[]) ∧ BI W W0 w2 xb gi gr (M + ys.length) N := by
  have B0 := B
  obtain ⟨⟨h, ki, kr, br, k1, k2, c1, c2, xs, why, a1, a2, a3, a4, a5, a6, a7, a8, a9⟩, b, kp, ne, lo⟩ := B
  by_cases hw : why = 0
  · subst hw
    refine (feed_c v ys w a1 hv (by omega)).mono ?_
    rintro e w' ⟨rfl, h', hi, hm⟩
    obtain ⟨r1, b1, kp1, d1, l1, x1⟩ := bi_in (W0 := W0) a2 hm b kp ne lo a7 a8 a9 a1.blockLt.1
    refine ⟨rfl, fun w3 v2 hb hv2 => (rFeed_c v2 ys w3 (r1.fresh hb) hv2 (by omega)).mono ?_⟩
    rintro e2 w2 ⟨rfl, bb', hr2, hm2⟩
    obtain ⟨i2, b2, kp2, d2⟩ := bi_ref (W0 := W0) (hi.fresh hb) hm2 (b1.trans (hb.mono b1.size)) ⟨((Keeps.ofFresh (S := fun _ => False) hb).block xb kp1.2 (fun h => h)).trans kp1.1, Nat.lt_of_lt_of_le kp1.2 hb.size⟩ ne lo d1
    exact ⟨rfl, ⟨⟨h', ki, kr, bb', k1, k2, c1, c2, xs ++ ys, 0, i2, hr2, ⟨fun _ => a3.1 rfl, fun e => absurd rfl e⟩, by rw [List.length_append]; omega, a5, a6, d2, l1, x1⟩, b2, kp2, ne, lo⟩⟩
  · refine (feed_no v w hw a1).mono ?_
    rintro e w' ⟨rfl, rfl⟩
    refine ⟨rfl, fun w3 v2 hb hv2 => (rFeed_no v2 w3 hw (a2.fresh hb)).mono ?_⟩
    rintro e2 w2 ⟨rfl, rfl⟩
    exact ⟨rfl, (B0.fresh hb).more (by omega) (Nat.le_refl _)⟩

set_option maxHeartbeats 6400000 in
set_option maxRecDepth 100000 in
theorem packetNumbers_c (w : World) (hcl : Cl w) : Calls Tryd.prog 3 #[] w fun e w' => e = .returned (.bool true) ∧ Below w.heap.size w w' := by
  have HCL := hidden hcl
  obtain ⟨Z, hZ, hZb⟩ := madeN 34001 (by omega)
  have hZ : ∀ w : World, (Instr.makeSlice 22 (.int .i64 34001) (.int .i64 34001)).run Tryd.prog w = .ok (.slice (some ⟨w.heap.size, 0, none⟩) 34001 34001) (w.alloc (.cells Z 5)) := hZ
  have HZB := hidden hZb
  have HL0 : Hid (BSl (w.alloc (.cells #[.int .u8 7, .int .u8 9] 5)) (.slice (some ⟨w.heap.size, 0, none⟩) 2 2) [7, 9]) := BSl.ofBlock (xs := [7, 9]) (heap_alloc_new w _) (by simp)
  have HB0 := hidden ((Below.refl w.heap.size w).alloc (Nat.le_refl _) (.cells #[.int .u8 7, .int .u8 9] 5))
  clear hcl hZb
  go_enter Tryd.func3, Tryd.ntmps3
  go_wp2_with fail
  refine (sized_b 32 (by omega) _ [7, 9] _ HL0.out).mono ?_
  rintro e w1 ⟨rfl, hs1, hb1⟩
  have HS1 := hidden hs1
  have HB1 : Hid (Below w.heap.size w w1) := HB0.out.trans (hb1.mono HB0.out.size)
  have HKL := hidden (sizedL_length [7, 9] 32)
  generalize sizedL [7, 9] 32 = key at HS1 HKL
  generalize (w.alloc (.cells #[.int .u8 7, .int .u8 9] 5)).heap.size = gk at HS1 ⊢
  have HGK1 : Hid (gk < w1.heap.size) := by
    obtain ⟨b, o, c, e, hlt⟩ := HS1.out.nonnil (by intro e; have := HKL.out; rw [e] at this; simp at this)
    have e2 := congrArg Value.ownBlock e
    simp [Value.ownBlock] at e2
    show _ < _
    omega
  have HCL1 := hidden (HCL.out.fresh HB1.out)
  clear hs1 hb1 HL0 HB0
  go_wp2_with fail
  refine (newOut_c w1).mono ?_
  rintro e w2 ⟨rfl, ho2, hb2⟩
  have hbA := (Below.refl w2.heap.size w2).alloc (Nat.le_refl _) (.cells #[.slice none 0 0, .int .u64 0] 29)
  have HT3 : Hid (Two w1 (w2.alloc (.cells #[.slice none 0 0, .int .u64 0] 29)) w1.heap.size w2.heap.size none none [] 0) :=
    ⟨ho2.fresh hbA, rout_new w2, hb2.trans (hbA.mono hb2.size), ⟨by have := ho2.blockLt; omega, by simp, by simp⟩, ⟨Nat.le_refl _, hb2.size⟩⟩
  have HS3 := hidden ((HS1.out.fresh hb2).fresh hbA)
  generalize hgo : w1.heap.size = go at HT3 HGK1 ⊢
  have HGO := hidden hgo
  clear ho2 hb2 hbA HS1 hgo
  go_wp2_with fail
  generalize w2.alloc (.cells #[.slice none 0 0, .int .u64 0] 29) = w3 at HT3 HS3 ⊢
  generalize w2.heap.size = gr at HT3 ⊢
  refine (packet_none _ w3 go (bsl_none _)).mono ?_
  rintro e w4 ⟨rfl, hw4⟩
  subst hw4
  go_wp2_with fail
  have hbZ := (Below.refl w4.heap.size w4).alloc (Nat.le_refl _) (.cells Z 5)
  have HT5 := hidden (HT3.out.fresh hbZ)
  have HS5 := hidden (HS3.out.fresh hbZ)
  have HZ5 := hidden (HZB.out w4)
  generalize w4.heap.size = gz at HZ5 ⊢
  generalize w4.alloc (.cells Z 5) = w5 at HT5 HS5 HZ5 ⊢
  clear hbZ HT3 HS3 hZ HZB
  refine (packet_long _ _ w5 go HZ5.out (by rw [List.length_replicate]; omega) (by rw [List.length_replicate]; omega)).mono ?_
  rintro e w6 ⟨rfl, hw6⟩
  subst hw6
  clear HZ5
  go_wp2_with fail
  go_loopw [8] (fun c wr => ∃ (j : Nat) (ko kr : Option Nat), 1 ≤ j ∧ j ≤ 60 ∧ c = .int .i64 (j : Int) ∧ Two w1 wr go gr ko kr (keyB 30 key j) (j - 1) ∧ BSl wr (.slice (some ⟨gk, 0, none⟩) 32 32) key) (fun c _ => 60 - (intOf c).toNat)
  case atStart => exact ⟨1, none, none, by omega, by omega, rfl, HT5.out, HS5.out⟩
  case round =>
    clear HT5 HS5
    obtain ⟨j, ko, kr, hj1, hj60, rfl, ht, hs⟩ := hrel
    have HT := hidden ht
    have HS := hidden hs
    clear ht hs
    by_cases hlt : j < 60
    · have hlt' : (j : Int) < 60 := by omega
      go_upto_region 11 with fail
      go_cut [61] from 37 to 90 (fun b wx => b = .bool false ∧ ∃ ko' kr' : Option Nat, Two w1 wx go gr ko' kr' (keyA 30 key j) (j - 1) ∧ BSl wx (.slice (some ⟨gk, 0, none⟩) 32 32) key)
      case first =>
        by_cases hjf : j = 30
        · have hjf1 : ((j : Int) == 30) = true := by simp; omega
          have HKE : Hid (keyA 30 key j = key) := by show _ = _; rw [hjf, keyA_at]
          clear hjf
          go_wp2_with fail
          refine (outKeys_c _ key wr HT.out.out HS.out HKL.out).mono ?_
          rintro e w8 ⟨rfl, ko8, ho8, hk8, hn8⟩
          have HS8 := hidden (HS.out.keep hk8 (fun k e e2 => by simp [Value.ownBlock] at e; have h1 := HGK1.out; omega))
          have HR8 := hidden (HT.out.ref.keep hk8 (fun e => HT.out.ne.1 e.symm) (fun k e e2 => HT.out.ne.2.2 (by rw [e, e2])))
          have HO8 := hidden ho8
          have HN8 := hidden hn8
          have HB8 : Hid (Below w1.heap.size w1 w8) := HT.out.b.trans (hk8.below HT.out.b.size (fun k e => by rw [e]; exact HT.out.lo.1))
          have HZ8 : Hid (wr.heap.size ≤ w8.heap.size) := hk8.size
          clear ho8 hk8 hn8
          go_wp2_with fail
          refine (rOutKeys_c _ key w8 HR8.out HS8.out HKL.out).mono ?_
          rintro e w9 ⟨rfl, kr9, ho9, hk9, hn9⟩
          have HF : Hid (Two w1 w9 go gr ko8 kr9 (keyA 30 key j) (j - 1) ∧ BSl w9 (.slice (some ⟨gk, 0, none⟩) 32 32) key) := by
            have hb := HT.out.out.blockLt
            have hb2 := HT.out.ref.blockLt
            have hz := HZ8.out
            refine ⟨⟨by rw [HKE.out]; exact HO8.out.keep hk9 (HT.out.ne.1) (fun k e e2 => by have := HN8.out k e; omega), by rw [HKE.out]; exact ho9, HB8.out.trans (hk9.below HB8.out.size (fun k e => by rw [e]; exact HT.out.lo.2)), ⟨HT.out.ne.1, fun e => by have := HN8.out _ e; omega, fun e => by have := hn9 _ e; omega⟩, HT.out.lo⟩, HS8.out.keep hk9 (fun k e e2 => ?_)⟩
            simp [Value.ownBlock] at e
            have h1 := HGK1.out
            have h2 := HT.out.lo.2
            have h3 := HGO.out
            omega
          have HK31 : Hid (BSl w9 (.slice (some ⟨gk, 0, none⟩) 31 32) (key.take 31)) := by
            have h1 := HF.out.2
            have h2 : (32 : Nat) = key.length := HKL.out.symm
            have h3 := BSl.head' (n := 31) (ao := some ⟨gk, 0, none⟩) (cap := 32) (bs := key) (w := w9) (by rw [← h2]; exact h1) (by omega)
            exact h3
          clear ho9 hk9 hn9
          go_wp2_with fail
          refine (outKeys_no _ _ w9 HK31.out (by rw [List.length_take, HKL.out]; omega)).mono ?_
          rintro e w10 ⟨rfl, hw10⟩
          subst hw10
          go_wp2_with fail
          go_meet
          case rel => exact ⟨rfl, ko8, kr9, HF.out⟩
        · have hjf1 : ((j : Int) == 30) = false := by simp; omega
          have HKE : Hid (keyB 30 key j = keyA 30 key j) := keyB_same 30 key j hjf
          clear hjf
          go_wp2_with fail
          go_meet
          case rel => exact ⟨rfl, ko, kr, by rw [← HKE.out]; exact HT.out, HS.out⟩
      case rest =>
        clear HT HS
        obtain ⟨hb61, ko', kr', ht, hs⟩ := hcut
        have HT := hidden ht
        have HS := hidden hs
        subst hb61
        clear ht hs
        go_wp2_with fail
        obtain ⟨y, hy⟩ : ∃ y : UInt8, (y.toNat : Int) = (j : Int) := ⟨UInt8.ofNat j, by have h : (UInt8.ofNat j).toNat = j := by { rw [UInt8.toNat_ofNat']; omega }; rw [h]⟩
        have HLIT : ∀ wx : World, BSl (wx.alloc (.cells #[.int .u8 (j : Int)] 5)) (.slice (some ⟨wx.heap.size, 0, none⟩) 1 1) [y] := fun wx => by rw [← hy]; exact BSl.ofBlock (xs := [y]) (heap_alloc_new wx _) (by simp)
        have HBEL : ∀ wx : World, Below wx.heap.size wx (wx.alloc (.cells #[.int .u8 (j : Int)] 5)) := fun wx => (Below.refl wx.heap.size wx).alloc (Nat.le_refl _) _
        have HLIT := hidden HLIT
        have HBEL := hidden HBEL
        clear hy
        obtain ⟨p, hp⟩ : ∃ p, p = sizedL [y] j := ⟨_, rfl⟩
        have hpl : p.length = j := by rw [hp, sizedL_length]
        have hpne : p ≠ [] := by intro e; rw [e] at hpl; simp at hpl; omega
        have HP := hidden hp
        have HPL := hidden hpl
        have HNE := hidden hpne
        clear hp hpl hpne
        refine (sized_b j (by omega) _ [y] _ (HLIT.out wc)).mono ?_
        rintro e w7 ⟨rfl, hs7, hb7⟩
        have hbb := (HBEL.out wc).trans (hb7.mono (HBEL.out wc).size)
        have HT8 := hidden (HT.out.fresh hbb)
        have HS8 := hidden (HS.out.fresh hbb)
        rw [← HP.out] at hs7
        have HX7 := hidden hs7
        generalize (wc.alloc (.cells #[.int .u8 (j : Int)] 5)).heap.size = g7 at HX7 ⊢
        clear hs7 hb7 hbb HT HS
        go_wp2_with fail
        refine (two_packet HT8.out HCL1.out _ p HX7.out (by have := HPL.out; omega) (by omega)).mono ?_
        rintro e w10 ⟨v10, rfl, hb10, hv10, ho10, hr10, hbw10, hk10⟩
        rw [eN, if_neg HNE.out]
        rw [cN, if_neg HNE.out] at ho10
        have HRL : Hid (gr < w7.heap.size) := HT8.out.ref.blockLt
        have HS10 := hidden (HS8.out.keep hk10 (fun k e e2 => by simp [Value.ownBlock] at e; have h1 := HGK1.out; omega))
        have HX10 := hidden hb10
        have HV10 := hidden hv10
        have HO10 := hidden ho10
        have HR10 := hidden hr10
        have HW10 := hidden hbw10
        obtain ⟨a10, d10, e10⟩ := hb10.len
        generalize (oP (keyA 30 key j) (j - 1) p).length = ol at e10
        subst e10
        have HNT := hidden (And.intro HT8.out.ne HT8.out.lo)
        have HZ10 : Hid (w7.heap.size ≤ w10.heap.size) := hk10.size
        clear hb10 hv10 ho10 hr10 hbw10 hk10 HX7 HT8 HS8
        go_wp2_with fail
        refine (sized_b j (by omega) _ [y] _ (HLIT.out w10)).mono ?_
        rintro e w11 ⟨rfl, hs11, hb11⟩
        have hbb := (HBEL.out w10).trans (hb11.mono (HBEL.out w10).size)
        rw [← HP.out] at hs11
        have HP11 := hidden hs11
        have HS11 := hidden (HS10.out.fresh hbb)
        have HX11 := hidden (HX10.out.fresh hbb)
        have HO11 := hidden (HO10.out.fresh hbb)
        have HR11 := hidden (HR10.out.fresh hbb)
        have HW11 : Hid (Below w1.heap.size w1 w11) := HW10.out.trans (hbb.mono HW10.out.size)
        generalize (w10.alloc (.cells #[.int .u8 (j : Int)] 5)).heap.size = g11 at HP11 ⊢
        clear hs11 hb11 hbb HS10 HX10 HO10 HR10 HW10
        go_wp2_with fail
        refine (two_rpacket HR11.out _ p HP11.out (by have := HPL.out; omega) (by omega)).mono ?_
        rintro e w12 ⟨v12, rfl, hb12, hr12, hk12⟩
        rw [cN, if_neg HNE.out] at hr12
        have HS12 := hidden (HS11.out.keep hk12 (fun k e e2 => by simp [Value.ownBlock] at e; have h1 := HGK1.out; have h2 := HNT.out.2.2; have h3 := HGO.out; omega))
        have HX12 : Hid (BSl w12 (.slice a10 ol d10) (oP (keyA 30 key j) (j - 1) p)) := HX11.out.keep hk12 (fun k e e2 => by have h1 := HV10.out k e; have h2 := HRL.out; omega)
        have HT12 : Hid (Two w1 w12 go gr ko' kr' (keyB 30 key (j + 1)) (j + 1 - 1)) := by
          show Two _ _ _ _ _ _ _ _
          rw [keyB_succ, show j + 1 - 1 = j - 1 + 1 by omega]
          exact ⟨HO11.out.keep hk12 HNT.out.1.1 (fun k e e2 => HNT.out.1.2.1 (by rw [e, e2])), hr12, HW11.out.trans (hk12.below HW11.out.size (fun k e => by rw [e]; exact HNT.out.2.2)), HNT.out.1, HNT.out.2⟩
        have hs1 := run_string HX12.out
        have hs2 := run_string hb12
        obtain ⟨a12, d12, e12⟩ := hb12.len
        generalize (oP (keyA 30 key j) (j - 1) p).length = ol2 at e12
        subst e12
        generalize oP (keyA 30 key j) (j - 1) p = O at hs1 hs2
        generalize eN p = en
        clear hb12 hr12 hk12 HX12 HX11 HO11 HR11 HW11 HP11
        go_wp2
        go_roundw
        case rel => exact ⟨j + 1, ko', kr', by omega, by omega, by go_num, HT12.out, HS12.out⟩
        case measure => simp [intOf]; omega
    · have hlt' : ¬ (j : Int) < 60 := by omega
      go_wp2_with fail
      have HB2 : Hid (∀ i : Nat, i < 2 → ∃ b, (wr.alloc (.cells #[.bool false, .bool true] 4)).cell? ⟨wr.heap.size, i, none⟩ = some (.bool b)) := fun i hi => by
        have hn := heap_alloc_new wr (.cells #[.bool false, .bool true] 4)
        match i, hi with
        | 0, _ => exact ⟨false, cell_row (cs := [.bool false, .bool true]) hn 0⟩
        | 1, _ => exact ⟨true, cell_row (cs := [.bool false, .bool true]) hn 1⟩
      have hbV := (Below.refl wr.heap.size wr).alloc (Nat.le_refl _) (.cells #[.bool false, .bool true] 4)
      have HS2 := hidden (HS.out.fresh hbV)
      have HBW : Hid (Below w.heap.size w (wr.alloc (.cells #[.bool false, .bool true] 4))) := HB1.out.trans ((HT.out.b.trans (hbV.mono HT.out.b.size)).mono HB1.out.size)
      have HGK2 : Hid (gk < (wr.alloc (.cells #[.bool false, .bool true] 4)).heap.size) := by
        have h1 := HGK1.out
        have h2 := HGO.out
        have h3 := HT.out.lo.1
        have h4 := HT.out.out.blockLt
        have h5 := hbV.size
        show _ < _
        omega
      generalize wr.alloc (.cells #[.bool false, .bool true] 4) = w2 at HB2 HS2 HBW HGK2 ⊢
      generalize wr.heap.size = gb at HB2 ⊢
      have HCL2 := hidden (HCL.out.fresh HBW.out)
      clear HT HS hbV
      go_loopw [93] (fun c wq => ∃ i : Nat, i ≤ 2 ∧ c = .int .i64 (i : Int) ∧ Below w2.heap.size w2 wq) (fun c _ => 2 - (intOf c).toNat)
      case atStart => exact ⟨0, by omega, rfl, Below.refl _ _⟩
      case round =>
        obtain ⟨i, hi2, rfl, hbr⟩ := hrel
        have HBR := hidden hbr
        clear hbr
        by_cases hlt2 : i < 2
        · have hlt2' : (i : Int) < 2 := by omega
          obtain ⟨b, hcb⟩ := HB2.out i hlt2
          have hcb' := cell_kept hcb HBR.out
          clear hcb
          go_wp2_with fail
          change Code.wp _ _ _ _ (lits wr)
          have hLB := (lits_c wr).1
          have HROWS := hidden (lits_c wr).2
          have HBR3 : Hid (Below w2.heap.size w2 (lits wr)) := HBR.out.trans (hLB.mono HBR.out.size)
          generalize lits wr = w3 at HROWS HBR3 ⊢
          generalize wr.heap.size + 1 + 1 + 1 + 1 + 1 + 1 + 1 + 1 + 1 + 1 + 1 + 1 + 1 = gl at HROWS ⊢
          clear hLB HBR hcb'
          go_loopw [112] (fun c wq => ∃ q : Nat, q ≤ 12 ∧ c = .int .i64 (q : Int) ∧ Below w3.heap.size w3 wq) (fun c _ => 12 - (intOf c).toNat)
          case atStart => exact ⟨0, by omega, rfl, Below.refl _ _⟩
          case round =>
            obtain ⟨q, hq12, rfl, hb4⟩ := hrel
            have HB4 := hidden hb4
            clear hb4
            have HBW4 : Hid (Below w2.heap.size w2 wr) := HBR3.out.trans (HB4.out.mono HBR3.out.size)
            by_cases hlt3 : q < 12
            · have hlt3' : (q : Int) < 12 := by omega
              obtain ⟨xb, n, cap, us, hcell, hbs, hul, hxb⟩ := HROWS.out q hlt3
              have hcell' := cell_kept hcell HB4.out
              have HU := hidden (hbs.fresh HB4.out)
              have HXW : Hid (xb < wr.heap.size) := Nat.lt_of_lt_of_le hxb HB4.out.size
              have HKW := hidden (HS2.out.fresh HBW4.out)
              have HGK4 : Hid (gk < wr.heap.size) := Nat.lt_of_lt_of_le HGK2.out HBW4.out.size
              have HCL4 := hidden (HCL2.out.fresh HBW4.out)
              clear hcell hbs hxb
              go_wp2_with fail
              refine (newIn_c wr).mono ?_
              rintro e w5 ⟨rfl, hi5, hb5⟩
              have hbC := (Below.refl w5.heap.size w5).alloc (Nat.le_refl _) (.cells #[.slice none 0 0, .int .u64 0, .slice none 0 0, .int .i64 0] 43)
              have HI6 := hidden (hi5.fresh hbC)
              have HR6 := hidden (rin_new w5)
              have HB6 : Hid (Below wr.heap.size wr (w5.alloc (.cells #[.slice none 0 0, .int .u64 0, .slice none 0 0, .int .i64 0] 43))) := hb5.trans (hbC.mono hb5.size)
              have HLO : Hid (wr.heap.size < w5.heap.size) := hi5.blockLt.1
              go_upto_if 121 with fail
              generalize w5.alloc (.cells #[.slice none 0 0, .int .u64 0, .slice none 0 0, .int .i64 0] 43) = w6 at HI6 HR6 HB6 ⊢
              generalize hgr : w5.heap.size = gr2 at HR6 HLO ⊢
              obtain ⟨gi, hgi⟩ : ∃ gi, gi = wr.heap.size := ⟨_, rfl⟩
              have HGI : Hid (gi = wr.heap.size) := hgi
              rw [← hgi] at HI6 HLO
              rw [show (Value.pointer (some ⟨wr.heap.size, 0, none⟩)) = .pointer (some ⟨gi, 0, none⟩) by rw [hgi]]
              clear hi5 hb5 hbC hgr hgi
              go_cut [112, 124] from 112 to 161 (fun c _ wx => c = .int .i64 (q : Int) ∧ BI wr wx wx xb gi gr2 0 0)
              case first =>
                have HS6 := hidden (HKW.out.fresh HB6.out)
                cases b
                · have HBI : Hid (BI wr w6 w6 xb gi gr2 0 0) := by
                    have h1 := HGI.out
                    have h2 := HXW.out
                    have h3 := HLO.out
                    have h4 := HB6.out.size
                    exact ⟨⟨gi, none, none, none, [], [], 0, 0, [], 0, HI6.out, HR6.out, ⟨fun _ => ⟨rfl, rfl⟩, fun e => absurd rfl e⟩, by simp, by omega, by omega, ⟨by omega, by simp, by simp, by simp, by simp, by simp⟩, by omega, by omega⟩, HB6.out, ⟨rfl, by omega⟩, ⟨by omega, by omega, by omega⟩, ⟨by omega, by omega⟩⟩
                  go_wp2_with fail
                  go_meet
                  case rel => exact ⟨rfl, HBI.out⟩
                · go_wp2_with fail
                  refine (inKeys_c _ key w6 HI6.out HS6.out HKL.out).mono ?_
                  rintro e w7 ⟨rfl, ki7, hi7, hm7⟩
                  have HI7 := hidden hi7
                  have HM7 := hidden hm7
                  have HS7 := hidden (HS6.out.keep hm7.keeps (fun k e e2 => by simp [Value.ownBlock] at e; have h1 := HGK4.out; have h2 := HGI.out; rcases e2 with e2 | e2 <;> omega))
                  have HR7 := hidden (HR6.out.keep hm7.keeps (fun e => by have := HLO.out; rcases e with e | e <;> omega) (fun k e => by cases e) (fun k e => by cases e))
                  clear hi7 hm7
                  go_wp2_with fail
                  refine (rInKeys_c _ key w7 HR7.out HS7.out HKL.out).mono ?_
                  rintro e w8 ⟨rfl, kr8, hr8, hm8⟩
                  have HBI : Hid (BI wr w8 w8 xb gi gr2 0 0) := by
                    have h1 := HGI.out
                    have h2 := HXW.out
                    have h3 := HLO.out
                    have h4 := HB6.out.size
                    have z7 := HM7.out.keeps.size
                    have z8 := hm8.keeps.size
                    have l6 := HR6.out.blockLt
                    have k7 : ∀ k, ki7 = some k → w6.heap.size ≤ k := fun k e => by
                      rcases HM7.out.key with e1 | e1 | ⟨k', e1, hk'⟩
                      · rw [e1] at e; cases e
                      · rw [e1] at e; cases e
                      · rw [e1] at e; injection e with e; omega
                    have k8 : ∀ k, kr8 = some k → w7.heap.size ≤ k := fun k e => by
                      rcases hm8.key with e1 | e1
                      · rw [e1] at e; cases e
                      · exact e1 k e
                    have b7 : Below wr.heap.size wr w7 := HB6.out.trans (HM7.out.keeps.below HB6.out.size (fun k e => by rcases e with e | e <;> omega))
                    refine ⟨⟨gi, ki7, kr8, none, key, key, 0, 0, [], 0, HI7.out.keep hm8.keeps (by omega) (by omega) (fun k e e2 => by have := k7 k e; omega), hr8, ⟨fun _ => ⟨rfl, rfl⟩, fun e => absurd rfl e⟩, by simp, by omega, by omega, ⟨by omega, fun e => by have := k8 _ e; omega, fun e => by have := k8 _ e; omega, by simp, by simp, fun e => by have := k7 _ e; omega⟩, by omega, by omega⟩, b7.trans (hm8.keeps.below b7.size (fun k e => by omega)), ⟨rfl, by omega⟩, ⟨by omega, by omega, by omega⟩, ⟨by omega, by omega⟩⟩
                  clear hr8 hm8
                  go_wp2_with fail
                  go_meet
                  case rel => exact ⟨rfl, HBI.out⟩
              case rest =>
                obtain ⟨hc112, hcut⟩ := hcut
                subst hc112
                have HBI := hidden hcut
                have HX := hidden (HU.out.fresh hcut.b)
                have HFD := hidden (fd_c HBI.out _ us HX.out (fun k e => by simp [Value.ownBlock] at e; exact e.symm) (by omega))
                clear hcut HI6 HR6 HB6
                go_wp2_with fail
                refine HFD.out.mono ?_
                rintro e w20 ⟨rfl, hcall⟩
                have HC := hidden hcall
                clear hcall HFD
                go_wp2_with fail
                refine HC.out.mono ?_
                rintro e w21 ⟨rfl, hbi⟩
                have HBI21 := hidden hbi
                clear hbi HC HBI
                go_wp2_with fail
                refine (nextLaw_c HBI21.out HCL4.out (by omega) (by omega)).mono ?_
                rintro e w22 ⟨rfl, hbi⟩
                have HBI22 := hidden hbi
                clear hbi HBI21
                have HL3 : Hid (∀ wx : World, BSl (wx.alloc (.cells #[.int .u8 1, .int .u8 2, .int .u8 3] 5)) (.slice (some ⟨wx.heap.size, 0, none⟩) 3 3) [1, 2, 3]) := fun wx => BSl.ofBlock (xs := [1, 2, 3]) (heap_alloc_new wx _) (by simp)
                have HB3 : Hid (∀ wx : World, Below wx.heap.size wx (wx.alloc (.cells #[.int .u8 1, .int .u8 2, .int .u8 3] 5))) := fun wx => (Below.refl wx.heap.size wx).alloc (Nat.le_refl _) _
                have HF2 := hidden (fd2_c (HBI22.out.fresh (HB3.out w22)) _ [1, 2, 3] (HL3.out w22) (by simp; omega))
                go_wp2_with fail
                refine HF2.out.mono ?_
                rintro e w23 ⟨rfl, hcall⟩
                have HC := hidden (hcall _ _ (HB3.out w23) (HL3.out w23))
                clear hcall HF2 HBI22
                go_wp2_with fail
                refine HC.out.mono ?_
                rintro e w24 ⟨rfl, hbi⟩
                have HBI24 := hidden hbi
                clear hbi HC
                go_wp2_with fail
                refine (nextLaw_c HBI24.out HCL4.out (by simp; omega) (by omega)).mono ?_
                rintro e w25 ⟨rfl, hbi⟩
                have HBI25 := hidden hbi
                clear hbi HBI24
                have HK25 := hidden (HKW.out.fresh HBI25.out.b)
                have HK5 : Hid (BSl w25 (.slice (some ⟨gk, 0, none⟩) 5 32) (key.take 5)) := by
                  have h1 := HK25.out
                  have h2 : (32 : Nat) = key.length := HKL.out.symm
                  have h3 := BSl.head' (n := 5) (ao := some ⟨gk, 0, none⟩) (cap := 32) (bs := key) (w := w25) (by rw [← h2]; exact h1) (by omega)
                  exact h3
                go_wp2_with fail
                refine (inKeys_no _ _ w25 HK5.out (by rw [List.length_take, HKL.out]; omega)).mono ?_
                rintro e w26 ⟨rfl, hw26⟩
                subst hw26
                go_wp2_with fail
                refine (inKeys_any HBI25.out _ key HK25.out HKL.out).mono ?_
                rintro e w27 ⟨rfl, hb27⟩
                have HBE : Hid (Below w3.heap.size w3 w27) := HB4.out.trans (hb27.mono HB4.out.size)
                clear hb27
                go_wp2
                go_roundw
                case rel => exact ⟨q + 1, by omega, by go_num, HBE.out⟩
                case measure => simp [intOf]; omega
            · have hlt3' : ¬ (q : Int) < 12 := by omega
              go_wp2
              go_roundw
              case rel => exact ⟨i + 1, by omega, by go_num, HBW4.out⟩
              case measure => simp [intOf]; omega
        · have hlt2' : ¬ (i : Int) < 2 := by omega
          have HKN := hidden (known_c _ (HCL2.out.fresh HBR.out))
          go_wp2_with fail
          refine HKN.out.mono ?_
          rintro e w23 ⟨rfl, hb23⟩
          have HB23 : Hid (Below w.heap.size w w23) := HBW.out.trans ((HBR.out.trans (hb23.mono HBR.out.size)).mono HBW.out.size)
          clear hb23
          go_wp2
          go_ret
          exact ⟨rfl, HB23.out⟩
end Go.Proofs.YthkaibkmpenclaaDoor
