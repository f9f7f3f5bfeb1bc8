/- KexNumbers. -/
import Derived.Test.YtookapglookphaaDoorKxX
import Derived.Test.YtookapglookphaaDoorKxU
import Derived.Test.YtookapglookphaaDoorXfC
namespace Go.Proofs.YtookapglookphaaDoor
open Go Go.RowKit

theorem sized2_c (w : World) (B : Nat) (hB : w.heap.size = B) :
    Calls Tryd.prog 6 #[.slice (some ⟨B, 0, none⟩) 2 2, .int .i64 32] (w.alloc (.cells #[.int .u8 5, .int .u8 6] 5)) fun e w' => ∃ G K, K.length = 32 ∧ e = .returned (.slice (some ⟨G, 0, none⟩) 32 32) ∧ BSl w' (.slice (some ⟨G, 0, none⟩) 32 32) K ∧ Below w.heap.size w w' := by
  subst hB
  have hb : Below w.heap.size w (w.alloc (.cells (bcells [5, 6]).toArray 5)) := (Below.refl _ w).alloc (Nat.le_refl _) _
  exact (sized_b 32 (by omega) _ [5, 6] _ (bsl_lit w [5, 6] (by simp))).mono fun e w' ⟨h1, h2, h3⟩ => ⟨_, _, sizedL_length _ _, h1, h2, hb.trans (h3.mono hb.size)⟩

theorem srvO_le (k p : List UInt8) (s0 s1 : ByteArray) (i1 i2 init : List UInt8) : (srvO k p s0 s1 i1 i2 init).2.1.length ≤ 5000 := by
  unfold srvO
  split
  · split
    · split
      · simp
      · exact rep_le _ _ _
    · simp
  · simp
theorem own_next {w w' : World} {base : Nat} {v : Value} {n : Nat} {xs : List Value} (h : w.ownsRow base 5 1 v n xs) (hb : Below w.heap.size w w') : w'.ownsRow base 5 1 v n xs := by
  refine ⟨h.1, ?_⟩
  rcases h.2 with h2 | ⟨g, cap, cur, e, h1, hg, h3⟩
  · exact .inl h2
  · exact .inr ⟨g, cap, cur, e, h1, (hb.block g (lt_of_block hg)).trans hg, h3⟩
/-- Bytes that Server and Client may be handed. -/
def Msg (w : World) (v : Value) : Prop := ∃ M : List UInt8, BSl w v M ∧ M.length ≤ 6000 ∧ ∀ q, v.ownBlock = some q → q < w.heap.size
theorem Msg.next {w w' : World} {v : Value} (h : Msg w v) (hb : Below w.heap.size w w') : Msg w' v := by
  obtain ⟨M, h1, h2, h3⟩ := h
  exact ⟨M, h1.fresh hb, h2, fun q e => by have := h3 q e; have := hb.size; omega⟩
theorem row_at {w wr : World} {B : Nat} {cs : List Value} {t : TypeId} (hrow : w.heap[B]? = some (.cells cs.toArray t (0, 0))) (hall : ∀ v ∈ cs, Msg w v) (hb : Below w.heap.size w wr) (i : Nat) (hi : i < cs.length) : ∃ v, wr.cell? ⟨B, i, none⟩ = some v ∧ Msg wr v := by
  have h2 := (hb.block B (lt_of_block hrow)).trans hrow
  refine ⟨cs[i], ?_, (hall _ (List.getElem_mem hi)).next hb⟩
  rw [cell_row h2]
  exact List.getElem?_eq_getElem hi
theorem zeros_world (w : World) (a b : UInt8) (A : Array Value) (hA : A = (bcells [a, 0, 0, 0, b]).toArray) (C : Nat) (hC : C = grownCap (w.alloc (.cells A 5)) 37 5 5) (X : World)
    (hX : X = ((w.alloc (.cells A 5)).alloc (.cells (A ++ (Builtin.zeroCells #[Value.int .u8 0] 32 ++ Builtin.zeroCells #[Value.int .u8 0] (C - 37))) 5)).drew) : Below w.heap.size w X ∧ Msg X (.slice (some ⟨w.heap.size + 1, 0, none⟩) 37 C) := by
  have h1 : 37 ≤ C := by rw [hC]; exact grownCap_ge _ _ _ _
  have h2 : C ≤ maxLen := by rw [hC]; exact grownCap_le_maxLen _ _ _ _ (by simp [maxLen])
  have hb1 : Below w.heap.size w (w.alloc (.cells A 5)) := (Below.refl _ w).alloc (Nat.le_refl _) _
  have hb2 : Below w.heap.size w X := by
    rw [hX]
    exact (hb1.alloc hb1.size _).trans (Below.mono (Ex.drew _) (by simp; omega))
  have hs : (w.alloc (.cells A 5)).heap.size = w.heap.size + 1 := by simp
  have hg : X.heap[w.heap.size + 1]? = some (.cells (A ++ (Builtin.zeroCells #[Value.int .u8 0] 32 ++ Builtin.zeroCells #[Value.int .u8 0] (C - 37))) 5 (0, 0)) := by
    rw [hX, ← hs]
    exact heap_alloc_new (w.alloc (.cells A 5)) _
  have ho : X.ownsRow w.heap.size 5 1 (.slice (some ⟨w.heap.size + 1, 0, none⟩) 37 C) 37 (bcells ([a, 0, 0, 0, b] ++ List.replicate 32 0)) := by
    refine ⟨by simp [bcells_length], .inr ⟨w.heap.size + 1, C, _, rfl, by omega, hg, h1, h2, ?_, ?_⟩⟩
    · rw [hA]
      simp only [Array.size_append, size_zeroCells, List.size_toArray, bcells_length]
      simp
      omega
    · rw [hA, bcells_append]
      simp only [Array.toList_append, zeroCells_bytes]
      rw [← List.append_assoc]
      exact List.take_left' (by simp [bcells_length])
  exact ⟨hb2, ⟨_, BSl.ofRow ho, by simp, fun q e => (ho.lt q e).2⟩⟩
def NineE (vs : Nat → Value) (w : World) : Prop := ∃ g, vs 18 = .slice (some ⟨g, 0, none⟩) 9 9 ∧ w.heap[g]? = some (.cells #[.slice none 0 0, vs 0, vs 2, vs 7, vs 11, vs 13, vs 15, vs 16, vs 17] 22 (0, 0))
theorem nine_ex (vs : Nat → Value) (x y : World) (he : Ex x y) (h : NineE vs x) : NineE vs y := by
  obtain ⟨g, h1, h2⟩ := h
  exact ⟨g, h1, (Below.block he g (lt_of_block h2)).trans h2⟩
theorem nine_upd (es : List Nat) (hes : es = [0, 2, 7, 11, 13, 15, 16, 17]) (vs : Nat → Value) (m : Nat) (v : Value) (x : World) (hm : es.contains m = false) (h18 : m ≠ 18) (h : NineE vs x) : NineE (upd vs m v) x := by
  subst hes
  simp at hm
  obtain ⟨m0, m2, m7, m11, m13, m15, m16, m17⟩ := hm
  obtain ⟨g, h1, h2⟩ := h
  refine ⟨g, ?_, ?_⟩
  · rw [upd, if_neg (fun e => h18 e.symm)]; exact h1
  · simp only [upd]
    rw [if_neg (fun e => m0 e.symm), if_neg (fun e => m2 e.symm), if_neg (fun e => m7 e.symm), if_neg (fun e => m11 e.symm), if_neg (fun e => m13 e.symm), if_neg (fun e => m15 e.symm), if_neg (fun e => m16 e.symm), if_neg (fun e => m17 e.symm)]
    exact h2
theorem msg_own {b : Nat} {xs : List UInt8} {v : Value} {w : World} (h : (FactB.own b xs).holds v w) (hl : xs.length ≤ 6000) : Msg w v := ⟨xs, BSl.ofRow h.2, hl, fun q e => (h.2.lt q e).2⟩

theorem numbers_start (w2 : World) (G P : Nat) (K pin : List UInt8) (hv : BSl w2 (.slice (some ⟨G, 0, none⟩) 32 32) K) (hK : K.length = 32) (hp : BSl w2 (.slice (some ⟨P, 0, none⟩) 3 3) pin) (W : World)
    (hW : W = (((w2.alloc (.cells #[.int .u8 1] 5)).alloc (.cells #[.int .u8 2] 5)).alloc (.cells #[.slice (some ⟨G, 0, none⟩) 32 32, .slice (some ⟨P, 0, none⟩) 3 3, .string ⟨#[99]⟩, .string ⟨#[115]⟩, .slice (some ⟨w2.heap.size, 0, none⟩) 1 1, .slice (some ⟨w2.heap.size + 1, 0, none⟩) 1 1] 25)).alloc (.cells #[.slice (some ⟨G, 0, none⟩) 31 32, .slice (some ⟨P, 0, none⟩) 3 3, .string ⟨#[99]⟩, .string ⟨#[115]⟩, .slice (some ⟨w2.heap.size, 0, none⟩) 1 1, .slice (some ⟨w2.heap.size + 1, 0, none⟩) 1 1] 25)) :
    Below w2.heap.size w2 W ∧ SB W (w2.heap.size + 1 + 1) (some ⟨G, 0, none⟩) (some ⟨P, 0, none⟩) (some ⟨w2.heap.size, 0, none⟩) (some ⟨w2.heap.size + 1, 0, none⟩) 32 3 1 1 32 3 1 1 ⟨#[99]⟩ ⟨#[115]⟩ K pin [1] [2] ∧ SB W (w2.heap.size + 1 + 1 + 1) (some ⟨G, 0, none⟩) (some ⟨P, 0, none⟩) (some ⟨w2.heap.size, 0, none⟩) (some ⟨w2.heap.size + 1, 0, none⟩) 31 3 1 1 32 3 1 1 ⟨#[99]⟩ ⟨#[115]⟩ (K.take 31) pin [1] [2] := by
  have b1 : Below w2.heap.size w2 (w2.alloc (.cells (bcells [1]).toArray 5)) := (Below.refl _ w2).alloc (Nat.le_refl _) _
  have l1 : BSl (w2.alloc (.cells (bcells [1]).toArray 5)) (.slice (some ⟨w2.heap.size, 0, none⟩) 1 1) [1] := bsl_lit w2 [1] (by simp)
  have s1 : (w2.alloc (.cells (bcells [1]).toArray 5)).heap.size = w2.heap.size + 1 := by simp
  have e1 : w2.alloc (.cells #[.int .u8 1] 5) = w2.alloc (.cells (bcells [1]).toArray 5) := rfl
  rw [e1] at hW
  generalize w2.alloc (.cells (bcells [1]).toArray 5) = x1 at b1 l1 s1 hW
  have b2 : Below x1.heap.size x1 (x1.alloc (.cells (bcells [2]).toArray 5)) := (Below.refl _ x1).alloc (Nat.le_refl _) _
  have l2 : BSl (x1.alloc (.cells (bcells [2]).toArray 5)) (.slice (some ⟨x1.heap.size, 0, none⟩) 1 1) [2] := bsl_lit x1 [2] (by simp)
  have s2 : (x1.alloc (.cells (bcells [2]).toArray 5)).heap.size = x1.heap.size + 1 := by simp
  have e2 : x1.alloc (.cells #[.int .u8 2] 5) = x1.alloc (.cells (bcells [2]).toArray 5) := rfl
  rw [e2] at hW
  generalize x1.alloc (.cells (bcells [2]).toArray 5) = x2 at b2 l2 s2 hW
  rw [s1] at l2 s2
  generalize hc : #[Value.slice (some ⟨G, 0, none⟩) 32 32, .slice (some ⟨P, 0, none⟩) 3 3, .string ⟨#[99]⟩, .string ⟨#[115]⟩, .slice (some ⟨w2.heap.size, 0, none⟩) 1 1, .slice (some ⟨w2.heap.size + 1, 0, none⟩) 1 1] = C at hW
  generalize hd : #[Value.slice (some ⟨G, 0, none⟩) 31 32, .slice (some ⟨P, 0, none⟩) 3 3, .string ⟨#[99]⟩, .string ⟨#[115]⟩, .slice (some ⟨w2.heap.size, 0, none⟩) 1 1, .slice (some ⟨w2.heap.size + 1, 0, none⟩) 1 1] = D at hW
  have b3 : Below x2.heap.size x2 (x2.alloc (.cells C 25)) := (Below.refl _ x2).alloc (Nat.le_refl _) _
  have r3 : (x2.alloc (.cells C 25)).heap[x2.heap.size]? = some (.cells C 25 (0, 0)) := heap_alloc_new x2 _
  have s3 : (x2.alloc (.cells C 25)).heap.size = x2.heap.size + 1 := by simp
  generalize x2.alloc (.cells C 25) = x3 at b3 r3 s3 hW
  have b4 : Below x3.heap.size x3 W := by rw [hW]; exact (Below.refl _ x3).alloc (Nat.le_refl _) _
  have r4 : W.heap[x3.heap.size]? = some (.cells D 25 (0, 0)) := by rw [hW]; exact heap_alloc_new x3 _
  have b24 := b3.trans (b4.mono b3.size)
  have b14 := b2.trans (b24.mono b2.size)
  have b04 := b1.trans (b14.mono b1.size)
  have r3' := (b4.block _ (lt_of_block r3)).trans r3
  rw [s3, s2] at r4
  rw [s2] at r3'
  rw [← hc] at r3'
  rw [← hd] at r4
  refine ⟨b04, ⟨r3', ⟨hv.fresh b04, hp.fresh b04, l1.fresh b14, l2.fresh b24⟩⟩, ⟨r4, ⟨?_, hp.fresh b04, l1.fresh b14, l2.fresh b24⟩⟩⟩
  have hv' : BSl w2 (.slice (some ⟨G, 0, none⟩) K.length 32) K := by rw [hK]; exact hv
  exact (hv'.head' (n := 31) (by omega)).fresh b04

set_option maxHeartbeats 6400000 in
set_option maxRecDepth 100000 in
theorem kexNumbers_c (w : World) (hr : Rw w) (htp : Tp w) :
    Calls Tryd.prog 3 #[] w fun e w' => e = .returned (.bool true) ∧ Below w.heap.size w w' := by
  have HR := hidden hr
  have HT := hidden htp
  clear hr htp
  go_enter Tryd.func3, Tryd.ntmps3
  go_wp2_with fail
  refine (sized2_c w _ rfl).mono ?_
  rintro e w1 ⟨G, K, hK, rfl, hv1, hb1⟩
  obtain ⟨w2, hcv, hv2, hb2⟩ := lit_mark w1 [112, 105, 110] (by simp)
  change (convert 22 22 (.slice (some ⟨w1.heap.size, 0, none⟩) 3 3)).run Tryd.prog (w1.alloc (.cells #[.int .u8 112, .int .u8 105, .int .u8 110] 5)) = .ok (.slice (some ⟨w1.heap.size, 0, none⟩) 3 3) w2 at hcv
  change BSl w2 (.slice (some ⟨w1.heap.size, 0, none⟩) 3 3) [112, 105, 110] at hv2
  have HK := hidden hK
  have HP2 := hidden hv2
  have HB2 := hidden (hb1.trans (hb2.mono hb1.size))
  have HV2 := hidden (hv1.fresh hb2)
  clear hv2 hb2 hv1 hb1 hK
  go_upto_region 5 with fail
  obtain ⟨W, hW⟩ : ∃ W, W = (((w2.alloc (.cells #[.int .u8 1] 5)).alloc (.cells #[.int .u8 2] 5)).alloc (.cells #[.slice (some ⟨G, 0, none⟩) 32 32, .slice (some ⟨w1.heap.size, 0, none⟩) 3 3, .string ⟨#[99]⟩, .string ⟨#[115]⟩, .slice (some ⟨w2.heap.size, 0, none⟩) 1 1, .slice (some ⟨w2.heap.size + 1, 0, none⟩) 1 1] 25)).alloc (.cells #[.slice (some ⟨G, 0, none⟩) 31 32, .slice (some ⟨w1.heap.size, 0, none⟩) 3 3, .string ⟨#[99]⟩, .string ⟨#[115]⟩, .slice (some ⟨w2.heap.size, 0, none⟩) 1 1, .slice (some ⟨w2.heap.size + 1, 0, none⟩) 1 1] 25) := ⟨_, rfl⟩
  rw [← hW]
  obtain ⟨hbW, hS, hT⟩ := numbers_start w2 G w1.heap.size K [112, 105, 110] HV2.out HK.out HP2.out W hW
  have HBW := hidden (HB2.out.trans (hbW.mono HB2.out.size))
  have HS := hidden hS
  have HTs := hidden hT
  clear hW hbW hS hT hcv HP2 HB2 HV2
  generalize w1.heap.size = P at HS HTs ⊢
  generalize w2.heap.size = B at HS HTs ⊢
  go_wp2_with fail
  refine (Init_c _ (K.take 31) W (HT.out.fresh HBW.out) HTs.out.s.pr).mono ?_
  rintro e w3 ⟨hb3, vi, rfl, hvi, _⟩
  rw [show iniO (K.take 31) = (1, []) by rw [iniO, if_neg (by rw [List.length_take, HK.out]; decide)]] at hvi ⊢
  simp only at hvi ⊢
  have HS3 := hidden (HS.out.next hb3)
  have HT3 := hidden (HTs.out.next hb3)
  have HB3 := hidden (HBW.out.trans (hb3.mono HBW.out.size))
  obtain ⟨x3, y3, rfl⟩ := hvi.nil
  clear hvi hb3 HS HTs HBW
  go_wp2_with fail
  refine (Init_c _ K w3 (HT.out.fresh HB3.out) HS3.out.s.pr).mono ?_
  rintro e w4 ⟨hb4, vi, rfl, hvi, _⟩
  rw [ini_ok HK.out] at hvi ⊢
  simp only at hvi ⊢
  have HI37 : Hid ((payL 30 (fun _ => baseL K) 1).length = 37) := by show _ = _; have := baseL_length K; simp [payL, joinTo, text_len, this]
  generalize payL 30 (fun _ => baseL K) 1 = I at hvi HI37 ⊢
  have HI := hidden hvi
  obtain ⟨ai, ci, rfl⟩ := hvi.len
  rw [HI37.out] at HI ⊢
  have HS4 := hidden (HS3.out.next hb4)
  have HT4 := hidden (HT3.out.next hb4)
  have HB4 := hidden (HB3.out.trans (hb4.mono HB3.out.size))
  clear hvi hb4 HS3 HT3 HB3
  obtain ⟨q0, q1, q2, q3, q4, q5⟩ := side_cells HT4.out.row
  go_wp2_with fail
  refine (Server_c _ _ _ _ _ ⟨#[99]⟩ ⟨#[115]⟩ (K.take 31) [112, 105, 110] [1] [2] I (by simp) (by simp) (by simp) (by decide) (by decide) (by have := HI37.out; omega) w4 (HR.out.fresh HB4.out) (HT.out.fresh HB4.out) HT4.out.s HI.out).mono ?_
  rintro e w5 ⟨hb5, vr, vk, vh, rfl, hvr, hvk, hvh⟩
  rw [show srvO (K.take 31) [112, 105, 110] ⟨#[99]⟩ ⟨#[115]⟩ [1] [2] I = (1, [], [], []) by rw [srvO, if_neg (by rw [List.length_take, HK.out]; decide)]] at hvr hvk hvh ⊢
  simp only at hvr hvk hvh ⊢
  obtain ⟨xr, yr, rfl⟩ := hvr.nil
  obtain ⟨xk, yk, rfl⟩ := hvk.nil
  obtain ⟨xh, yh, rfl⟩ := hvh.nil
  have hb6 : Below w5.heap.size w5 (w5.alloc (.cells #[.slice xk 0 yk, .slice xh 0 yh] 30)) := (Below.refl _ w5).alloc (Nat.le_refl _) _
  have hb46 := hb5.trans (hb6.mono hb5.size)
  have HS6 := hidden (HS4.out.next hb46)
  have HT6 := hidden (HT4.out.next hb46)
  have HI6 := hidden (HI.out.fresh hb46)
  have HB6 := hidden (HB4.out.trans (hb46.mono HB4.out.size))
  clear q0 q1 q2 q3 q4 q5 hvr hvk hvh hb5 hb6 hb46 HS4 HT4 HI HB4
  obtain ⟨q0, q1, q2, q3, q4, q5⟩ := side_cells HT6.out.row
  go_wp2_with fail
  generalize w5.alloc (.cells #[.slice xk 0 yk, .slice xh 0 yh] 30) = w6 at HS6 HT6 HI6 HB6 q0 q1 q2 q3 q4 q5 ⊢
  generalize w5.heap.size = BU at ⊢
  refine (Client_c _ _ _ _ _ ⟨#[99]⟩ ⟨#[115]⟩ (K.take 31) [112, 105, 110] [1] [2] [] (by simp) (by simp) (by simp) (by decide) (by decide) (by simp) w6 (HR.out.fresh HB6.out) (HT.out.fresh HB6.out) HT6.out.s (bsl_none _)).mono ?_
  rintro e w7 ⟨hb7, vk, vh, rfl, hvk, hvh⟩
  rw [show cliO (K.take 31) [112, 105, 110] ⟨#[99]⟩ ⟨#[115]⟩ [1] [2] [] = (1, [], []) by rw [cliO, if_neg (by rw [List.length_take, HK.out]; decide)]] at hvk hvh ⊢
  simp only at hvk hvh ⊢
  obtain ⟨zk, uk, rfl⟩ := hvk.nil
  obtain ⟨zh, uh, rfl⟩ := hvh.nil
  have hb8 : Below w7.heap.size w7 (w7.alloc (.cells #[.slice zk 0 uk, .slice zh 0 uh] 30)) := (Below.refl _ w7).alloc (Nat.le_refl _) _
  have hb68 := hb7.trans (hb8.mono hb7.size)
  have HS8 := hidden (HS6.out.next hb68)
  have HI8 := hidden (HI6.out.fresh hb68)
  have HB8 := hidden (HB6.out.trans (hb68.mono HB6.out.size))
  clear q0 q1 q2 q3 q4 q5 hvk hvh hb7 hb8 hb68 HS6 HT6 HI6 HB6
  go_upto_region 11 with fail
  generalize w7.alloc (.cells #[.slice zk 0 uk, .slice zh 0 uh] 30) = w8 at HS8 HI8 HB8 ⊢
  generalize w7.heap.size = BV at ⊢
  go_upto_region 12 with fail
  obtain ⟨cz, hcz⟩ : ∃ c, c = (Question.appendCap 37 5 5).cut (w8.tape w8.drawn (Question.appendCap 37 5 5)) := ⟨_, rfl⟩
  rw [← hcz]
  obtain ⟨w9, hw9⟩ : ∃ x, x = (((w8.alloc (.cells #[.int .u8 30, .int .u8 0, .int .u8 0, .int .u8 0, .int .u8 32] 5)).alloc (.cells (#[.int .u8 30, .int .u8 0, .int .u8 0, .int .u8 0, .int .u8 32] ++ (Builtin.zeroCells #[Value.int .u8 0] 32 ++ Builtin.zeroCells #[Value.int .u8 0] (cz - 37))) 5)).drew) := ⟨_, rfl⟩
  rw [← hw9]
  obtain ⟨hb9, hmz⟩ := zeros_world w8 30 32 _ rfl cz hcz w9 hw9
  have HS9 := hidden (HS8.out.next hb9)
  have HI9 := hidden (HI8.out.fresh hb9)
  have HB9 := hidden (HB8.out.trans (hb9.mono HB8.out.size))
  have HZ9 := hidden hmz
  clear hb9 hmz HS8 HI8 HB8 hw9 hcz
  generalize haz : some (Addr.mk (w8.heap.size + 1) 0 none) = az at HZ9 ⊢
  clear haz
  generalize w8.heap.size = BW at ⊢
  go_upto_region 13 with fail
  obtain ⟨cl, hcl⟩ : ∃ c, c = (Question.appendCap 37 5 5).cut (w9.tape w9.drawn (Question.appendCap 37 5 5)) := ⟨_, rfl⟩
  rw [← hcl]
  obtain ⟨w10, hw10⟩ : ∃ x, x = (((w9.alloc (.cells #[.int .u8 31, .int .u8 0, .int .u8 0, .int .u8 0, .int .u8 32] 5)).alloc (.cells (#[.int .u8 31, .int .u8 0, .int .u8 0, .int .u8 0, .int .u8 32] ++ (Builtin.zeroCells #[Value.int .u8 0] 32 ++ Builtin.zeroCells #[Value.int .u8 0] (cl - 37))) 5)).drew) := ⟨_, rfl⟩
  rw [← hw10]
  obtain ⟨hb10, hml⟩ := zeros_world w9 31 32 _ rfl cl hcl w10 hw10
  have HS10 := hidden (HS9.out.next hb10)
  have HI10 := hidden (HI9.out.fresh hb10)
  have HB10 := hidden (HB9.out.trans (hb10.mono HB9.out.size))
  have HZ10 := hidden (HZ9.out.next hb10)
  have HL10 := hidden hml
  clear hb10 hml HS9 HI9 HB9 HZ9 hw10 hcl
  generalize hal : some (Addr.mk (w9.heap.size + 1) 0 none) = al at HL10 ⊢
  clear hal
  generalize w9.heap.size = BY at ⊢
  obtain ⟨bi, oi, ci', ei, hbi⟩ := HI10.out.nonnil (fun h => by have h1 := HI37.out; rw [h] at h1; cases h1)
  injection ei with e1 e2 e3
  subst e1 e3
  clear e2
  have hcap := HI10.out.capLe
  have HF36 : Hid (∀ wx, (Instr.sliceAt 22 (.slice (some ⟨bi, oi, none⟩) 37 ci) none (some (.int .i64 36)) none).run Tryd.prog wx = .ok (.slice (some ⟨bi, oi, none⟩) 36 ci) wx) := fun wx => run_front _ 37 36 ci (by omega) wx
  have HF1 : Hid (∀ wx, (Instr.sliceAt 22 (.slice (some ⟨bi, oi, none⟩) 37 ci) (some (.int .i64 1)) none none).run Tryd.prog wx = .ok (.slice (some ⟨bi, oi + 1, none⟩) 36 (ci - 1)) wx) := fun wx => run_behind bi oi 37 1 ci (by omega) (by omega) (by omega) wx
  have HSRC : Hid (∀ wx, Ex w10 wx → Src Tryd.prog 1 22 (.slice (some ⟨bi, oi, none⟩) 37 ci) I.length (bcells I) wx) := fun wx he => (HI10.out.fresh he).src
  have HSR1 : Hid (∀ wx, Ex w10 wx → Src Tryd.prog 1 22 (.slice (some ⟨bi, oi + 1, none⟩) 36 (ci - 1)) (I.drop 1).length (bcells (I.drop 1)) wx) := fun wx he => ((HI10.out.dropS (k := 1) (by omega)).fresh he).src
  clear hcap
  refine region_rowsE [(.own w10.heap.size [30]), (.val (.slice (some ⟨bi, oi, none⟩) 37 ci)), (.val (.slice (some ⟨bi, oi, none⟩) 36 ci)), (.own w10.heap.size []), (.val (.slice (some ⟨bi, oi, none⟩) 37 ci)), (.own w10.heap.size I), (.own w10.heap.size [0]), (.own w10.heap.size (I ++ [0])), (.own w10.heap.size [31]), (.val (.slice (some ⟨bi, oi, none⟩) 37 ci)), (.val (.slice (some ⟨bi, oi + 1, none⟩) 36 (ci - 1))), (.own w10.heap.size ([31] ++ I.drop 1)), (.own w10.heap.size [30, 0, 0, 0, 31]), (.own w10.heap.size ([30, 0, 0, 0, 31] ++ List.replicate 31 0)), (.own w10.heap.size [30, 0, 0, 0, 33]), (.own w10.heap.size ([30, 0, 0, 0, 33] ++ List.replicate 33 0)), (.val (.slice az 37 cz)), (.val (.slice (some ⟨bi, oi, none⟩) 37 ci)), .nine, (.val (.int .i64 9)), (.val (.int .i64 0))] [100, 101, 102, 1, 104, 1, 106, 1, 2, 109, 110, 2, 3, 3, 4, 4, 116, 117, 118, 119, 120] [none, none, none, some 5, none, some 7, none, none, some 11, none, none, none, some 13, none, some 15, none, none, none, none, none, none] 18 NineE (by kernel_rfl) (by decide) ?_ ?_
  · skip
    refine rowsE_cons (.own w10.heap.size [30]) (by kernel_rfl) _ rfl (by decide) nine_ex (nine_upd _ (by kernel_rfl)) (fun vs w1 he hd => StepG.plain (by kernel_rfl) (gives_litB 1 #[(0, .const (.int .u8 30))] [30] rfl (by omega) (by omega) (by kernel_rfl) (by kernel_rfl) he)) ?_
    refine rowsE_cons (.val (.slice (some ⟨bi, oi, none⟩) 37 ci)) (by kernel_rfl) _ rfl (by decide) nine_ex (nine_upd _ (by kernel_rfl)) (fun vs w1 he hd => StepG.plain (by kernel_rfl) (gives_move (x := (.tmp 6)) (v := (.slice (some ⟨bi, oi, none⟩) 37 ci)) (by kernel_rfl) (by kernel_rfl) same_val)) ?_
    refine rowsE_cons (.val (.slice (some ⟨bi, oi, none⟩) 36 ci)) (by kernel_rfl) _ rfl (by decide) nine_ex (nine_upd _ (by kernel_rfl)) (fun vs w1 he hd => StepG.plain (by kernel_rfl) (gives_slice (x := .tmp 72) (lo := none) (hi := some (.const (.int .i64 36))) (mx := none) (v := (.slice (some ⟨bi, oi, none⟩) 36 ci)) (by kernel_rfl) (by rw [show (actsTo _ _ _ vs _).eval (.tmp 72) = (.slice (some ⟨bi, oi, none⟩) 37 ci) from Eq.trans (b := vs 1) (by kernel_rfl) (hd 1 (.val (.slice (some ⟨bi, oi, none⟩) 37 ci)) (by kernel_rfl) (by kernel_rfl) (by kernel_rfl))]; exact HF36.out _) same_val)) ?_
    refine rowsE_cons (.own w10.heap.size []) (by kernel_rfl) _ rfl (by decide) nine_ex (nine_upd _ (by kernel_rfl)) (fun vs w1 he hd => StepG.plain (by kernel_rfl) (gives_build0 (by kernel_rfl) he)) ?_
    refine rowsE_cons (.val (.slice (some ⟨bi, oi, none⟩) 37 ci)) (by kernel_rfl) _ rfl (by decide) nine_ex (nine_upd _ (by kernel_rfl)) (fun vs w1 he hd => StepG.plain (by kernel_rfl) (gives_move (x := (.tmp 6)) (v := (.slice (some ⟨bi, oi, none⟩) 37 ci)) (by kernel_rfl) (by kernel_rfl) same_val)) ?_
    refine rowsE_app 3 [] I (by kernel_rfl) (by kernel_rfl) (by kernel_rfl) (by kernel_rfl) (by kernel_rfl) (by kernel_rfl) _ rfl (by decide) (.inr ⟨7, _, by kernel_rfl, rfl, by kernel_rfl⟩) (fun vs w1 he hd => StepG.plain (by kernel_rfl) (gives_appO (tx := 22) (vy := vs 4) (x := .tmp 74) (y := .tmp 75) (vx := vs 3) (xs := []) (news := I) (by kernel_rfl) (by kernel_rfl) (by kernel_rfl) he (hd 3 (.own w10.heap.size []) (by kernel_rfl) (by kernel_rfl) (by kernel_rfl)) (by rw [show vs 4 = (.slice (some ⟨bi, oi, none⟩) 37 ci) from (hd 4 (.val (.slice (some ⟨bi, oi, none⟩) 37 ci)) (by kernel_rfl) (by kernel_rfl) (by kernel_rfl))]; exact HSRC.out _ he) (by rw [HI37.out]; decide))) ?_
    refine rowsE_cons (.own w10.heap.size [0]) (by kernel_rfl) _ rfl (by decide) nine_ex (nine_upd _ (by kernel_rfl)) (fun vs w1 he hd => StepG.plain (by kernel_rfl) (gives_litB 1 #[(0, .const (.int .u8 0))] [0] rfl (by omega) (by omega) (by kernel_rfl) (by kernel_rfl) he)) ?_
    refine rowsE_app 5 I (I ++ [0]) (by kernel_rfl) (by kernel_rfl) (by kernel_rfl) (by kernel_rfl) (by kernel_rfl) (by kernel_rfl) _ rfl (by decide) (.inl (by kernel_rfl)) (fun vs w1 he hd => StepG.plain (by kernel_rfl) (gives_appO (tx := 22) (vy := vs 6) (x := .tmp 76) (y := .tmp 77) (vx := vs 5) (xs := I) (news := [0]) (by kernel_rfl) (by kernel_rfl) (by kernel_rfl) he (hd 5 (.own w10.heap.size I) (by kernel_rfl) (by kernel_rfl) (by kernel_rfl)) (BSl.ofRow (hd 6 (.own w10.heap.size [0]) (by kernel_rfl) (by kernel_rfl) (by kernel_rfl)).2).src (by rw [HI37.out]; decide))) ?_
    refine rowsE_cons (.own w10.heap.size [31]) (by kernel_rfl) _ rfl (by decide) nine_ex (nine_upd _ (by kernel_rfl)) (fun vs w1 he hd => StepG.plain (by kernel_rfl) (gives_litB 1 #[(0, .const (.int .u8 31))] [31] rfl (by omega) (by omega) (by kernel_rfl) (by kernel_rfl) he)) ?_
    refine rowsE_cons (.val (.slice (some ⟨bi, oi, none⟩) 37 ci)) (by kernel_rfl) _ rfl (by decide) nine_ex (nine_upd _ (by kernel_rfl)) (fun vs w1 he hd => StepG.plain (by kernel_rfl) (gives_move (x := (.tmp 6)) (v := (.slice (some ⟨bi, oi, none⟩) 37 ci)) (by kernel_rfl) (by kernel_rfl) same_val)) ?_
    refine rowsE_cons (.val (.slice (some ⟨bi, oi + 1, none⟩) 36 (ci - 1))) (by kernel_rfl) _ rfl (by decide) nine_ex (nine_upd _ (by kernel_rfl)) (fun vs w1 he hd => StepG.plain (by kernel_rfl) (gives_slice (x := .tmp 80) (lo := some (.const (.int .i64 1))) (hi := none) (mx := none) (v := (.slice (some ⟨bi, oi + 1, none⟩) 36 (ci - 1))) (by kernel_rfl) (by rw [show (actsTo _ _ _ vs _).eval (.tmp 80) = (.slice (some ⟨bi, oi, none⟩) 37 ci) from Eq.trans (b := vs 9) (by kernel_rfl) (hd 9 (.val (.slice (some ⟨bi, oi, none⟩) 37 ci)) (by kernel_rfl) (by kernel_rfl) (by kernel_rfl))]; exact HF1.out _) same_val)) ?_
    refine rowsE_app 8 [31] ([31] ++ I.drop 1) (by kernel_rfl) (by kernel_rfl) (by kernel_rfl) (by kernel_rfl) (by kernel_rfl) (by kernel_rfl) _ rfl (by decide) (.inl (by kernel_rfl)) (fun vs w1 he hd => StepG.plain (by kernel_rfl) (gives_appO (tx := 22) (vy := vs 10) (x := .tmp 79) (y := .tmp 81) (vx := vs 8) (xs := [31]) (news := I.drop 1) (by kernel_rfl) (by kernel_rfl) (by kernel_rfl) he (hd 8 (.own w10.heap.size [31]) (by kernel_rfl) (by kernel_rfl) (by kernel_rfl)) (by rw [show vs 10 = (.slice (some ⟨bi, oi + 1, none⟩) 36 (ci - 1)) from (hd 10 (.val (.slice (some ⟨bi, oi + 1, none⟩) 36 (ci - 1))) (by kernel_rfl) (by kernel_rfl) (by kernel_rfl))]; exact HSR1.out _ he) (by rw [List.length_drop, HI37.out]; decide))) ?_
    refine rowsE_cons (.own w10.heap.size [30, 0, 0, 0, 31]) (by kernel_rfl) _ rfl (by decide) nine_ex (nine_upd _ (by kernel_rfl)) (fun vs w1 he hd => StepG.plain (by kernel_rfl) (gives_litB 5 #[(0, .const (.int .u8 30)), (1, .const (.int .u8 0)), (2, .const (.int .u8 0)), (3, .const (.int .u8 0)), (4, .const (.int .u8 31))] [30, 0, 0, 0, 31] rfl (by omega) (by omega) (by kernel_rfl) (by kernel_rfl) he)) ?_
    refine rowsE_app 12 [30, 0, 0, 0, 31] ([30, 0, 0, 0, 31] ++ List.replicate 31 0) (by kernel_rfl) (by kernel_rfl) (by kernel_rfl) (by kernel_rfl) (by kernel_rfl) (by kernel_rfl) _ rfl (by decide) (.inl (by kernel_rfl)) (fun vs w1 he hd => StepG.plain (by kernel_rfl) (gives_zerosO (x := .tmp 83) (y := .const (.int .i64 31)) (vx := vs 12) (xs := [30, 0, 0, 0, 31]) (m := 31) (by kernel_rfl) (by kernel_rfl) (by kernel_rfl) he (hd 12 (.own w10.heap.size [30, 0, 0, 0, 31]) (by kernel_rfl) (by kernel_rfl) (by kernel_rfl)) (by decide))) ?_
    refine rowsE_cons (.own w10.heap.size [30, 0, 0, 0, 33]) (by kernel_rfl) _ rfl (by decide) nine_ex (nine_upd _ (by kernel_rfl)) (fun vs w1 he hd => StepG.plain (by kernel_rfl) (gives_litB 5 #[(0, .const (.int .u8 30)), (1, .const (.int .u8 0)), (2, .const (.int .u8 0)), (3, .const (.int .u8 0)), (4, .const (.int .u8 33))] [30, 0, 0, 0, 33] rfl (by omega) (by omega) (by kernel_rfl) (by kernel_rfl) he)) ?_
    refine rowsE_app 14 [30, 0, 0, 0, 33] ([30, 0, 0, 0, 33] ++ List.replicate 33 0) (by kernel_rfl) (by kernel_rfl) (by kernel_rfl) (by kernel_rfl) (by kernel_rfl) (by kernel_rfl) _ rfl (by decide) (.inl (by kernel_rfl)) (fun vs w1 he hd => StepG.plain (by kernel_rfl) (gives_zerosO (x := .tmp 85) (y := .const (.int .i64 33)) (vx := vs 14) (xs := [30, 0, 0, 0, 33]) (m := 33) (by kernel_rfl) (by kernel_rfl) (by kernel_rfl) he (hd 14 (.own w10.heap.size [30, 0, 0, 0, 33]) (by kernel_rfl) (by kernel_rfl) (by kernel_rfl)) (by decide))) ?_
    refine rowsE_cons (.val (.slice az 37 cz)) (by kernel_rfl) _ rfl (by decide) nine_ex (nine_upd _ (by kernel_rfl)) (fun vs w1 he hd => StepG.plain (by kernel_rfl) (gives_move (x := (.tmp 13)) (v := (.slice az 37 cz)) (by kernel_rfl) (by kernel_rfl) same_val)) ?_
    refine rowsE_cons (.val (.slice (some ⟨bi, oi, none⟩) 37 ci)) (by kernel_rfl) _ rfl (by decide) nine_ex (nine_upd _ (by kernel_rfl)) (fun vs w1 he hd => StepG.plain (by kernel_rfl) (gives_move (x := (.tmp 6)) (v := (.slice (some ⟨bi, oi, none⟩) 37 ci)) (by kernel_rfl) (by kernel_rfl) same_val)) ?_
    refine rowsE_last .nine (by kernel_rfl) (fun vs w1 he hd => ?_) ?_
    · obtain ⟨sa0, sc0, se0⟩ := ownsRow_shape (hd 0 (.own w10.heap.size [30]) (by kernel_rfl) (by kernel_rfl) (by kernel_rfl)).2
      obtain ⟨sa7, sc7, se7⟩ := ownsRow_shape (hd 7 (.own w10.heap.size (I ++ [0])) (by kernel_rfl) (by kernel_rfl) (by kernel_rfl)).2
      obtain ⟨sa11, sc11, se11⟩ := ownsRow_shape (hd 11 (.own w10.heap.size ([31] ++ I.drop 1)) (by kernel_rfl) (by kernel_rfl) (by kernel_rfl)).2
      obtain ⟨sa13, sc13, se13⟩ := ownsRow_shape (hd 13 (.own w10.heap.size ([30, 0, 0, 0, 31] ++ List.replicate 31 0)) (by kernel_rfl) (by kernel_rfl) (by kernel_rfl)).2
      obtain ⟨sa15, sc15, se15⟩ := ownsRow_shape (hd 15 (.own w10.heap.size ([30, 0, 0, 0, 33] ++ List.replicate 33 0)) (by kernel_rfl) (by kernel_rfl) (by kernel_rfl)).2
      have se2 := (hd 2 (.val (.slice (some ⟨bi, oi, none⟩) 36 ci)) (by kernel_rfl) (by kernel_rfl) (by kernel_rfl))
      simp only [FactB.val] at se2
      have se16 := (hd 16 (.val (.slice az 37 cz)) (by kernel_rfl) (by kernel_rfl) (by kernel_rfl))
      simp only [FactB.val] at se16
      have se17 := (hd 17 (.val (.slice (some ⟨bi, oi, none⟩) 37 ci)) (by kernel_rfl) (by kernel_rfl) (by kernel_rfl))
      simp only [FactB.val] at se17
      refine StepG.plain (by kernel_rfl) (gives_build9 (a0 := none) (n0 := 0) (c0 := 0) (x0 := .const (.slice none 0 0)) (x1 := .tmp 71) (x2 := .tmp 73) (x3 := .tmp 78) (x4 := .tmp 82) (x5 := .tmp 84) (x6 := .tmp 86) (x7 := .tmp 87) (x8 := .tmp 88) (by kernel_rfl) (by kernel_rfl) (Eq.trans (b := vs 0) (by kernel_rfl) se0) (Eq.trans (b := vs 2) (by kernel_rfl) se2) (Eq.trans (b := vs 7) (by kernel_rfl) se7) (Eq.trans (b := vs 11) (by kernel_rfl) se11) (Eq.trans (b := vs 13) (by kernel_rfl) se13) (Eq.trans (b := vs 15) (by kernel_rfl) se15) (Eq.trans (b := vs 16) (by kernel_rfl) se16) (Eq.trans (b := vs 17) (by kernel_rfl) se17) ⟨⟨Ex.alloc w1 _, ⟨_, rfl⟩, fun k hk => by cases hk⟩, ⟨w1.heap.size, rfl, ?_⟩⟩)
      show (w1.alloc _).heap[w1.heap.size]? = some (.cells #[.slice none 0 0, vs 0, vs 2, vs 7, vs 11, vs 13, vs 15, vs 16, vs 17] 22 (0, 0))
      rw [se0, se2, se7, se11, se13, se15, se16, se17]
      exact heap_alloc_new w1 _
    refine rowsE_cons (.val (.int .i64 9)) (by kernel_rfl) _ rfl (by decide) nine_ex (nine_upd _ (by kernel_rfl)) (fun vs w1 he hd => StepG.plain (by kernel_rfl) (gives_len (ty := 35) (x := .tmp 89) (n := 9) (by kernel_rfl) (Eq.trans (b := vs 18) (by kernel_rfl) (hd 18 (.nine) (by kernel_rfl) (by kernel_rfl) (by kernel_rfl)).choose_spec) ⟨_, Tryd.underlying35⟩ same_val)) ?_
    refine rowsE_cons (.val (.int .i64 0)) (by kernel_rfl) _ rfl (by decide) nine_ex (nine_upd _ (by kernel_rfl)) (fun vs w1 he hd => StepG.plain (by kernel_rfl) (gives_move (x := .const (.int .i64 0)) (v := .int .i64 0) (by kernel_rfl) (by kernel_rfl) same_val)) ?_
    exact rowsE_nil
  intro vs w11 hx hF hE
  have e1 : vs 1 = (.slice (some ⟨bi, oi, none⟩) 37 ci) := toldR_at hF 1 (.val (.slice (some ⟨bi, oi, none⟩) 37 ci)) (by decide) (by kernel_rfl) (by kernel_rfl)
  have e2 : vs 2 = (.slice (some ⟨bi, oi, none⟩) 36 ci) := toldR_at hF 2 (.val (.slice (some ⟨bi, oi, none⟩) 36 ci)) (by decide) (by kernel_rfl) (by kernel_rfl)
  have e4 : vs 4 = (.slice (some ⟨bi, oi, none⟩) 37 ci) := toldR_at hF 4 (.val (.slice (some ⟨bi, oi, none⟩) 37 ci)) (by decide) (by kernel_rfl) (by kernel_rfl)
  have e9 : vs 9 = (.slice (some ⟨bi, oi, none⟩) 37 ci) := toldR_at hF 9 (.val (.slice (some ⟨bi, oi, none⟩) 37 ci)) (by decide) (by kernel_rfl) (by kernel_rfl)
  have e10 : vs 10 = (.slice (some ⟨bi, oi + 1, none⟩) 36 (ci - 1)) := toldR_at hF 10 (.val (.slice (some ⟨bi, oi + 1, none⟩) 36 (ci - 1))) (by decide) (by kernel_rfl) (by kernel_rfl)
  have e16 : vs 16 = (.slice az 37 cz) := toldR_at hF 16 (.val (.slice az 37 cz)) (by decide) (by kernel_rfl) (by kernel_rfl)
  have e17 : vs 17 = (.slice (some ⟨bi, oi, none⟩) 37 ci) := toldR_at hF 17 (.val (.slice (some ⟨bi, oi, none⟩) 37 ci)) (by decide) (by kernel_rfl) (by kernel_rfl)
  have e19 : vs 19 = (.int .i64 9) := toldR_at hF 19 (.val (.int .i64 9)) (by decide) (by kernel_rfl) (by kernel_rfl)
  have e20 : vs 20 = (.int .i64 0) := toldR_at hF 20 (.val (.int .i64 0)) (by decide) (by kernel_rfl) (by kernel_rfl)
  have o0 := toldR_at hF 0 (.own w10.heap.size [30]) (by decide) (by kernel_rfl) (by kernel_rfl)
  have o7 := toldR_at hF 7 (.own w10.heap.size (I ++ [0])) (by decide) (by kernel_rfl) (by kernel_rfl)
  have o11 := toldR_at hF 11 (.own w10.heap.size ([31] ++ I.drop 1)) (by decide) (by kernel_rfl) (by kernel_rfl)
  have o13 := toldR_at hF 13 (.own w10.heap.size ([30, 0, 0, 0, 31] ++ List.replicate 31 0)) (by decide) (by kernel_rfl) (by kernel_rfl)
  have o15 := toldR_at hF 15 (.own w10.heap.size ([30, 0, 0, 0, 33] ++ List.replicate 33 0)) (by decide) (by kernel_rfl) (by kernel_rfl)
  obtain ⟨g, e18, hrow⟩ := hE
  rw [e2, e16, e17] at hrow
  obtain ⟨L9, hL9⟩ : ∃ L : List Value, L = [.slice none 0 0, vs 0, (.slice (some ⟨bi, oi, none⟩) 36 ci), vs 7, vs 11, vs 13, vs 15, (.slice az 37 cz), (.slice (some ⟨bi, oi, none⟩) 37 ci)] := ⟨_, rfl⟩
  have HRo : Hid (w11.heap[g]? = some (.cells L9.toArray 22 (0, 0))) := by rw [hL9]; exact hrow
  have HLn : Hid (L9.length = 9) := by rw [hL9]; rfl
  have hi37 := HI37.out
  have hI37 : BSl w10 (.slice (some ⟨bi, oi, none⟩) I.length ci) I := by rw [HI37.out]; exact HI10.out
  have HAll : Hid (∀ v ∈ L9, Msg w11 v) := by
    intro v hv
    rw [hL9] at hv
    simp only [List.mem_cons, List.not_mem_nil, or_false] at hv
    rcases hv with rfl | rfl | rfl | rfl | rfl | rfl | rfl | rfl | rfl
    · exact ⟨[], bsl_none _, by simp, fun q h => by cases h⟩
    · exact msg_own o0 (by simp)
    · refine ⟨I.take 36, (hI37.head' (n := 36) (by omega)).fresh hx, by simp; omega, fun q e => ?_⟩
      cases e
      exact Nat.lt_of_lt_of_le hbi hx.size
    · exact msg_own o7 (by simp; omega)
    · exact msg_own o11 (by simp; omega)
    · exact msg_own o13 (by simp)
    · exact msg_own o15 (by simp)
    · exact HZ10.out.next hx
    · refine ⟨I, HI10.out.fresh hx, by omega, fun q e => ?_⟩
      cases e
      exact Nat.lt_of_lt_of_le hbi hx.size
  have HS11 := hidden (HS10.out.next hx)
  have HL11 := hidden (HL10.out.next hx)
  have HB11 := hidden (HB10.out.trans (Below.mono hx HB10.out.size))
  simp only [List.length_cons, List.length_nil, actsTo, if_true, dstOf, List.getElem?_toArray, List.getElem?_cons_succ, List.getElem?_cons_zero, Option.bind_some, Act.put, List.setIfInBounds_toArray, List.set_cons_zero, List.set_cons_succ]
  simp only [e1, e2, e4, e9, e10, e16, e17, e18, e19, e20]
  clear hF hrow hL9 o0 o7 o11 o13 o15 hI37 hi37 HF36 HF1 HSRC HSR1 HS10 HI10 HB10 HZ10 HL10 hbi
  generalize vs 0 = y0 at ⊢
  generalize vs 3 = y3 at ⊢
  generalize vs 5 = y5 at ⊢
  generalize vs 6 = y6 at ⊢
  generalize vs 7 = y7 at ⊢
  generalize vs 8 = y8 at ⊢
  generalize vs 11 = y11 at ⊢
  generalize vs 12 = y12 at ⊢
  generalize vs 13 = y13 at ⊢
  generalize vs 14 = y14 at ⊢
  generalize vs 15 = y15 at ⊢
  clear e1 e2 e4 e9 e10 e16 e17 e18 e19 e20 hx vs
  go_wp2_with fail
  go_loopw [91] (fun c wr => ∃ i : Nat, i ≤ 9 ∧ c = .int .i64 (i : Int) ∧ Below w11.heap.size w11 wr) (fun c _ => 9 - (intOf c).toNat)
  case atStart => exact ⟨0, by omega, rfl, Below.refl _ _⟩
  case round =>
    obtain ⟨i, hi, rfl, hbb⟩ := hrel
    have HBr := hidden (HB11.out.trans (hbb.mono HB11.out.size))
    by_cases hlt : i < 9
    rotate_left
    · have hlt' : ¬ (i : Int) < 9 := by omega
      clear hbb HS11 HB11 HL11 HRo HAll
      go_wp2_with fail
      refine (known_c wr (HR.out.fresh HBr.out) (HT.out.fresh HBr.out)).mono ?_
      rintro e wz ⟨rfl, hbz⟩
      have HBz := hidden (HBr.out.trans (hbz.mono HBr.out.size))
      clear hbz
      go_wp2_with fail
      go_ret
      exact ⟨rfl, HBz.out⟩
    · have hlt' : (i : Int) < 9 := by omega
      have HB9r := hidden hbb
      obtain ⟨vm, hcell, hm⟩ := row_at HRo.out HAll.out hbb i (by rw [HLn.out]; exact hlt)
      obtain ⟨M, hM, hMl, hMq⟩ := hm
      have HMr := hidden hM
      have HMl := hidden hMl
      have HMq := hidden hMq
      obtain ⟨am, cm, rfl⟩ := hM.len
      have HAr := hidden (HS11.out.next hbb)
      have HLr := hidden (HL11.out.next hbb)
      obtain ⟨q0, q1, q2, q3, q4, q5⟩ := side_cells HAr.out.row
      generalize hlm : M.length = lm at HMr HMq hcell
      have HLM := hidden hlm
      clear hM hMl hMq hlm hbb HS11 HL11
      go_wp2_with fail
      refine (Server_c _ _ _ _ _ ⟨#[99]⟩ ⟨#[115]⟩ K [112, 105, 110] [1] [2] M (by simp) (by simp) (by simp) (by decide) (by decide) (by have := HMl.out; omega) wr (HR.out.fresh HBr.out) (HT.out.fresh HBr.out) HAr.out.s HMr.out).mono ?_
      rintro e w20 ⟨hb10, vr, vk, vh, rfl, hvr, hvk, hvh⟩
      have HRS : Hid (∀ (wx : World), SideS wx (.slice (some ⟨G, 0, none⟩) 32 32) (.slice (some ⟨P, 0, none⟩) 3 3) (.slice (some ⟨B, 0, none⟩) 1 1) (.slice (some ⟨B + 1, 0, none⟩) 1 1) K [112, 105, 110] [1] [2] → BSl wx (.slice am lm cm) M → (∀ q, (Value.slice am lm cm).ownBlock = some q → q < wx.heap.size) → Calls Tryd.prog 10 #[.agg #[.slice (some ⟨G, 0, none⟩) 32 32, .slice (some ⟨P, 0, none⟩) 3 3, .string ⟨#[99]⟩, .string ⟨#[115]⟩, .slice (some ⟨B, 0, none⟩) 1 1, .slice (some ⟨B + 1, 0, none⟩) 1 1], .slice am lm cm] wx (RSrvPost wx (srvO K [112, 105, 110] ⟨#[99]⟩ ⟨#[115]⟩ [1] [2] M))) := fun wx hs hv hvb => rServer_c _ _ _ _ _ ⟨#[99]⟩ ⟨#[115]⟩ K [112, 105, 110] [1] [2] M (by simp) (by simp) (by simp) (by decide) (by decide) (by have := HMl.out; omega) wx hs hv hvb
      have HSL := hidden (srvO_le K [112, 105, 110] ⟨#[99]⟩ ⟨#[115]⟩ [1] [2] M)
      generalize srvO K [112, 105, 110] ⟨#[99]⟩ ⟨#[115]⟩ [1] [2] M = O at hvr hvk hvh HRS HSL ⊢
      obtain ⟨oe, oR, oK, oH⟩ := O
      simp only at hvr hvk hvh HSL ⊢
      have HVR := hidden hvr
      have HVK := hidden hvk
      have HVH := hidden hvh
      obtain ⟨ar, cr, rfl⟩ := hvr.len
      obtain ⟨ak, ck, rfl⟩ := hvk.len
      obtain ⟨ah, ch, rfl⟩ := hvh.len
      generalize hlr : oR.length = lR at HVR HSL ⊢
      generalize hlk : oK.length = lK at HVK ⊢
      generalize hlh : oH.length = lH at HVH ⊢
      have HLR := hidden hlr
      have HLK := hidden hlk
      have HLH := hidden hlh
      have hbA : Below w20.heap.size w20 (w20.alloc (.cells #[.slice ak lK ck, .slice ah lH ch] 30)) := (Below.refl _ w20).alloc (Nat.le_refl _) _
      have HX11 := hidden (hb10.trans (hbA.mono hb10.size))
      have HBX : Hid ((w20.alloc (.cells #[.slice ak lK ck, .slice ah lH ch] 30)).heap[w20.heap.size]? = some (.cells #[.slice ak lK ck, .slice ah lH ch] 30 (0, 0))) := heap_alloc_new w20 _
      have HVR1 := hidden (HVR.out.fresh hbA)
      have HVK1 := hidden (HVK.out.fresh hbA)
      have HVH1 := hidden (HVH.out.fresh hbA)
      clear q0 q1 q2 q3 q4 q5
      obtain ⟨q0, q1, q2, q3, q4, q5⟩ := side_cells (HAr.out.next HX11.out).row
      clear hvr hvk hvh hlr hlk hlh hbA hb10 HVR HVK HVH hcell
      go_wp2_with fail
      generalize w20.alloc (.cells #[.slice ak lK ck, .slice ah lH ch] 30) = w21 at HX11 HBX HVR1 HVK1 HVH1 q0 q1 q2 q3 q4 q5 ⊢
      generalize w20.heap.size = BX at HBX ⊢
      refine (in_c _ _ _ _ _ _ _ _ _ _ _ _ _ _ w21).mono ?_
      rintro e w22 ⟨rfl, hb12⟩
      have HX12 := hidden (HX11.out.trans (hb12.mono HX11.out.size))
      have HY12 := hidden hb12
      clear q0 q1 q2 q3 q4 q5 hb12
      go_wp2_with fail
      refine (HRS.out w22 (HAr.out.s.fresh HX12.out) (HMr.out.fresh HX12.out) (fun q e => by have := HMq.out q e; have := HX12.out.size; omega)).mono ?_
      rintro e w23 ⟨hb13, ur, uk, uh, rfl, hur, huk, huh⟩
      simp only at hur huk huh ⊢
      have HUR := hidden hur
      have HUK := hidden huk
      have HUH := hidden huh
      obtain ⟨er, fr, rfl⟩ := ownsRow_shape hur
      obtain ⟨ek, fk, rfl⟩ := huk.len
      obtain ⟨eh, fh, rfl⟩ := huh.len
      clear hur huk huh
      rw [HLK.out] at HUK ⊢
      rw [HLH.out] at HUH ⊢
      rw [HLR.out]
      have hbB : Below w23.heap.size w23 (w23.alloc (.cells #[.slice ek lK fk, .slice eh lH fh] 36)) := (Below.refl _ w23).alloc (Nat.le_refl _) _
      have hbC := hb13.trans (hbB.mono hb13.size)
      have HY14 := hidden (HY12.out.trans (hbC.mono HY12.out.size))
      have HX14 := hidden (HX12.out.trans (hbC.mono HX12.out.size))
      have HBY : Hid ((w23.alloc (.cells #[.slice ek lK fk, .slice eh lH fh] 36)).heap[w23.heap.size]? = some (.cells #[.slice ek lK fk, .slice eh lH fh] 36 (0, 0))) := heap_alloc_new w23 _
      have HBX4 := hidden ((HY14.out.block BX (lt_of_block HBX.out)).trans HBX.out)
      have HUR1 := hidden (own_next HUR.out hbB)
      have HUK1 := hidden (HUK.out.fresh hbB)
      have HUH1 := hidden (HUH.out.fresh hbB)
      obtain ⟨SR, hSR⟩ : ∃ S : ByteArray, S = ⟨oR.toArray⟩ := ⟨_, rfl⟩
      have r1 := run_str (HVR1.out.fresh HY14.out) hSR
      have r2 := run_str (BSl.ofRow HUR1.out) hSR
      rw [HLR.out] at r2
      obtain ⟨x0, x1⟩ := cells2 HBX4.out
      obtain ⟨y0, y1⟩ := cells2 HBY.out
      clear hbB hbC hb13 HBX HUR HUK HUH HX11 HY12 HRS hSR
      go_wp2_with fail
      generalize w23.alloc (.cells #[.slice ek lK fk, .slice eh lH fh] 36) = w24 at HY14 HX14 HBY HBX4 HUR1 HUK1 HUH1 r1 r2 x0 x1 y0 y1 ⊢
      generalize w23.heap.size = BY at HBY y0 y1 ⊢
      refine (lsame_c _ _ _ _ oK oH w24 (HVK1.out.fresh HY14.out) (HVH1.out.fresh HY14.out) HUK1.out HUH1.out).mono ?_
      rintro e w25 ⟨rfl, hb15⟩
      have HX15 := hidden (HX14.out.trans (hb15.mono HX14.out.size))
      have HUR5 := hidden (own_next HUR1.out hb15)
      have HBQ := hidden (BSl.ofRow HUR5.out)
      rw [HLR.out] at HBQ
      have HLQ : Hid (∀ q, (Value.slice er lR fr).ownBlock = some q → w22.heap.size ≤ q ∧ q < w25.heap.size) := fun q e => HUR5.out.lt q (by rw [HLR.out]; exact e)
      clear r1 r2 x0 x1 y0 y1 hb15 HBY HBX4 HUR1 HUK1 HUH1 HY14 HX14 HVK1 HVH1 HVR1
      go_wp2_with (at_builtin; (refine wpList_own _ rfl (.tmp 128) (.tmp 129) 22 rfl w25 _ [] rfl (own_none w25) _ oR rfl (HBQ.out.fresh (own_none w25).b).src (by have h1 := HSL.out; have h2 := HLR.out; simp; omega) ?_))
      intro v1' w26 o1' _ _
      obtain ⟨ao, co, rfl⟩ := o1'.shape
      have HOw := hidden (o1'.alloc (.cells #[.int .u8 0] 5))
      have HSr : Hid (Src Tryd.prog 1 22 (.slice (some ⟨w26.heap.size, 0, none⟩) 1 1) 1 (bcells [0]) (w26.alloc (.cells #[.int .u8 0] 5))) := src_lit [0]
      clear o1'
      generalize hxl : oR.length = lx at HOw ⊢
      have HXL := hidden hxl
      clear hxl
      go_wp2_with (at_builtin; (refine wpList_own _ rfl (.tmp 130) (.tmp 131) 22 rfl w25 _ oR rfl HOw.out _ [0] rfl HSr.out (by have h1 := HSL.out; have h2 := HLR.out; simp; omega) ?_))
      intro v2' w27 o2' _ _
      obtain ⟨ap, cp, rfl⟩ := o2'.shape
      have HQ2 : Hid (Msg w27 (.slice ap (oR ++ [0]).length cp)) := ⟨oR ++ [0], o2'.bsl, by have h1 := HSL.out; have h2 := HLR.out; simp; omega, fun q e => (o2'.1.lt q e).2⟩
      have hX27 := HX15.out.trans (o2'.b.mono HX15.out.size)
      have HQ1 : Hid (Msg w27 (.slice er lR fr)) := Msg.next ⟨oR, HBQ.out, by have h1 := HSL.out; have h2 := HLR.out; omega, fun q e => (HLQ.out q e).2⟩ o2'.b
      generalize (oR ++ [0]).length = lq at HQ2 ⊢
      have hb28 : Below w27.heap.size w27 (w27.alloc (.cells #[.slice am lm cm, .slice er lR fr, .slice ap lq cp, .slice al 37 cl] 22)) := (Below.refl _ w27).alloc (Nat.le_refl _) _
      have hbQ := hX27.trans (hb28.mono hX27.size)
      have HS6 := hidden (HAr.out.next hbQ)
      have HB6 := hidden (HBr.out.trans (hbQ.mono HBr.out.size))
      have HB96 := hidden (HB9r.out.trans (hbQ.mono HB9r.out.size))
      have HRp : Hid ((w27.alloc (.cells #[.slice am lm cm, .slice er lR fr, .slice ap lq cp, .slice al 37 cl] 22)).heap[w27.heap.size]? = some (.cells #[.slice am lm cm, .slice er lR fr, .slice ap lq cp, .slice al 37 cl] 22 (0, 0))) := heap_alloc_new w27 _
      have HN : Hid (∀ v ∈ ([.slice am lm cm, .slice er lR fr, .slice ap lq cp, .slice al 37 cl] : List Value), Msg (w27.alloc (.cells #[.slice am lm cm, .slice er lR fr, .slice ap lq cp, .slice al 37 cl] 22)) v) := by
        intro v hv
        simp only [List.mem_cons, List.not_mem_nil, or_false] at hv
        rcases hv with rfl | rfl | rfl | rfl
        · exact Msg.next ⟨M, HMr.out, HMl.out, HMq.out⟩ hbQ
        · exact HQ1.out.next hb28
        · exact HQ2.out.next hb28
        · exact HLr.out.next hbQ
      clear hX27 hb28 hbQ o2' HOw HSr HQ1 HQ2 HAr HBr HB9r HMr HMl HMq HSL HX12 HX15 HUR5 HBQ HLQ HLR HLK HLH HLM HLr HXL
      go_wp2_with fail
      generalize w27.alloc (.cells #[.slice am lm cm, .slice er lR fr, .slice ap lq cp, .slice al 37 cl] 22) = w28 at HS6 HB6 HB96 HN HRp ⊢
      generalize w27.heap.size = B4 at HRp ⊢
      go_loopw [136] (fun c wr => ∃ j : Nat, j ≤ 4 ∧ c = .int .i64 (j : Int) ∧ Below w28.heap.size w28 wr) (fun c _ => 4 - (intOf c).toNat)
      case atStart => exact ⟨0, by omega, rfl, Below.refl _ _⟩
      case round =>
        obtain ⟨j, hj, rfl, hbb⟩ := hrel
        by_cases hltj : j < 4
        rotate_left
        · have hltj' : ¬ (j : Int) < 4 := by omega
          have HBo := hidden (HB96.out.trans (hbb.mono HB96.out.size))
          clear hbb HS6 HB6 HB96 HN HRp
          go_wp2
          go_roundw
          case rel => exact ⟨i + 1, by omega, by go_num, HBo.out⟩
          case measure => simp [intOf]; omega
        · have hltj' : (j : Int) < 4 := by omega
          have HBB := hidden hbb
          have HBi := hidden (HB6.out.trans (hbb.mono HB6.out.size))
          obtain ⟨vm, hcell, hm⟩ := row_at (cs := [.slice am lm cm, .slice er lR fr, .slice ap lq cp, .slice al 37 cl]) HRp.out HN.out hbb j hltj
          obtain ⟨Z, hZ, hZl, hZq⟩ := hm
          have HZr := hidden hZ
          have HZl := hidden hZl
          have HZq := hidden hZq
          obtain ⟨an, cn, rfl⟩ := hZ.len
          have HSi := hidden (HS6.out.next hbb)
          obtain ⟨q0, q1, q2, q3, q4, q5⟩ := side_cells HSi.out.row
          generalize hln : Z.length = ln at HZr HZq hcell
          clear hZ hZl hZq hln hbb HS6 HB6 HB96 HN HRp
          go_wp2_with fail
          refine (Client_c _ _ _ _ _ ⟨#[99]⟩ ⟨#[115]⟩ K [112, 105, 110] [1] [2] Z (by simp) (by simp) (by simp) (by decide) (by decide) (by have := HZl.out; omega) wr (HR.out.fresh HBi.out) (HT.out.fresh HBi.out) HSi.out.s HZr.out).mono ?_
          rintro e w40 ⟨hb40, vk, vh, rfl, hvk, hvh⟩
          have HRC : Hid (∀ (wx : World), SideS wx (.slice (some ⟨G, 0, none⟩) 32 32) (.slice (some ⟨P, 0, none⟩) 3 3) (.slice (some ⟨B, 0, none⟩) 1 1) (.slice (some ⟨B + 1, 0, none⟩) 1 1) K [112, 105, 110] [1] [2] → BSl wx (.slice an ln cn) Z → (∀ q, (Value.slice an ln cn).ownBlock = some q → q < wx.heap.size) → Calls Tryd.prog 13 #[.agg #[.slice (some ⟨G, 0, none⟩) 32 32, .slice (some ⟨P, 0, none⟩) 3 3, .string ⟨#[99]⟩, .string ⟨#[115]⟩, .slice (some ⟨B, 0, none⟩) 1 1, .slice (some ⟨B + 1, 0, none⟩) 1 1], .slice an ln cn] wx (RCliPost wx (cliO K [112, 105, 110] ⟨#[99]⟩ ⟨#[115]⟩ [1] [2] Z))) := fun wx hs hv hvb => rClient_c _ _ _ _ _ ⟨#[99]⟩ ⟨#[115]⟩ K [112, 105, 110] [1] [2] Z (by simp) (by simp) (by simp) (by decide) (by decide) (by have := HZl.out; omega) wx hs hv hvb
          generalize cliO K [112, 105, 110] ⟨#[99]⟩ ⟨#[115]⟩ [1] [2] Z = O2 at hvk hvh HRC ⊢
          obtain ⟨pe, pK, pH⟩ := O2
          simp only at hvk hvh ⊢
          have HVK := hidden hvk
          have HVH := hidden hvh
          obtain ⟨ak, ck, rfl⟩ := hvk.len
          obtain ⟨ah, ch, rfl⟩ := hvh.len
          generalize hlk : pK.length = lK at HVK ⊢
          generalize hlh : pH.length = lH at HVH ⊢
          have HLK := hidden hlk
          have HLH := hidden hlh
          have hbA : Below w40.heap.size w40 (w40.alloc (.cells #[.slice ak lK ck, .slice ah lH ch] 30)) := (Below.refl _ w40).alloc (Nat.le_refl _) _
          have HX41 := hidden (hb40.trans (hbA.mono hb40.size))
          have HBX : Hid ((w40.alloc (.cells #[.slice ak lK ck, .slice ah lH ch] 30)).heap[w40.heap.size]? = some (.cells #[.slice ak lK ck, .slice ah lH ch] 30 (0, 0))) := heap_alloc_new w40 _
          have HVK1 := hidden (HVK.out.fresh hbA)
          have HVH1 := hidden (HVH.out.fresh hbA)
          clear q0 q1 q2 q3 q4 q5
          obtain ⟨q0, q1, q2, q3, q4, q5⟩ := side_cells (HSi.out.next HX41.out).row
          clear hvk hvh hlk hlh hbA hb40 HVK HVH hcell
          go_wp2_with fail
          generalize w40.alloc (.cells #[.slice ak lK ck, .slice ah lH ch] 30) = w41 at HX41 HBX HVK1 HVH1 q0 q1 q2 q3 q4 q5 ⊢
          generalize w40.heap.size = BX at HBX ⊢
          refine (in_c _ _ _ _ _ _ _ _ _ _ _ _ _ _ w41).mono ?_
          rintro e w42 ⟨rfl, hb42⟩
          have HX42 := hidden (HX41.out.trans (hb42.mono HX41.out.size))
          have HY42 := hidden hb42
          clear q0 q1 q2 q3 q4 q5 hb42
          go_wp2_with fail
          refine (HRC.out w42 (HSi.out.s.fresh HX42.out) (HZr.out.fresh HX42.out) (fun q e => by have := HZq.out q e; have := HX42.out.size; omega)).mono ?_
          rintro e w43 ⟨hb43, uk, uh, rfl, huk, huh⟩
          simp only at huk huh ⊢
          have HUK := hidden huk
          have HUH := hidden huh
          obtain ⟨ek, fk, rfl⟩ := huk.len
          obtain ⟨eh, fh, rfl⟩ := huh.len
          clear huk huh
          rw [HLK.out] at HUK ⊢
          rw [HLH.out] at HUH ⊢
          have hbB : Below w43.heap.size w43 (w43.alloc (.cells #[.slice ek lK fk, .slice eh lH fh] 36)) := (Below.refl _ w43).alloc (Nat.le_refl _) _
          have hbC := hb43.trans (hbB.mono hb43.size)
          have hY44 := HY42.out.trans (hbC.mono HY42.out.size)
          have HX44 := hidden (HX42.out.trans (hbC.mono HX42.out.size))
          have HBY : Hid ((w43.alloc (.cells #[.slice ek lK fk, .slice eh lH fh] 36)).heap[w43.heap.size]? = some (.cells #[.slice ek lK fk, .slice eh lH fh] 36 (0, 0))) := heap_alloc_new w43 _
          have HBX4 := hidden ((hY44.block BX (lt_of_block HBX.out)).trans HBX.out)
          have HVK4 := hidden (HVK1.out.fresh hY44)
          have HVH4 := hidden (HVH1.out.fresh hY44)
          have HUK1 := hidden (HUK.out.fresh hbB)
          have HUH1 := hidden (HUH.out.fresh hbB)
          have HB44 := hidden (HBi.out.trans (HX44.out.mono HBi.out.size))
          obtain ⟨x0, x1⟩ := cells2 HBX4.out
          obtain ⟨y0, y1⟩ := cells2 HBY.out
          clear hbB hbC hb43 hY44 HBX HUK HUH HX41 HY42 HX42 HRC HVK1 HVH1 HSi HZr HZl HZq
          go_wp2_with fail
          generalize w43.alloc (.cells #[.slice ek lK fk, .slice eh lH fh] 36) = w44 at HX44 HBY HBX4 HVK4 HVH4 HUK1 HUH1 HB44 x0 x1 y0 y1 ⊢
          generalize w43.heap.size = BY at HBY y0 y1 ⊢
          refine (lsame_c _ _ _ _ pK pH w44 HVK4.out HVH4.out HUK1.out HUH1.out).mono ?_
          rintro e w47 ⟨rfl, hb47⟩
          have HX47 := hidden (HX44.out.trans (hb47.mono HX44.out.size))
          clear x0 x1 y0 y1 hb47 HX44 HBX4 HBY HVK4 HVH4 HUK1 HUH1
          go_wp2
          go_roundw
          case rel => exact ⟨j + 1, by omega, by go_num, HBB.out.trans (HX47.out.mono HBB.out.size)⟩
          case measure => simp [intOf]; omega
end Go.Proofs.YtookapglookphaaDoor
