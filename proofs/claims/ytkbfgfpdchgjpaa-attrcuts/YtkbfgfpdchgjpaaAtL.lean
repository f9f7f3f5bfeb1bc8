/- The law AttrCuts. -/
import Derived.Test.YtkbfgfpdchgjpaaAtK
import Derived.Test.YtkbfgfpdchgjpaaAtQ
import Derived.Test.YtkbfgfpdchgjpaaAtW
namespace Go.Proofs.Ytkbfgfpdchgjpaa
open Go Go.RowKit

/-- How many bytes the first j flags tell, with the flags' own. -/
def sumA (f : Nat) : Nat → Nat
  | 0 => 4
  | 1 => 4 + sz1 f
  | 2 => 4 + sz1 f + sz2 f
  | 3 => 4 + sz1 f + sz2 f + sz4 f
  | _ => lenA f
theorem sumA_le (f j : Nat) : sumA f j ≤ 32 := by
  have a1 : sz1 f ≤ 8 := by unfold sz1; split <;> omega
  have a2 : sz2 f ≤ 8 := by unfold sz2; split <;> omega
  have a4 : sz4 f ≤ 4 := by unfold sz4; split <;> omega
  have a8 : sz8 f ≤ 8 := by unfold sz8; split <;> omega
  match j with
  | 0 => simp [sumA]
  | 1 => simp only [sumA]; omega
  | 2 => simp only [sumA]; omega
  | 3 => simp only [sumA]; omega
  | j + 4 => simp only [sumA, lenA]; omega

/-- A bit, as the law's loop asks for it. -/
structure Shift (F : Nat) : Prop where
  e0 : (bits BinOp.and IntKind.u32 (F : Int) 1 == 1) = bt 1 F
  d1 : (bits BinOp.and IntKind.u32 ((F : Int) / 2) 1 == 1) = bt 2 F
  d2 : (bits BinOp.and IntKind.u32 ((F : Int) / 4) 1 == 1) = bt 4 F
  d3 : (bits BinOp.and IntKind.u32 ((F : Int) / 8) 1 == 1) = bt 8 F
theorem shift_bit (F : Nat) (hF : F ≤ 15) : Shift F := by
  have h : ∀ F : Fin 16, (bits BinOp.and IntKind.u32 ((F.val : Nat) : Int) 1 == 1) = bt 1 F.val ∧ (bits BinOp.and IntKind.u32 (((F.val : Nat) : Int) / 2) 1 == 1) = bt 2 F.val ∧ (bits BinOp.and IntKind.u32 (((F.val : Nat) : Int) / 4) 1 == 1) = bt 4 F.val ∧ (bits BinOp.and IntKind.u32 (((F.val : Nat) : Int) / 8) 1 == 1) = bt 8 F.val := by decide +kernel
  obtain ⟨h0, h1, h2, h3⟩ := h ⟨F, by omega⟩
  exact ⟨h0, h1, h2, h3⟩

set_option maxHeartbeats 3200000 in
set_option maxRecDepth 100000 in
theorem attrCuts_c (x : At) (hx : x.Ok) (cut : Int) (W : World) : Calls Try.prog 6 #[x.v, .int .i64 cut] W fun e w' => e = .returned (.bool true) ∧ Below W.heap.size W w' := by
  obtain ⟨F, hF⟩ : ∃ F : Nat, (x.f : Int) % 16 = (F : Int) := ⟨x.f % 16, by omega⟩
  have hF15 : F ≤ 15 := by omega
  obtain ⟨y, hy⟩ : ∃ y : At, y = ⟨F, x.s, x.u, x.g, x.m, x.a, x.t⟩ := ⟨_, rfl⟩
  have HY : Hid (y.Ok ∧ y.f = F) := hidden ⟨by rw [hy]; exact ⟨by show F ≤ _; omega, hx.s, hx.u, hx.g, hx.m, hx.a, hx.t⟩, by rw [hy]⟩
  have HV : Hid (y.v = .agg #[.int .u32 (F : Int), .int .u64 x.s, .int .u32 x.u, .int .u32 x.g, .int .u32 x.m, .int .u32 x.a, .int .u32 x.t]) := hidden (by rw [hy]; rfl)
  clear hy
  unfold At.v At.cells at *
  go_enter Try.func6, Try.ntmps6
  go_wp2_with fail
  have HB0 : Hid (Below W.heap.size W (W.alloc (.cells #[.int .u32 (F : Int), .int .u64 x.s, .int .u32 x.u, .int .u32 x.g, .int .u32 x.m, .int .u32 x.a, .int .u32 x.t] 25))) := hidden ((Below.refl _ W).alloc (Nat.le_refl _) _)
  have HX0 := hidden (heap_alloc_new W (.cells #[.int .u32 (F : Int), .int .u64 x.s, .int .u32 x.u, .int .u32 x.g, .int .u32 x.m, .int .u32 x.a, .int .u32 x.t] 25))
  generalize W.alloc (.cells #[.int .u32 (F : Int), .int .u64 x.s, .int .u32 x.u, .int .u32 x.g, .int .u32 x.m, .int .u32 x.a, .int .u32 x.t] 25) = w1 at HB0 HX0 ⊢
  obtain ⟨B, hBn⟩ : ∃ B, B = W.heap.size := ⟨_, rfl⟩
  have HBN := hidden hBn
  rw [← hBn] at HX0 ⊢
  clear hBn
  rw [← HV.out]
  refine (lput_c y HY.out.1 w1).mono ?_
  rintro e w2 ⟨v2, rfl, ho2, hb2⟩
  have hx2 := box_keep HX0.out (Keeps.ofFresh (S := fun _ => False) hb2) (fun h => h)
  have HO2 := hidden ho2
  have HB2 : Hid (Below W.heap.size W w2) := hidden (HB0.out.trans (hb2.mono HB0.out.size))
  obtain ⟨ao, cp, rfl⟩ := ownsRow_shape ho2
  rw [putA_len, HY.out.2] at ho2 ⊢
  rw [putA_len, HY.out.2] at HO2
  clear ho2 hb2 HX0 HB0
  go_wp2_with fail
  have hx3 : (w2.alloc (.cells #[.int .i64 8, .int .i64 8, .int .i64 4, .int .i64 8] 3)).heap[B]? = _ := (Below.heap_alloc w2 _ B (lt_of_block hx2)).trans hx2
  have hc3 := heap_alloc_new w2 (.cells #[.int .i64 8, .int .i64 8, .int .i64 4, .int .i64 8] 3)
  go_loopw [6, 7, 8, 21] (fun a _ _ d wr => ∃ j : Nat, j ≤ 4 ∧ d = .int .i64 (j : Int) ∧ a = .int .i64 (sumA F j : Int) ∧ wr = w2.alloc (.cells #[.int .i64 8, .int .i64 8, .int .i64 4, .int .i64 8] 3)) (fun _ _ _ d _ => 4 - (intOf d).toNat)
  case atStart => exact ⟨0, by omega, rfl, rfl, rfl⟩
  case round =>
    obtain ⟨j, hj, rfl, rfl, rfl⟩ := hrel
    have hsum := sumA_le F j
    obtain ⟨k0, k1, k2, k3, k4, k5, k6, kf⟩ := cells7 hx3
    have a1 := shift_bit F hF15
    clear hc3
    have hj5 : j = 0 ∨ j = 1 ∨ j = 2 ∨ j = 3 ∨ j = 4 := by omega
    rcases hj5 with rfl | rfl | rfl | rfl | rfl
    · have hs : sumA F 1 = sumA F 0 + (if bt 1 F then 8 else 0) := rfl
      have t1 := a1.e0
      rw [show ((0 : Nat) : Int) = 0 from rfl]
      clear hx3 a1 hj
      generalize sumA F 0 = S at hs hsum ⊢
      cases hb : bt 1 F with
      | true =>
        rw [hb] at t1
        rw [hb, if_pos rfl] at hs
        have hs2 := hidden hs
        clear hs hb
        go_wp2_with fail
        exact ⟨⟨1, by omega, rfl, by rw [hs2.out]; rfl, trivial⟩, by simp [intOf]⟩
      | false =>
        rw [hb] at t1
        rw [hb, if_neg (by decide)] at hs
        have hs2 := hidden hs
        clear hs hb
        go_wp2_with fail
        exact ⟨⟨1, by omega, rfl, by rw [hs2.out]; rfl, trivial⟩, by simp [intOf]⟩
    · have hs : sumA F 2 = sumA F 1 + (if bt 2 F then 8 else 0) := rfl
      have t1 := a1.d1
      rw [show ((1 : Nat) : Int) = 1 from rfl]
      clear hx3 a1 hj
      generalize sumA F 1 = S at hs hsum ⊢
      cases hb : bt 2 F with
      | true =>
        rw [hb] at t1
        rw [hb, if_pos rfl] at hs
        have hs2 := hidden hs
        clear hs hb
        go_wp2_with fail
        exact ⟨⟨2, by omega, rfl, by rw [hs2.out]; rfl, trivial⟩, by simp [intOf]⟩
      | false =>
        rw [hb] at t1
        rw [hb, if_neg (by decide)] at hs
        have hs2 := hidden hs
        clear hs hb
        go_wp2_with fail
        exact ⟨⟨2, by omega, rfl, by rw [hs2.out]; rfl, trivial⟩, by simp [intOf]⟩
    · have hs : sumA F 3 = sumA F 2 + (if bt 4 F then 4 else 0) := rfl
      have t1 := a1.d2
      rw [show ((2 : Nat) : Int) = 2 from rfl]
      clear hx3 a1 hj
      generalize sumA F 2 = S at hs hsum ⊢
      cases hb : bt 4 F with
      | true =>
        rw [hb] at t1
        rw [hb, if_pos rfl] at hs
        have hs2 := hidden hs
        clear hs hb
        go_wp2_with fail
        exact ⟨⟨3, by omega, rfl, by rw [hs2.out]; rfl, trivial⟩, by simp [intOf]⟩
      | false =>
        rw [hb] at t1
        rw [hb, if_neg (by decide)] at hs
        have hs2 := hidden hs
        clear hs hb
        go_wp2_with fail
        exact ⟨⟨3, by omega, rfl, by rw [hs2.out]; rfl, trivial⟩, by simp [intOf]⟩
    · have hs : sumA F 4 = sumA F 3 + (if bt 8 F then 8 else 0) := rfl
      have t1 := a1.d3
      rw [show ((3 : Nat) : Int) = 3 from rfl]
      clear hx3 a1 hj
      generalize sumA F 3 = S at hs hsum ⊢
      cases hb : bt 8 F with
      | true =>
        rw [hb] at t1
        rw [hb, if_pos rfl] at hs
        have hs2 := hidden hs
        clear hs hb
        go_wp2_with fail
        exact ⟨⟨4, by omega, rfl, by rw [hs2.out]; rfl, trivial⟩, by simp [intOf]⟩
      | false =>
        rw [hb] at t1
        rw [hb, if_neg (by decide)] at hs
        have hs2 := hidden hs
        clear hs hb
        go_wp2_with fail
        exact ⟨⟨4, by omega, rfl, by rw [hs2.out]; rfl, trivial⟩, by simp [intOf]⟩
    · rw [show ((4 : Nat) : Int) = 4 from rfl]
      clear a1 k0 k1 k2 k3 k4 k5 k6 kf
      have hs4 : sumA F 4 = lenA F := rfl
      rw [hs4] at hsum ⊢
      generalize hn : lenA F = n at hsum HO2 ⊢
      clear hj hs4
      have hn4 : 4 ≤ n := by rw [← hn]; unfold lenA; omega
      obtain ⟨m, hm⟩ : ∃ m, n = m + 1 := ⟨n - 1, by omega⟩
      have hm1 : (n : Int) - 1 = (m : Int) := by omega
      have hwl := win_le cut m
      obtain ⟨c, hc⟩ : ∃ c, c = win cut m := ⟨_, rfl⟩
      rw [← hc] at hwl
      have HC := hidden hc
      have HM := hidden hm
      have HN := hidden hn
      have hlen : (putA y).length = n := by rw [putA_len, HY.out.2]; exact hn
      have hbs : BSl w2 (.slice ao (putA y).length cp) (putA y) := by rw [hlen]; exact BSl.ofRow HO2.out
      have i1 : (c : Int) ≤ (cp : Int) := by
        obtain ⟨_, _, e, h1, _⟩ := id hbs
        cases e
        omega
      have HBS : Hid (BSl (w2.alloc (.cells #[.int .i64 8, .int .i64 8, .int .i64 4, .int .i64 8] 3)) (.slice ao c cp) ((putA y).take c)) := hidden ((hbs.alloc _).head' (by omega))
      have HG : Hid (getA ((putA y).take c) 0 0 = (zeroA, (c, 10))) := hidden (get_cut y HY.out.1 (by rw [HY.out.2]; exact hF15) c (by rw [HY.out.2, hn]; omega))
      have HTL : Hid (((putA y).take c).length ≤ 100) := hidden (by rw [List.length_take]; omega)
      have HB3 : Hid (Below W.heap.size W (w2.alloc (.cells #[.int .i64 8, .int .i64 8, .int .i64 4, .int .i64 8] 3))) := hidden (HB2.out.alloc HB2.out.size _)
      clear hm hn hc hlen hbs hx3 HB2 HO2
      generalize (putA y).take c = bs at HBS HG HTL
      go_wp2_with fail
      refine (within_f cut m (by have := HM.out; omega) _).mono ?_
      rintro e w3 ⟨rfl, rfl⟩
      rw [← HC.out]
      go_wp2_with fail
      generalize w2.alloc (.cells #[.int .i64 8, .int .i64 8, .int .i64 4, .int .i64 8] 3) = w3 at HBS HB3 ⊢
      refine (newReader_c _ bs w3 HBS.out (by have := HTL.out; omega)).mono ?_
      rintro e w4 ⟨a, g, rfl, h4, ha4, hg4, hb4⟩
      have H4 := hidden h4
      have HB4 : Hid (Below W.heap.size W w4) := hidden (HB3.out.trans (hb4.mono HB3.out.size))
      have HA4 : Hid (W.heap.size ≤ a) := hidden (Nat.le_trans HB3.out.size ha4)
      clear h4 ha4 hg4 hb4 HBS HB3
      go_wp2_with fail
      refine (get_c w4 H4.out).mono ?_
      rintro e w5 ⟨rfl, ht5⟩
      rw [HG.out] at ht5 ⊢
      have HT5 := hidden ht5
      have HB5 : Hid (Below W.heap.size W w5) := hidden (HB4.out.trans (ht5.keeps.below HB4.out.size (fun k e => by have := HA4.out; omega)))
      clear ht5 H4 HB4
      unfold zeroA At.v At.cells
      go_wp2_with fail
      obtain ⟨w6, hw6⟩ : ∃ V, V = w5.alloc (.cells #[.int .u32 0, .int .u64 0, .int .u32 0, .int .u32 0, .int .u32 0, .int .u32 0, .int .u32 0] 25) := ⟨_, rfl⟩
      have hr6 : WR w6 a g bs c 10 := by rw [hw6]; exact HT5.out.state.same ((Keeps.refl _ _).alloc _)
      have hx6 : w6.heap[w5.heap.size]? = some (.cells zc 25 (0, 0)) := by rw [hw6]; exact heap_alloc_new w5 _
      have HB6 : Hid (Below W.heap.size W w6) := hidden (by rw [hw6]; exact HB5.out.alloc HB5.out.size _)
      rw [← hw6]
      obtain ⟨b6, hb6⟩ : ∃ c, c = w5.heap.size := ⟨_, rfl⟩
      rw [← hb6] at hx6 ⊢
      clear hw6 hb6 HT5 HB5
      have hend : ends bs c 10 = (10, c) := by simp [ends]
      have HE := hidden (end_r w6 hr6)
      rw [hend] at HE
      clear hend hr6
      refine HE.out.mono ?_
      rintro e w7 ⟨rfl, hk7⟩
      have hx7 := box_keep hx6 hk7 (fun h => h)
      have HB7 : Hid (Below W.heap.size W w7) := hidden (HB6.out.trans (hk7.below HB6.out.size (fun _ e => e.elim)))
      clear hk7 hx6 HB6 HE
      obtain ⟨k0, k1, k2, k3, k4, k5, k6, kf⟩ := cells7 hx7
      clear hx7
      go_wp2_with fail
      refine (within_f cut m (by have := HM.out; omega) _).mono ?_
      rintro e w8 ⟨rfl, rfl⟩
      rw [← HC.out]
      go_wp2_with fail
      refine (known_c _).mono ?_
      rintro e w9 ⟨rfl, hb9⟩
      go_wp2_with fail
      go_ret
      exact ⟨by simp, HB7.out.trans (hb9.mono HB7.out.size)⟩

end Go.Proofs.Ytkbfgfpdchgjpaa
