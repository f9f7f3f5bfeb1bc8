/- What the law's payload answers. -/
import Derived.Test.YtnimdbjbkoggdaaCnS
namespace Go.Proofs.Ytnimdbjbkoggdaa
open Go Go.RowKit

def openP (s : ByteArray) (c n m : Nat) : List UInt8 := [90] ++ textBytes s.data.toList ++ numsL [c, n, m]
def subP (c : Nat) (k : ByteArray) (wa : Bool) (s : ByteArray) : List UInt8 := [98] ++ numsL [c] ++ textBytes k.data.toList ++ [bit wa] ++ textBytes s.data.toList
def AskV (k ch n m : Int) (s : ByteArray) (b : Value) : Value := .agg #[.int .i64 k, .int .i64 ch, .int .i64 n, .int .i64 m, .string s, b]
/-- What payload answers: bytes, of which Q is told. -/
def PayP (w : World) (b : Value) (bs : List UInt8) (Q : List UInt8 → Prop) (e : Ending) (w' : World) : Prop :=
  ∃ v xs, e = .returned v ∧ BSl w' v xs ∧ xs.length ≤ 40000 ∧ Q xs ∧ (∀ k, v.ownBlock = some k → w.heap.size ≤ k ∨ (b.ownBlock = some k ∧ (xs ≠ [] → bs ≠ []))) ∧ Below w.heap.size w w'
theorem PayP.mono {w : World} {b : Value} {bs : List UInt8} {Q Q' : List UInt8 → Prop} {e : Ending} {w' : World} (h : PayP w b bs Q e w') (hq : ∀ xs, Q xs → Q' xs) : PayP w b bs Q' e w' := by
  obtain ⟨v, xs, h1, h2, h3, h4, h5⟩ := h
  exact ⟨v, xs, h1, h2, h3, hq xs h4, h5⟩
theorem ex70 (s : ByteArray) : (s.extract 0 70).size ≤ 70 := by simp; omega
/-- What is ready as payload begins. -/
structure PB (w w0 : World) (k ch n m : Int) (s : ByteArray) (b : Value) (bs : List UInt8) : Prop where
  box : w0.heap[w.heap.size]? = some (.cells #[.int .i64 k, .int .i64 ch, .int .i64 n, .int .i64 m, .string s, b] 49 (0, 0))
  inp : BSl w0 b bs
  below : Below w.heap.size w w0
theorem PB.make (w : World) (k ch n m : Int) (s : ByteArray) (b : Value) (bs : List UInt8) (hb : BSl w b bs) : PB w (w.alloc (.cells #[.int .i64 k, .int .i64 ch, .int .i64 n, .int .i64 m, .string s, b] 49)) k ch n m s b bs :=
  ⟨heap_alloc_new w _, hb.alloc _, (Below.refl _ _).alloc (Nat.le_refl _) _⟩
theorem be4_u (n : Nat) : (be 4 n).length = 4 := be_length 4 n


set_option maxHeartbeats 1600000 in
set_option maxRecDepth 100000 in
theorem payOpen (k ch n m : Int) (s : ByteArray) (b : Value) (bs : List UInt8) (w : World) (hb : BSl w b bs) (hk : k = 1) (Q : List UInt8 → Prop) (hq : ∀ (f : Bool), ((n.tmod 6 = 1 → f = false) ∧ (n.tmod 6 ≠ 1 → f = true)) → ∀ c7, c7 = IntKind.i64.wrap (ch * 7) → Q (openP (if f = true then ⟨#[115, 101, 115, 115, 105, 111, 110]⟩ else s.extract 0 70) (u32n c7) (u32n n) (u32n m))) :
    Calls Try.prog 20 #[AskV k ch n m s b] w fun e w' => PayP w b bs Q e w' := by
  have HP0 := hidden (PB.make w k ch n m s b bs hb)
  have HH : Hid (∀ w1, Calls Try.prog 35 #[.string s, .int .i64 70] w1 fun e w' => e = .returned (.string (s.extract 0 70)) ∧ w' = w1) := hidden (head_c s 70 (by omega))
  have hs7 := ex70 s
  obtain ⟨ba, bc, rfl⟩ := hb.len
  unfold AskV
  clear hb
  generalize s.extract 0 70 = s1 at *
  have t1 : (k == 1) = true := by simp; omega
  clear hk
  by_cases e6 : n.tmod 6 = 1
  · have t6 : (n.tmod 6 != 1) = false := by simp [e6]
    obtain ⟨X, hX⟩ : ∃ X : ByteArray, X = s1 := ⟨_, rfl⟩
    have hXs : X.size ≤ 70 := by rw [hX]; exact hs7
    obtain ⟨c7, hc7⟩ : ∃ c7, c7 = IntKind.i64.wrap (ch * 7) := ⟨_, rfl⟩
    obtain ⟨L1, hL1⟩ : ∃ L : List UInt8, L = [90] ++ textBytes X.data.toList := ⟨_, rfl⟩
    obtain ⟨L2, hL2⟩ : ∃ L, L = L1 ++ numsL [u32n c7, u32n n, u32n m] := ⟨_, rfl⟩
    have hl1 : L1.length ≤ 100 := by rw [hL1, List.length_append, tl]; simp; omega
    have HLEN : Hid (L2.length ≤ 40000) := hidden (by rw [hL2, List.length_append, numsL_len]; simp; omega)
    have C7 := hidden hc7.symm
    have HQ : Hid (Q L2) := hidden (by rw [hL2, hL1, hX]; exact hq false (⟨fun _ => rfl, fun h => absurd e6 h⟩) c7 hc7)
    have HX := hidden hX
    have HL1 := hidden hL1
    have HL2 := hidden hL2
    clear hL1 hL2 hc7 hX
    go_enter Try.func20, Try.ntmps20
    go_wp2_with fail
    refine (HH.out _).mono ?_
    rintro e w1 ⟨rfl, rfl⟩
    clear HH
    generalize w.alloc (.cells #[.int .i64 k, .int .i64 ch, .int .i64 n, .int .i64 m, .string s, .slice ba bs.length bc] 49) = w0 at *
    obtain ⟨k0, k1, k2, k3, k4, k5, kf⟩ := cells6 HP0.out.box
    have HBL := hidden HP0.out.below
    have HT1 : Hid (∀ w1 v, BSl w1 v [90] → Ex w0 w1 → Calls Try.prog 10 #[v, .string X] w1 fun e w' => ∃ u, e = .returned u ∧ Ex w1 w' ∧ (Fact.low w.heap.size L1).holds u w') := hidden fun w1 v h1 h2 => told_low (Nat.le_trans HP0.out.below.size h2.size) (by rw [HL1.out]; exact rtext_c X (by omega) v [90] w1 h1 (by simp; omega))
    have HU1 : Hid (∀ w1 v u, BSl w1 v L1 → NSl w1 u [u32n c7, u32n n, u32n m] → Ex w0 w1 → Calls Try.prog 9 #[v, u] w1 fun e w' => ∃ u, e = .returned u ∧ Ex w1 w' ∧ (Fact.low w.heap.size L2).holds u w') := hidden fun w1 v u h1 h2 h3 => told_low (Nat.le_trans HP0.out.below.size h3.size) (by rw [HL2.out]; exact lu32_c v u L1 _ w1 h1 h2 (by intro j hj; match j, hj with | 0, _ => exact u32n_lt _ | 1, _ => exact u32n_lt _ | 2, _ => exact u32n_lt _) (by simp) (by simp) (by omega))
    have K1 := hidden k1
    have K2 := hidden k2
    have K3 := hidden k3
    skip
    go_upto_region 7 with fail
    rw [← HX.out]
    clear HX HL1 HL2 k0 k1 k2 k3 k4 k5 kf
    refine region_free [(.bsl [90]), (.val (.string X)), (.low w.heap.size L1), (.val (.pointer (some ⟨w.heap.size, 1, none⟩))), (.val (.int .i64 ch)), (.val (.int .i64 c7)), (.val (.int .u32 ((u32n c7 : Nat) : Int))), (.val (.pointer (some ⟨w.heap.size, 2, none⟩))), (.val (.int .i64 n)), (.val (.int .u32 ((u32n n : Nat) : Int))), (.val (.pointer (some ⟨w.heap.size, 3, none⟩))), (.val (.int .i64 m)), (.val (.int .u32 ((u32n m : Nat) : Int))), (.nsl [u32n c7, u32n n, u32n m]), (.low w.heap.size L2), (.low w.heap.size L2)] (by kernel_rfl) ?_ ?_
    · refine req_cons (.bsl [90]) (by kernel_rfl) (fun vs w1 he hd => StepG.plain (by kernel_rfl) (gives_lit1B 90 90 rfl (by kernel_rfl) (by kernel_rfl))) ?_
      refine req_cons (.val (.string X)) (by kernel_rfl) (fun vs w1 he hd => StepG.plain (by kernel_rfl) (gives_move (x := .tmp 4) (by kernel_rfl) (by kernel_rfl) ⟨Ex.refl _, rfl⟩)) ?_
      refine req_cons (.low w.heap.size L1) (by kernel_rfl) (fun vs w1 he hd => StepG.plain (by kernel_rfl) (gives_call (fn := Try.f10) (f := 10) (xs := #[.tmp 22, .tmp 23]) (ts := #[30, 9]) (vs := #[vs 0, (.string X)]) (by kernel_rfl) (by kernel_rfl) (Eq.trans (b := #[vs 0, vs 1]) (by kernel_rfl) (by rw [show vs 1 = (.string X) from (hd 1 (.val (.string X)) (by kernel_rfl) (by kernel_rfl))])) (by kernel_rfl) (by kernel_rfl) (by kernel_rfl) (HT1.out w1 (vs 0) (hd 0 (.bsl [90]) (by kernel_rfl) (by kernel_rfl)) he))) ?_
      refine req_cons (.val (.pointer (some ⟨w.heap.size, 1, none⟩))) (by kernel_rfl) (fun vs w1 he hd => StepG.plain (by kernel_rfl) (gives_ask (x := .tmp 1) 1 (by decide) (by kernel_rfl) (by kernel_rfl) ⟨Ex.refl _, rfl⟩)) ?_
      refine req_cons (.val (.int .i64 ch)) (by kernel_rfl) (fun vs w1 he hd => StepG.plain (by kernel_rfl) (gives_ldi (x := .tmp 25) (by kernel_rfl) (Eq.trans (b := vs 3) (by kernel_rfl) (hd 3 (.val (.pointer (some ⟨w.heap.size, 1, none⟩))) (by kernel_rfl) (by kernel_rfl))) (cell_ex K1.out he) ⟨Ex.refl _, rfl⟩)) ?_
      refine req_cons (.val (.int .i64 c7)) (by kernel_rfl) (fun vs w1 he hd => StepG.plain (by kernel_rfl) (gives_mulI (t := 3) (x := .tmp 26) (y := .const (.int .i64 7)) (a := ch) (b := 7) (by kernel_rfl) (Eq.trans (b := vs 4) (by kernel_rfl) (hd 4 (.val (.int .i64 ch)) (by kernel_rfl) (by kernel_rfl))) (by kernel_rfl) C7.out ⟨Ex.refl _, rfl⟩)) ?_
      refine req_cons (.val (.int .u32 ((u32n c7 : Nat) : Int))) (by kernel_rfl) (fun vs w1 he hd => StepG.plain (by kernel_rfl) (gives_conv (s := 3) (d := 33) (x := .tmp 27) (by kernel_rfl) (Eq.trans (b := vs 5) (by kernel_rfl) (hd 5 (.val (.int .i64 c7)) (by kernel_rfl) (by kernel_rfl))) (conv_iu c7 w1) ⟨Ex.refl _, rfl⟩)) ?_
      refine req_cons (.val (.pointer (some ⟨w.heap.size, 2, none⟩))) (by kernel_rfl) (fun vs w1 he hd => StepG.plain (by kernel_rfl) (gives_ask (x := .tmp 1) 2 (by decide) (by kernel_rfl) (by kernel_rfl) ⟨Ex.refl _, rfl⟩)) ?_
      refine req_cons (.val (.int .i64 n)) (by kernel_rfl) (fun vs w1 he hd => StepG.plain (by kernel_rfl) (gives_ldi (x := .tmp 29) (by kernel_rfl) (Eq.trans (b := vs 7) (by kernel_rfl) (hd 7 (.val (.pointer (some ⟨w.heap.size, 2, none⟩))) (by kernel_rfl) (by kernel_rfl))) (cell_ex K2.out he) ⟨Ex.refl _, rfl⟩)) ?_
      refine req_cons (.val (.int .u32 ((u32n n : Nat) : Int))) (by kernel_rfl) (fun vs w1 he hd => StepG.plain (by kernel_rfl) (gives_conv (s := 3) (d := 33) (x := .tmp 30) (by kernel_rfl) (Eq.trans (b := vs 8) (by kernel_rfl) (hd 8 (.val (.int .i64 n)) (by kernel_rfl) (by kernel_rfl))) (conv_iu n w1) ⟨Ex.refl _, rfl⟩)) ?_
      refine req_cons (.val (.pointer (some ⟨w.heap.size, 3, none⟩))) (by kernel_rfl) (fun vs w1 he hd => StepG.plain (by kernel_rfl) (gives_ask (x := .tmp 1) 3 (by decide) (by kernel_rfl) (by kernel_rfl) ⟨Ex.refl _, rfl⟩)) ?_
      refine req_cons (.val (.int .i64 m)) (by kernel_rfl) (fun vs w1 he hd => StepG.plain (by kernel_rfl) (gives_ldi (x := .tmp 32) (by kernel_rfl) (Eq.trans (b := vs 10) (by kernel_rfl) (hd 10 (.val (.pointer (some ⟨w.heap.size, 3, none⟩))) (by kernel_rfl) (by kernel_rfl))) (cell_ex K3.out he) ⟨Ex.refl _, rfl⟩)) ?_
      refine req_cons (.val (.int .u32 ((u32n m : Nat) : Int))) (by kernel_rfl) (fun vs w1 he hd => StepG.plain (by kernel_rfl) (gives_conv (s := 3) (d := 33) (x := .tmp 33) (by kernel_rfl) (Eq.trans (b := vs 11) (by kernel_rfl) (hd 11 (.val (.int .i64 m)) (by kernel_rfl) (by kernel_rfl))) (conv_iu m w1) ⟨Ex.refl _, rfl⟩)) ?_
      refine req_cons (.nsl [u32n c7, u32n n, u32n m]) (by kernel_rfl) (fun vs w1 he hd => StepG.plain (by kernel_rfl) (gives_nums3 (x := .tmp 28) (y := .tmp 31) (z := .tmp 34) (u32n c7) (u32n n) (u32n m) (by kernel_rfl) (Eq.trans (b := vs 6) (by kernel_rfl) (hd 6 (.val (.int .u32 ((u32n c7 : Nat) : Int))) (by kernel_rfl) (by kernel_rfl))) (Eq.trans (b := vs 9) (by kernel_rfl) (hd 9 (.val (.int .u32 ((u32n n : Nat) : Int))) (by kernel_rfl) (by kernel_rfl))) (Eq.trans (b := vs 12) (by kernel_rfl) (hd 12 (.val (.int .u32 ((u32n m : Nat) : Int))) (by kernel_rfl) (by kernel_rfl))))) ?_
      refine req_cons (.low w.heap.size L2) (by kernel_rfl) (fun vs w1 he hd => StepG.plain (by kernel_rfl) (gives_call (fn := Try.f9) (f := 9) (xs := #[.tmp 24, .tmp 35]) (ts := #[30, 68]) (vs := #[vs 2, vs 13]) (by kernel_rfl) (by kernel_rfl) (Eq.trans (b := #[vs 2, vs 13]) (by kernel_rfl) (rfl)) (by kernel_rfl) (by kernel_rfl) (by kernel_rfl) (HU1.out w1 (vs 2) (vs 13) (hd 2 (.low w.heap.size L1) (by kernel_rfl) (by kernel_rfl)).1 (hd 13 (.nsl [u32n c7, u32n n, u32n m]) (by kernel_rfl) (by kernel_rfl)) he))) ?_
      refine req_cons (.low w.heap.size L2) (by kernel_rfl) (fun vs w1 he hd => StepG.plain (by kernel_rfl) (gives_assign (x := .tmp 36) (v := vs 14) (by kernel_rfl) (by kernel_rfl) ⟨Ex.refl _, (hd 14 (.low w.heap.size L2) (by kernel_rfl) (by kernel_rfl))⟩)) req_nil
    · intro vs w5 he hF
      obtain ⟨hbs, hlo⟩ : BSl w5 (vs 15) L2 ∧ ∀ k, (vs 15).ownBlock = some k → w.heap.size ≤ k := told_at hF 15 (.low w.heap.size L2) (by decide) (by kernel_rfl)
      obtain ⟨a5, c5, e5⟩ := hbs.len
      have HP : Hid (PayP w (.slice ba bs.length bc) bs Q (.returned (vs 15)) w5) := hidden ⟨_, _, rfl, hbs, HLEN.out, HQ.out, fun k e => .inl (hlo k e), HBL.out.trans (he.mono HBL.out.size)⟩
      simp only [List.length_cons, List.length_nil, Nat.zero_add, Nat.reduceAdd, actsTo, if_true, dstOf, List.getElem?_toArray, List.getElem?_cons_succ, List.getElem?_cons_zero, Option.bind_some, Act.put, List.setIfInBounds_toArray, List.set_cons_zero, List.set_cons_succ]
      rw [e5] at HP ⊢
      clear hF hbs hlo he
      go_wp2_with fail
      go_ret
      exact HP.out
  · have t6 : (n.tmod 6 != 1) = true := by simp [e6]
    obtain ⟨X, hX⟩ : ∃ X : ByteArray, X = (⟨#[115, 101, 115, 115, 105, 111, 110]⟩ : ByteArray) := ⟨_, rfl⟩
    have hXs : X.size ≤ 70 := by rw [hX]; decide
    obtain ⟨c7, hc7⟩ : ∃ c7, c7 = IntKind.i64.wrap (ch * 7) := ⟨_, rfl⟩
    obtain ⟨L1, hL1⟩ : ∃ L : List UInt8, L = [90] ++ textBytes X.data.toList := ⟨_, rfl⟩
    obtain ⟨L2, hL2⟩ : ∃ L, L = L1 ++ numsL [u32n c7, u32n n, u32n m] := ⟨_, rfl⟩
    have hl1 : L1.length ≤ 100 := by rw [hL1, List.length_append, tl]; simp; omega
    have HLEN : Hid (L2.length ≤ 40000) := hidden (by rw [hL2, List.length_append, numsL_len]; simp; omega)
    have C7 := hidden hc7.symm
    have HQ : Hid (Q L2) := hidden (by rw [hL2, hL1, hX]; exact hq true (⟨fun h => absurd h e6, fun _ => rfl⟩) c7 hc7)
    have HX := hidden hX
    have HL1 := hidden hL1
    have HL2 := hidden hL2
    clear hL1 hL2 hc7 hX
    go_enter Try.func20, Try.ntmps20
    go_wp2_with fail
    refine (HH.out _).mono ?_
    rintro e w1 ⟨rfl, rfl⟩
    clear HH
    generalize w.alloc (.cells #[.int .i64 k, .int .i64 ch, .int .i64 n, .int .i64 m, .string s, .slice ba bs.length bc] 49) = w0 at *
    obtain ⟨k0, k1, k2, k3, k4, k5, kf⟩ := cells6 HP0.out.box
    have HBL := hidden HP0.out.below
    have HT1 : Hid (∀ w1 v, BSl w1 v [90] → Ex w0 w1 → Calls Try.prog 10 #[v, .string X] w1 fun e w' => ∃ u, e = .returned u ∧ Ex w1 w' ∧ (Fact.low w.heap.size L1).holds u w') := hidden fun w1 v h1 h2 => told_low (Nat.le_trans HP0.out.below.size h2.size) (by rw [HL1.out]; exact rtext_c X (by omega) v [90] w1 h1 (by simp; omega))
    have HU1 : Hid (∀ w1 v u, BSl w1 v L1 → NSl w1 u [u32n c7, u32n n, u32n m] → Ex w0 w1 → Calls Try.prog 9 #[v, u] w1 fun e w' => ∃ u, e = .returned u ∧ Ex w1 w' ∧ (Fact.low w.heap.size L2).holds u w') := hidden fun w1 v u h1 h2 h3 => told_low (Nat.le_trans HP0.out.below.size h3.size) (by rw [HL2.out]; exact lu32_c v u L1 _ w1 h1 h2 (by intro j hj; match j, hj with | 0, _ => exact u32n_lt _ | 1, _ => exact u32n_lt _ | 2, _ => exact u32n_lt _) (by simp) (by simp) (by omega))
    have K1 := hidden k1
    have K2 := hidden k2
    have K3 := hidden k3
    skip
    go_upto_region 7 with fail
    rw [← HX.out]
    clear HX HL1 HL2 k0 k1 k2 k3 k4 k5 kf
    refine region_free [(.bsl [90]), (.val (.string X)), (.low w.heap.size L1), (.val (.pointer (some ⟨w.heap.size, 1, none⟩))), (.val (.int .i64 ch)), (.val (.int .i64 c7)), (.val (.int .u32 ((u32n c7 : Nat) : Int))), (.val (.pointer (some ⟨w.heap.size, 2, none⟩))), (.val (.int .i64 n)), (.val (.int .u32 ((u32n n : Nat) : Int))), (.val (.pointer (some ⟨w.heap.size, 3, none⟩))), (.val (.int .i64 m)), (.val (.int .u32 ((u32n m : Nat) : Int))), (.nsl [u32n c7, u32n n, u32n m]), (.low w.heap.size L2), (.low w.heap.size L2)] (by kernel_rfl) ?_ ?_
    · refine req_cons (.bsl [90]) (by kernel_rfl) (fun vs w1 he hd => StepG.plain (by kernel_rfl) (gives_lit1B 90 90 rfl (by kernel_rfl) (by kernel_rfl))) ?_
      refine req_cons (.val (.string X)) (by kernel_rfl) (fun vs w1 he hd => StepG.plain (by kernel_rfl) (gives_move (x := .tmp 4) (by kernel_rfl) (by kernel_rfl) ⟨Ex.refl _, rfl⟩)) ?_
      refine req_cons (.low w.heap.size L1) (by kernel_rfl) (fun vs w1 he hd => StepG.plain (by kernel_rfl) (gives_call (fn := Try.f10) (f := 10) (xs := #[.tmp 22, .tmp 23]) (ts := #[30, 9]) (vs := #[vs 0, (.string X)]) (by kernel_rfl) (by kernel_rfl) (Eq.trans (b := #[vs 0, vs 1]) (by kernel_rfl) (by rw [show vs 1 = (.string X) from (hd 1 (.val (.string X)) (by kernel_rfl) (by kernel_rfl))])) (by kernel_rfl) (by kernel_rfl) (by kernel_rfl) (HT1.out w1 (vs 0) (hd 0 (.bsl [90]) (by kernel_rfl) (by kernel_rfl)) he))) ?_
      refine req_cons (.val (.pointer (some ⟨w.heap.size, 1, none⟩))) (by kernel_rfl) (fun vs w1 he hd => StepG.plain (by kernel_rfl) (gives_ask (x := .tmp 1) 1 (by decide) (by kernel_rfl) (by kernel_rfl) ⟨Ex.refl _, rfl⟩)) ?_
      refine req_cons (.val (.int .i64 ch)) (by kernel_rfl) (fun vs w1 he hd => StepG.plain (by kernel_rfl) (gives_ldi (x := .tmp 25) (by kernel_rfl) (Eq.trans (b := vs 3) (by kernel_rfl) (hd 3 (.val (.pointer (some ⟨w.heap.size, 1, none⟩))) (by kernel_rfl) (by kernel_rfl))) (cell_ex K1.out he) ⟨Ex.refl _, rfl⟩)) ?_
      refine req_cons (.val (.int .i64 c7)) (by kernel_rfl) (fun vs w1 he hd => StepG.plain (by kernel_rfl) (gives_mulI (t := 3) (x := .tmp 26) (y := .const (.int .i64 7)) (a := ch) (b := 7) (by kernel_rfl) (Eq.trans (b := vs 4) (by kernel_rfl) (hd 4 (.val (.int .i64 ch)) (by kernel_rfl) (by kernel_rfl))) (by kernel_rfl) C7.out ⟨Ex.refl _, rfl⟩)) ?_
      refine req_cons (.val (.int .u32 ((u32n c7 : Nat) : Int))) (by kernel_rfl) (fun vs w1 he hd => StepG.plain (by kernel_rfl) (gives_conv (s := 3) (d := 33) (x := .tmp 27) (by kernel_rfl) (Eq.trans (b := vs 5) (by kernel_rfl) (hd 5 (.val (.int .i64 c7)) (by kernel_rfl) (by kernel_rfl))) (conv_iu c7 w1) ⟨Ex.refl _, rfl⟩)) ?_
      refine req_cons (.val (.pointer (some ⟨w.heap.size, 2, none⟩))) (by kernel_rfl) (fun vs w1 he hd => StepG.plain (by kernel_rfl) (gives_ask (x := .tmp 1) 2 (by decide) (by kernel_rfl) (by kernel_rfl) ⟨Ex.refl _, rfl⟩)) ?_
      refine req_cons (.val (.int .i64 n)) (by kernel_rfl) (fun vs w1 he hd => StepG.plain (by kernel_rfl) (gives_ldi (x := .tmp 29) (by kernel_rfl) (Eq.trans (b := vs 7) (by kernel_rfl) (hd 7 (.val (.pointer (some ⟨w.heap.size, 2, none⟩))) (by kernel_rfl) (by kernel_rfl))) (cell_ex K2.out he) ⟨Ex.refl _, rfl⟩)) ?_
      refine req_cons (.val (.int .u32 ((u32n n : Nat) : Int))) (by kernel_rfl) (fun vs w1 he hd => StepG.plain (by kernel_rfl) (gives_conv (s := 3) (d := 33) (x := .tmp 30) (by kernel_rfl) (Eq.trans (b := vs 8) (by kernel_rfl) (hd 8 (.val (.int .i64 n)) (by kernel_rfl) (by kernel_rfl))) (conv_iu n w1) ⟨Ex.refl _, rfl⟩)) ?_
      refine req_cons (.val (.pointer (some ⟨w.heap.size, 3, none⟩))) (by kernel_rfl) (fun vs w1 he hd => StepG.plain (by kernel_rfl) (gives_ask (x := .tmp 1) 3 (by decide) (by kernel_rfl) (by kernel_rfl) ⟨Ex.refl _, rfl⟩)) ?_
      refine req_cons (.val (.int .i64 m)) (by kernel_rfl) (fun vs w1 he hd => StepG.plain (by kernel_rfl) (gives_ldi (x := .tmp 32) (by kernel_rfl) (Eq.trans (b := vs 10) (by kernel_rfl) (hd 10 (.val (.pointer (some ⟨w.heap.size, 3, none⟩))) (by kernel_rfl) (by kernel_rfl))) (cell_ex K3.out he) ⟨Ex.refl _, rfl⟩)) ?_
      refine req_cons (.val (.int .u32 ((u32n m : Nat) : Int))) (by kernel_rfl) (fun vs w1 he hd => StepG.plain (by kernel_rfl) (gives_conv (s := 3) (d := 33) (x := .tmp 33) (by kernel_rfl) (Eq.trans (b := vs 11) (by kernel_rfl) (hd 11 (.val (.int .i64 m)) (by kernel_rfl) (by kernel_rfl))) (conv_iu m w1) ⟨Ex.refl _, rfl⟩)) ?_
      refine req_cons (.nsl [u32n c7, u32n n, u32n m]) (by kernel_rfl) (fun vs w1 he hd => StepG.plain (by kernel_rfl) (gives_nums3 (x := .tmp 28) (y := .tmp 31) (z := .tmp 34) (u32n c7) (u32n n) (u32n m) (by kernel_rfl) (Eq.trans (b := vs 6) (by kernel_rfl) (hd 6 (.val (.int .u32 ((u32n c7 : Nat) : Int))) (by kernel_rfl) (by kernel_rfl))) (Eq.trans (b := vs 9) (by kernel_rfl) (hd 9 (.val (.int .u32 ((u32n n : Nat) : Int))) (by kernel_rfl) (by kernel_rfl))) (Eq.trans (b := vs 12) (by kernel_rfl) (hd 12 (.val (.int .u32 ((u32n m : Nat) : Int))) (by kernel_rfl) (by kernel_rfl))))) ?_
      refine req_cons (.low w.heap.size L2) (by kernel_rfl) (fun vs w1 he hd => StepG.plain (by kernel_rfl) (gives_call (fn := Try.f9) (f := 9) (xs := #[.tmp 24, .tmp 35]) (ts := #[30, 68]) (vs := #[vs 2, vs 13]) (by kernel_rfl) (by kernel_rfl) (Eq.trans (b := #[vs 2, vs 13]) (by kernel_rfl) (rfl)) (by kernel_rfl) (by kernel_rfl) (by kernel_rfl) (HU1.out w1 (vs 2) (vs 13) (hd 2 (.low w.heap.size L1) (by kernel_rfl) (by kernel_rfl)).1 (hd 13 (.nsl [u32n c7, u32n n, u32n m]) (by kernel_rfl) (by kernel_rfl)) he))) ?_
      refine req_cons (.low w.heap.size L2) (by kernel_rfl) (fun vs w1 he hd => StepG.plain (by kernel_rfl) (gives_assign (x := .tmp 36) (v := vs 14) (by kernel_rfl) (by kernel_rfl) ⟨Ex.refl _, (hd 14 (.low w.heap.size L2) (by kernel_rfl) (by kernel_rfl))⟩)) req_nil
    · intro vs w5 he hF
      obtain ⟨hbs, hlo⟩ : BSl w5 (vs 15) L2 ∧ ∀ k, (vs 15).ownBlock = some k → w.heap.size ≤ k := told_at hF 15 (.low w.heap.size L2) (by decide) (by kernel_rfl)
      obtain ⟨a5, c5, e5⟩ := hbs.len
      have HP : Hid (PayP w (.slice ba bs.length bc) bs Q (.returned (vs 15)) w5) := hidden ⟨_, _, rfl, hbs, HLEN.out, HQ.out, fun k e => .inl (hlo k e), HBL.out.trans (he.mono HBL.out.size)⟩
      simp only [List.length_cons, List.length_nil, Nat.zero_add, Nat.reduceAdd, actsTo, if_true, dstOf, List.getElem?_toArray, List.getElem?_cons_succ, List.getElem?_cons_zero, Option.bind_some, Act.put, List.setIfInBounds_toArray, List.set_cons_zero, List.set_cons_succ]
      rw [e5] at HP ⊢
      clear hF hbs hlo he
      go_wp2_with fail
      go_ret
      exact HP.out

set_option maxHeartbeats 1600000 in
set_option maxRecDepth 100000 in
theorem paySub (k ch n m : Int) (s : ByteArray) (b : Value) (bs : List UInt8) (w : World) (hb : BSl w b bs) (hk : k = 2) (Q : List UInt8 → Prop) (hq : (n.tmod 9 ≠ 1 → m.tmod 9 ≠ 1 → Q (subP (u32n ch) ⟨#[115, 117, 98, 115, 121, 115, 116, 101, 109]⟩ (n.tmod 2 == 0) ⟨#[115, 102, 116, 112]⟩)) ∧ (¬ (n.tmod 9 ≠ 1 ∧ m.tmod 9 ≠ 1) → ∀ xs, Q xs)) :
    Calls Try.prog 20 #[AskV k ch n m s b] w fun e w' => PayP w b bs Q e w' := by
  have HP0 := hidden (PB.make w k ch n m s b bs hb)
  have HH : Hid (∀ w1, Calls Try.prog 35 #[.string s, .int .i64 70] w1 fun e w' => e = .returned (.string (s.extract 0 70)) ∧ w' = w1) := hidden (head_c s 70 (by omega))
  have hs7 := ex70 s
  obtain ⟨ba, bc, rfl⟩ := hb.len
  unfold AskV
  clear hb
  generalize s.extract 0 70 = s1 at *
  have t1 : (k == 1) = false := by simp; omega
  have t2 : (k == 2) = true := by simp; omega
  clear hk
  by_cases e9 : n.tmod 9 = 1
  · have t9 : (n.tmod 9 == 1) = true := by simp [e9]
    by_cases e8 : m.tmod 9 = 1
    · have t8 : (m.tmod 9 != 1) = false := by simp [e8]
      obtain ⟨Y, hY⟩ : ∃ X : ByteArray, X = s1 := ⟨_, rfl⟩
      obtain ⟨Z, hZ⟩ : ∃ X : ByteArray, X = s1 := ⟨_, rfl⟩
      have hYs : Y.size ≤ 70 := by rw [hY]; exact hs7
      have hZs : Z.size ≤ 70 := by rw [hZ]; exact hs7
      obtain ⟨wa, hwa⟩ : ∃ wa, wa = (n.tmod 2 == 0) := ⟨_, rfl⟩
      obtain ⟨M1, hM1⟩ : ∃ L : List UInt8, L = [98] ++ numsL [u32n ch] := ⟨_, rfl⟩
      obtain ⟨M2, hM2⟩ : ∃ L : List UInt8, L = M1 ++ textBytes Y.data.toList := ⟨_, rfl⟩
      obtain ⟨M3, hM3⟩ : ∃ L : List UInt8, L = M2 ++ [bit wa] := ⟨_, rfl⟩
      obtain ⟨M4, hM4⟩ : ∃ L : List UInt8, L = M3 ++ textBytes Z.data.toList := ⟨_, rfl⟩
      have hm1 : M1.length = 5 := by rw [hM1, List.length_append, numsL_len]; rfl
      have hm2 : M2.length ≤ 79 := by rw [hM2, List.length_append, tl]; omega
      have hm3 : M3.length ≤ 80 := by rw [hM3, List.length_append]; simp; omega
      have HLEN : Hid (M4.length ≤ 40000) := hidden (by rw [hM4, List.length_append, tl]; omega)
      have HQ : Hid (Q M4) := hidden (by rw [hM4, hM3, hM2, hM1, hwa]; exact hq.2 (fun h => h.1 e9) _)
      have HWA := hidden hwa.symm
      have HY := hidden hY
      have HZ := hidden hZ
      have H1 := hidden hM1
      have H2 := hidden hM2
      have H3 := hidden hM3
      have H4 := hidden hM4
      clear hM1 hM2 hM3 hM4 hY hZ hwa
      go_enter Try.func20, Try.ntmps20
      go_wp2_with fail
      refine (HH.out _).mono ?_
      rintro e w1 ⟨rfl, rfl⟩
      clear HH
      generalize w.alloc (.cells #[.int .i64 k, .int .i64 ch, .int .i64 n, .int .i64 m, .string s, .slice ba bs.length bc] 49) = w0 at *
      obtain ⟨k0, k1, k2, k3, k4, k5, kf⟩ := cells6 HP0.out.box
      have HBL := hidden HP0.out.below
      have HU1 : Hid (∀ w1 v u, BSl w1 v [98] → NSl w1 u [u32n ch] → Ex w0 w1 → Calls Try.prog 9 #[v, u] w1 fun e w' => ∃ u, e = .returned u ∧ Ex w1 w' ∧ (Fact.low w.heap.size M1).holds u w') := hidden fun w1 v u h1 h2 h3 => told_low (Nat.le_trans HP0.out.below.size h3.size) (by rw [H1.out]; exact lu32_c v u [98] _ w1 h1 h2 (by intro j hj; match j, hj with | 0, _ => exact u32n_lt _) (by simp) (by simp) (by simp))
      have HT1 : Hid (∀ w1 v, BSl w1 v M1 → Ex w0 w1 → Calls Try.prog 10 #[v, .string Y] w1 fun e w' => ∃ u, e = .returned u ∧ Ex w1 w' ∧ (Fact.low w.heap.size M2).holds u w') := hidden fun w1 v h1 h2 => told_low (Nat.le_trans HP0.out.below.size h2.size) (by rw [H2.out]; exact rtext_c Y (by omega) v M1 w1 h1 (by omega))
      have HB1 : Hid (∀ w1 v, BSl w1 v M2 → Ex w0 w1 → Calls Try.prog 36 #[v, .bool wa] w1 fun e w' => ∃ u, e = .returned u ∧ Ex w1 w' ∧ (Fact.low w.heap.size M3).holds u w') := hidden fun w1 v h1 h2 => told_low (Nat.le_trans HP0.out.below.size h2.size) (by rw [H3.out]; exact rbool_c wa v M2 w1 h1 (by omega))
      have K2 := hidden k2
      go_upto_region 14 with fail
      rw [← HY.out]
      have hZY : Y = Z := HY.out.trans HZ.out.symm
      subst hZY
      clear HP0 HY k0 k1 k2 k3 k4 k5 kf
      refine region_free [(.bsl [98]), (.val (.int .u32 (ch % 4294967296))), (.nsl [u32n ch]), (.low w.heap.size M1), (.val (.string Y)), (.low w.heap.size M2), (.val (.pointer (some ⟨w.heap.size, 2, none⟩))), (.val (.int .i64 n)), (.val (.int .i64 (n.tmod 2))), (.val (.bool wa)), (.low w.heap.size M3), (.low w.heap.size M3)] (by kernel_rfl) ?_ ?_
      · refine req_cons (.bsl [98]) (by kernel_rfl) (fun vs w1 he hd => StepG.plain (by kernel_rfl) (gives_lit1B 98 98 rfl (by kernel_rfl) (by kernel_rfl))) ?_
        refine req_cons (.val (.int .u32 (ch % 4294967296))) (by kernel_rfl) (fun vs w1 he hd => StepG.plain (by kernel_rfl) (gives_move (x := .tmp 3) (by kernel_rfl) (by kernel_rfl) ⟨Ex.refl _, rfl⟩)) ?_
        refine req_cons (.nsl [u32n ch]) (by kernel_rfl) (fun vs w1 he hd => StepG.plain (by kernel_rfl) (gives_nums1 (x := .tmp 49) (u32n ch) (by kernel_rfl) (Eq.trans (Eq.trans (b := vs 1) (by kernel_rfl) (hd 1 (.val (.int .u32 (ch % 4294967296))) (by kernel_rfl) (by kernel_rfl))) (by rw [u32n_cast])))) ?_
        refine req_cons (.low w.heap.size M1) (by kernel_rfl) (fun vs w1 he hd => StepG.plain (by kernel_rfl) (gives_call (fn := Try.f9) (f := 9) (xs := #[.tmp 48, .tmp 50]) (ts := #[30, 68]) (vs := #[vs 0, vs 2]) (by kernel_rfl) (by kernel_rfl) (Eq.trans (b := #[vs 0, vs 2]) (by kernel_rfl) (rfl)) (by kernel_rfl) (by kernel_rfl) (by kernel_rfl) (HU1.out w1 (vs 0) (vs 2) (hd 0 (.bsl [98]) (by kernel_rfl) (by kernel_rfl)) (hd 2 (.nsl [u32n ch]) (by kernel_rfl) (by kernel_rfl)) he))) ?_
        refine req_cons (.val (.string Y)) (by kernel_rfl) (fun vs w1 he hd => StepG.plain (by kernel_rfl) (gives_move (x := .tmp 5) (by kernel_rfl) (by kernel_rfl) ⟨Ex.refl _, rfl⟩)) ?_
        refine req_cons (.low w.heap.size M2) (by kernel_rfl) (fun vs w1 he hd => StepG.plain (by kernel_rfl) (gives_call (fn := Try.f10) (f := 10) (xs := #[.tmp 51, .tmp 52]) (ts := #[30, 9]) (vs := #[vs 3, (.string Y)]) (by kernel_rfl) (by kernel_rfl) (Eq.trans (b := #[vs 3, vs 4]) (by kernel_rfl) (by rw [show vs 4 = (.string Y) from (hd 4 (.val (.string Y)) (by kernel_rfl) (by kernel_rfl))])) (by kernel_rfl) (by kernel_rfl) (by kernel_rfl) (HT1.out w1 (vs 3) (hd 3 (.low w.heap.size M1) (by kernel_rfl) (by kernel_rfl)).1 he))) ?_
        refine req_cons (.val (.pointer (some ⟨w.heap.size, 2, none⟩))) (by kernel_rfl) (fun vs w1 he hd => StepG.plain (by kernel_rfl) (gives_ask (x := .tmp 1) 2 (by decide) (by kernel_rfl) (by kernel_rfl) ⟨Ex.refl _, rfl⟩)) ?_
        refine req_cons (.val (.int .i64 n)) (by kernel_rfl) (fun vs w1 he hd => StepG.plain (by kernel_rfl) (gives_ldi (x := .tmp 54) (by kernel_rfl) (Eq.trans (b := vs 6) (by kernel_rfl) (hd 6 (.val (.pointer (some ⟨w.heap.size, 2, none⟩))) (by kernel_rfl) (by kernel_rfl))) (cell_ex K2.out he) ⟨Ex.refl _, rfl⟩)) ?_
        refine req_cons (.val (.int .i64 (n.tmod 2))) (by kernel_rfl) (fun vs w1 he hd => StepG.plain (by kernel_rfl) (gives_remI (t := 3) (a := n) (b := 2) (by decide) (x := .tmp 55) (y := .const (.int .i64 2)) (by kernel_rfl) (Eq.trans (b := vs 7) (by kernel_rfl) (hd 7 (.val (.int .i64 n)) (by kernel_rfl) (by kernel_rfl))) (by kernel_rfl) ⟨Ex.refl _, rfl⟩)) ?_
        refine req_cons (.val (.bool wa)) (by kernel_rfl) (fun vs w1 he hd => StepG.plain (by kernel_rfl) (gives_eqI (t := 3) (k := .i64) (a := n.tmod 2) (b := 0) (x := .tmp 56) (y := .const (.int .i64 0)) (by kernel_rfl) (Eq.trans (b := vs 8) (by kernel_rfl) (hd 8 (.val (.int .i64 (n.tmod 2))) (by kernel_rfl) (by kernel_rfl))) (by kernel_rfl) HWA.out ⟨Ex.refl _, rfl⟩)) ?_
        refine req_cons (.low w.heap.size M3) (by kernel_rfl) (fun vs w1 he hd => StepG.plain (by kernel_rfl) (gives_call (fn := Try.f36) (f := 36) (xs := #[.tmp 53, .tmp 57]) (ts := #[30, 4]) (vs := #[vs 5, (.bool wa)]) (by kernel_rfl) (by kernel_rfl) (Eq.trans (b := #[vs 5, vs 9]) (by kernel_rfl) (by rw [show vs 9 = (.bool wa) from (hd 9 (.val (.bool wa)) (by kernel_rfl) (by kernel_rfl))])) (by kernel_rfl) (by kernel_rfl) (by kernel_rfl) (HB1.out w1 (vs 5) (hd 5 (.low w.heap.size M2) (by kernel_rfl) (by kernel_rfl)).1 he))) ?_
        refine req_cons (.low w.heap.size M3) (by kernel_rfl) (fun vs w1 he hd => StepG.plain (by kernel_rfl) (gives_assign (x := .tmp 58) (v := vs 10) (by kernel_rfl) (by kernel_rfl) ⟨Ex.refl _, (hd 10 (.low w.heap.size M3) (by kernel_rfl) (by kernel_rfl))⟩)) req_nil
      · intro vs w5 he hF
        have hlow : BSl w5 (vs 11) M3 ∧ ∀ k, (vs 11).ownBlock = some k → w.heap.size ≤ k := told_at hF 11 (.low w.heap.size M3) (by decide) (by kernel_rfl)
        obtain ⟨a5, c5, e5⟩ := hlow.1.len
        have HB5 := hidden hlow
        have HE5 := hidden (HBL.out.trans (he.mono HBL.out.size))
        simp only [List.length_cons, List.length_nil, Nat.zero_add, Nat.reduceAdd, actsTo, if_true, dstOf, List.getElem?_toArray, List.getElem?_cons_succ, List.getElem?_cons_zero, Option.bind_some, Act.put, List.setIfInBounds_toArray, List.set_cons_zero, List.set_cons_succ]
        rw [e5] at HB5 ⊢
        clear hF hlow he
        generalize M3.length = m3l at HB5 ⊢
        go_wp2_with fail
        refine (rtext_c Y (by omega) _ M3 w5 HB5.out.1 (by omega)).mono ?_
        rintro e w6 ⟨v6, rfl, ho6, hb6⟩
        rw [← H4.out] at ho6
        have HP : Hid (PayP w (.slice ba bs.length bc) bs Q (.returned v6) w6) := hidden ⟨_, _, rfl, BSl.ofRow ho6, HLEN.out, HQ.out, fun k e => .inl (Nat.le_trans HE5.out.size (ho6.lt k e).1), HE5.out.trans (hb6.mono HE5.out.size)⟩
        clear ho6 hb6
        go_wp2_with fail
        go_ret
        exact HP.out
    · have t8 : (m.tmod 9 != 1) = true := by simp [e8]
      obtain ⟨Y, hY⟩ : ∃ X : ByteArray, X = s1 := ⟨_, rfl⟩
      obtain ⟨Z, hZ⟩ : ∃ X : ByteArray, X = (⟨#[115, 102, 116, 112]⟩ : ByteArray) := ⟨_, rfl⟩
      have hYs : Y.size ≤ 70 := by rw [hY]; exact hs7
      have hZs : Z.size ≤ 70 := by rw [hZ]; decide
      obtain ⟨wa, hwa⟩ : ∃ wa, wa = (n.tmod 2 == 0) := ⟨_, rfl⟩
      obtain ⟨M1, hM1⟩ : ∃ L : List UInt8, L = [98] ++ numsL [u32n ch] := ⟨_, rfl⟩
      obtain ⟨M2, hM2⟩ : ∃ L : List UInt8, L = M1 ++ textBytes Y.data.toList := ⟨_, rfl⟩
      obtain ⟨M3, hM3⟩ : ∃ L : List UInt8, L = M2 ++ [bit wa] := ⟨_, rfl⟩
      obtain ⟨M4, hM4⟩ : ∃ L : List UInt8, L = M3 ++ textBytes Z.data.toList := ⟨_, rfl⟩
      have hm1 : M1.length = 5 := by rw [hM1, List.length_append, numsL_len]; rfl
      have hm2 : M2.length ≤ 79 := by rw [hM2, List.length_append, tl]; omega
      have hm3 : M3.length ≤ 80 := by rw [hM3, List.length_append]; simp; omega
      have HLEN : Hid (M4.length ≤ 40000) := hidden (by rw [hM4, List.length_append, tl]; omega)
      have HQ : Hid (Q M4) := hidden (by rw [hM4, hM3, hM2, hM1, hwa]; exact hq.2 (fun h => h.1 e9) _)
      have HWA := hidden hwa.symm
      have HY := hidden hY
      have HZ := hidden hZ
      have H1 := hidden hM1
      have H2 := hidden hM2
      have H3 := hidden hM3
      have H4 := hidden hM4
      clear hM1 hM2 hM3 hM4 hY hZ hwa
      go_enter Try.func20, Try.ntmps20
      go_wp2_with fail
      refine (HH.out _).mono ?_
      rintro e w1 ⟨rfl, rfl⟩
      clear HH
      generalize w.alloc (.cells #[.int .i64 k, .int .i64 ch, .int .i64 n, .int .i64 m, .string s, .slice ba bs.length bc] 49) = w0 at *
      obtain ⟨k0, k1, k2, k3, k4, k5, kf⟩ := cells6 HP0.out.box
      have HBL := hidden HP0.out.below
      have HU1 : Hid (∀ w1 v u, BSl w1 v [98] → NSl w1 u [u32n ch] → Ex w0 w1 → Calls Try.prog 9 #[v, u] w1 fun e w' => ∃ u, e = .returned u ∧ Ex w1 w' ∧ (Fact.low w.heap.size M1).holds u w') := hidden fun w1 v u h1 h2 h3 => told_low (Nat.le_trans HP0.out.below.size h3.size) (by rw [H1.out]; exact lu32_c v u [98] _ w1 h1 h2 (by intro j hj; match j, hj with | 0, _ => exact u32n_lt _) (by simp) (by simp) (by simp))
      have HT1 : Hid (∀ w1 v, BSl w1 v M1 → Ex w0 w1 → Calls Try.prog 10 #[v, .string Y] w1 fun e w' => ∃ u, e = .returned u ∧ Ex w1 w' ∧ (Fact.low w.heap.size M2).holds u w') := hidden fun w1 v h1 h2 => told_low (Nat.le_trans HP0.out.below.size h2.size) (by rw [H2.out]; exact rtext_c Y (by omega) v M1 w1 h1 (by omega))
      have HB1 : Hid (∀ w1 v, BSl w1 v M2 → Ex w0 w1 → Calls Try.prog 36 #[v, .bool wa] w1 fun e w' => ∃ u, e = .returned u ∧ Ex w1 w' ∧ (Fact.low w.heap.size M3).holds u w') := hidden fun w1 v h1 h2 => told_low (Nat.le_trans HP0.out.below.size h2.size) (by rw [H3.out]; exact rbool_c wa v M2 w1 h1 (by omega))
      have K2 := hidden k2
      go_upto_region 14 with fail
      rw [← HY.out, ← HZ.out]
      skip
      skip
      clear HP0 HY k0 k1 k2 k3 k4 k5 kf
      refine region_free [(.bsl [98]), (.val (.int .u32 (ch % 4294967296))), (.nsl [u32n ch]), (.low w.heap.size M1), (.val (.string Y)), (.low w.heap.size M2), (.val (.pointer (some ⟨w.heap.size, 2, none⟩))), (.val (.int .i64 n)), (.val (.int .i64 (n.tmod 2))), (.val (.bool wa)), (.low w.heap.size M3), (.low w.heap.size M3)] (by kernel_rfl) ?_ ?_
      · refine req_cons (.bsl [98]) (by kernel_rfl) (fun vs w1 he hd => StepG.plain (by kernel_rfl) (gives_lit1B 98 98 rfl (by kernel_rfl) (by kernel_rfl))) ?_
        refine req_cons (.val (.int .u32 (ch % 4294967296))) (by kernel_rfl) (fun vs w1 he hd => StepG.plain (by kernel_rfl) (gives_move (x := .tmp 3) (by kernel_rfl) (by kernel_rfl) ⟨Ex.refl _, rfl⟩)) ?_
        refine req_cons (.nsl [u32n ch]) (by kernel_rfl) (fun vs w1 he hd => StepG.plain (by kernel_rfl) (gives_nums1 (x := .tmp 49) (u32n ch) (by kernel_rfl) (Eq.trans (Eq.trans (b := vs 1) (by kernel_rfl) (hd 1 (.val (.int .u32 (ch % 4294967296))) (by kernel_rfl) (by kernel_rfl))) (by rw [u32n_cast])))) ?_
        refine req_cons (.low w.heap.size M1) (by kernel_rfl) (fun vs w1 he hd => StepG.plain (by kernel_rfl) (gives_call (fn := Try.f9) (f := 9) (xs := #[.tmp 48, .tmp 50]) (ts := #[30, 68]) (vs := #[vs 0, vs 2]) (by kernel_rfl) (by kernel_rfl) (Eq.trans (b := #[vs 0, vs 2]) (by kernel_rfl) (rfl)) (by kernel_rfl) (by kernel_rfl) (by kernel_rfl) (HU1.out w1 (vs 0) (vs 2) (hd 0 (.bsl [98]) (by kernel_rfl) (by kernel_rfl)) (hd 2 (.nsl [u32n ch]) (by kernel_rfl) (by kernel_rfl)) he))) ?_
        refine req_cons (.val (.string Y)) (by kernel_rfl) (fun vs w1 he hd => StepG.plain (by kernel_rfl) (gives_move (x := .tmp 5) (by kernel_rfl) (by kernel_rfl) ⟨Ex.refl _, rfl⟩)) ?_
        refine req_cons (.low w.heap.size M2) (by kernel_rfl) (fun vs w1 he hd => StepG.plain (by kernel_rfl) (gives_call (fn := Try.f10) (f := 10) (xs := #[.tmp 51, .tmp 52]) (ts := #[30, 9]) (vs := #[vs 3, (.string Y)]) (by kernel_rfl) (by kernel_rfl) (Eq.trans (b := #[vs 3, vs 4]) (by kernel_rfl) (by rw [show vs 4 = (.string Y) from (hd 4 (.val (.string Y)) (by kernel_rfl) (by kernel_rfl))])) (by kernel_rfl) (by kernel_rfl) (by kernel_rfl) (HT1.out w1 (vs 3) (hd 3 (.low w.heap.size M1) (by kernel_rfl) (by kernel_rfl)).1 he))) ?_
        refine req_cons (.val (.pointer (some ⟨w.heap.size, 2, none⟩))) (by kernel_rfl) (fun vs w1 he hd => StepG.plain (by kernel_rfl) (gives_ask (x := .tmp 1) 2 (by decide) (by kernel_rfl) (by kernel_rfl) ⟨Ex.refl _, rfl⟩)) ?_
        refine req_cons (.val (.int .i64 n)) (by kernel_rfl) (fun vs w1 he hd => StepG.plain (by kernel_rfl) (gives_ldi (x := .tmp 54) (by kernel_rfl) (Eq.trans (b := vs 6) (by kernel_rfl) (hd 6 (.val (.pointer (some ⟨w.heap.size, 2, none⟩))) (by kernel_rfl) (by kernel_rfl))) (cell_ex K2.out he) ⟨Ex.refl _, rfl⟩)) ?_
        refine req_cons (.val (.int .i64 (n.tmod 2))) (by kernel_rfl) (fun vs w1 he hd => StepG.plain (by kernel_rfl) (gives_remI (t := 3) (a := n) (b := 2) (by decide) (x := .tmp 55) (y := .const (.int .i64 2)) (by kernel_rfl) (Eq.trans (b := vs 7) (by kernel_rfl) (hd 7 (.val (.int .i64 n)) (by kernel_rfl) (by kernel_rfl))) (by kernel_rfl) ⟨Ex.refl _, rfl⟩)) ?_
        refine req_cons (.val (.bool wa)) (by kernel_rfl) (fun vs w1 he hd => StepG.plain (by kernel_rfl) (gives_eqI (t := 3) (k := .i64) (a := n.tmod 2) (b := 0) (x := .tmp 56) (y := .const (.int .i64 0)) (by kernel_rfl) (Eq.trans (b := vs 8) (by kernel_rfl) (hd 8 (.val (.int .i64 (n.tmod 2))) (by kernel_rfl) (by kernel_rfl))) (by kernel_rfl) HWA.out ⟨Ex.refl _, rfl⟩)) ?_
        refine req_cons (.low w.heap.size M3) (by kernel_rfl) (fun vs w1 he hd => StepG.plain (by kernel_rfl) (gives_call (fn := Try.f36) (f := 36) (xs := #[.tmp 53, .tmp 57]) (ts := #[30, 4]) (vs := #[vs 5, (.bool wa)]) (by kernel_rfl) (by kernel_rfl) (Eq.trans (b := #[vs 5, vs 9]) (by kernel_rfl) (by rw [show vs 9 = (.bool wa) from (hd 9 (.val (.bool wa)) (by kernel_rfl) (by kernel_rfl))])) (by kernel_rfl) (by kernel_rfl) (by kernel_rfl) (HB1.out w1 (vs 5) (hd 5 (.low w.heap.size M2) (by kernel_rfl) (by kernel_rfl)).1 he))) ?_
        refine req_cons (.low w.heap.size M3) (by kernel_rfl) (fun vs w1 he hd => StepG.plain (by kernel_rfl) (gives_assign (x := .tmp 58) (v := vs 10) (by kernel_rfl) (by kernel_rfl) ⟨Ex.refl _, (hd 10 (.low w.heap.size M3) (by kernel_rfl) (by kernel_rfl))⟩)) req_nil
      · intro vs w5 he hF
        have hlow : BSl w5 (vs 11) M3 ∧ ∀ k, (vs 11).ownBlock = some k → w.heap.size ≤ k := told_at hF 11 (.low w.heap.size M3) (by decide) (by kernel_rfl)
        obtain ⟨a5, c5, e5⟩ := hlow.1.len
        have HB5 := hidden hlow
        have HE5 := hidden (HBL.out.trans (he.mono HBL.out.size))
        simp only [List.length_cons, List.length_nil, Nat.zero_add, Nat.reduceAdd, actsTo, if_true, dstOf, List.getElem?_toArray, List.getElem?_cons_succ, List.getElem?_cons_zero, Option.bind_some, Act.put, List.setIfInBounds_toArray, List.set_cons_zero, List.set_cons_succ]
        rw [e5] at HB5 ⊢
        clear hF hlow he
        generalize M3.length = m3l at HB5 ⊢
        go_wp2_with fail
        refine (rtext_c Z (by omega) _ M3 w5 HB5.out.1 (by omega)).mono ?_
        rintro e w6 ⟨v6, rfl, ho6, hb6⟩
        rw [← H4.out] at ho6
        have HP : Hid (PayP w (.slice ba bs.length bc) bs Q (.returned v6) w6) := hidden ⟨_, _, rfl, BSl.ofRow ho6, HLEN.out, HQ.out, fun k e => .inl (Nat.le_trans HE5.out.size (ho6.lt k e).1), HE5.out.trans (hb6.mono HE5.out.size)⟩
        clear ho6 hb6
        go_wp2_with fail
        go_ret
        exact HP.out
  · have t9 : (n.tmod 9 == 1) = false := by simp [e9]
    by_cases e8 : m.tmod 9 = 1
    · have t8 : (m.tmod 9 != 1) = false := by simp [e8]
      obtain ⟨Y, hY⟩ : ∃ X : ByteArray, X = (⟨#[115, 117, 98, 115, 121, 115, 116, 101, 109]⟩ : ByteArray) := ⟨_, rfl⟩
      obtain ⟨Z, hZ⟩ : ∃ X : ByteArray, X = s1 := ⟨_, rfl⟩
      have hYs : Y.size ≤ 70 := by rw [hY]; decide
      have hZs : Z.size ≤ 70 := by rw [hZ]; exact hs7
      obtain ⟨wa, hwa⟩ : ∃ wa, wa = (n.tmod 2 == 0) := ⟨_, rfl⟩
      obtain ⟨M1, hM1⟩ : ∃ L : List UInt8, L = [98] ++ numsL [u32n ch] := ⟨_, rfl⟩
      obtain ⟨M2, hM2⟩ : ∃ L : List UInt8, L = M1 ++ textBytes Y.data.toList := ⟨_, rfl⟩
      obtain ⟨M3, hM3⟩ : ∃ L : List UInt8, L = M2 ++ [bit wa] := ⟨_, rfl⟩
      obtain ⟨M4, hM4⟩ : ∃ L : List UInt8, L = M3 ++ textBytes Z.data.toList := ⟨_, rfl⟩
      have hm1 : M1.length = 5 := by rw [hM1, List.length_append, numsL_len]; rfl
      have hm2 : M2.length ≤ 79 := by rw [hM2, List.length_append, tl]; omega
      have hm3 : M3.length ≤ 80 := by rw [hM3, List.length_append]; simp; omega
      have HLEN : Hid (M4.length ≤ 40000) := hidden (by rw [hM4, List.length_append, tl]; omega)
      have HQ : Hid (Q M4) := hidden (by rw [hM4, hM3, hM2, hM1, hwa]; exact hq.2 (fun h => h.2 e8) _)
      have HWA := hidden hwa.symm
      have HY := hidden hY
      have HZ := hidden hZ
      have H1 := hidden hM1
      have H2 := hidden hM2
      have H3 := hidden hM3
      have H4 := hidden hM4
      clear hM1 hM2 hM3 hM4 hY hZ hwa
      go_enter Try.func20, Try.ntmps20
      go_wp2_with fail
      refine (HH.out _).mono ?_
      rintro e w1 ⟨rfl, rfl⟩
      clear HH
      generalize w.alloc (.cells #[.int .i64 k, .int .i64 ch, .int .i64 n, .int .i64 m, .string s, .slice ba bs.length bc] 49) = w0 at *
      obtain ⟨k0, k1, k2, k3, k4, k5, kf⟩ := cells6 HP0.out.box
      have HBL := hidden HP0.out.below
      have HU1 : Hid (∀ w1 v u, BSl w1 v [98] → NSl w1 u [u32n ch] → Ex w0 w1 → Calls Try.prog 9 #[v, u] w1 fun e w' => ∃ u, e = .returned u ∧ Ex w1 w' ∧ (Fact.low w.heap.size M1).holds u w') := hidden fun w1 v u h1 h2 h3 => told_low (Nat.le_trans HP0.out.below.size h3.size) (by rw [H1.out]; exact lu32_c v u [98] _ w1 h1 h2 (by intro j hj; match j, hj with | 0, _ => exact u32n_lt _) (by simp) (by simp) (by simp))
      have HT1 : Hid (∀ w1 v, BSl w1 v M1 → Ex w0 w1 → Calls Try.prog 10 #[v, .string Y] w1 fun e w' => ∃ u, e = .returned u ∧ Ex w1 w' ∧ (Fact.low w.heap.size M2).holds u w') := hidden fun w1 v h1 h2 => told_low (Nat.le_trans HP0.out.below.size h2.size) (by rw [H2.out]; exact rtext_c Y (by omega) v M1 w1 h1 (by omega))
      have HB1 : Hid (∀ w1 v, BSl w1 v M2 → Ex w0 w1 → Calls Try.prog 36 #[v, .bool wa] w1 fun e w' => ∃ u, e = .returned u ∧ Ex w1 w' ∧ (Fact.low w.heap.size M3).holds u w') := hidden fun w1 v h1 h2 => told_low (Nat.le_trans HP0.out.below.size h2.size) (by rw [H3.out]; exact rbool_c wa v M2 w1 h1 (by omega))
      have K2 := hidden k2
      go_upto_region 14 with fail
      rw [← HY.out, ← HZ.out]
      skip
      skip
      clear HP0 HY k0 k1 k2 k3 k4 k5 kf
      refine region_free [(.bsl [98]), (.val (.int .u32 (ch % 4294967296))), (.nsl [u32n ch]), (.low w.heap.size M1), (.val (.string Y)), (.low w.heap.size M2), (.val (.pointer (some ⟨w.heap.size, 2, none⟩))), (.val (.int .i64 n)), (.val (.int .i64 (n.tmod 2))), (.val (.bool wa)), (.low w.heap.size M3), (.low w.heap.size M3)] (by kernel_rfl) ?_ ?_
      · refine req_cons (.bsl [98]) (by kernel_rfl) (fun vs w1 he hd => StepG.plain (by kernel_rfl) (gives_lit1B 98 98 rfl (by kernel_rfl) (by kernel_rfl))) ?_
        refine req_cons (.val (.int .u32 (ch % 4294967296))) (by kernel_rfl) (fun vs w1 he hd => StepG.plain (by kernel_rfl) (gives_move (x := .tmp 3) (by kernel_rfl) (by kernel_rfl) ⟨Ex.refl _, rfl⟩)) ?_
        refine req_cons (.nsl [u32n ch]) (by kernel_rfl) (fun vs w1 he hd => StepG.plain (by kernel_rfl) (gives_nums1 (x := .tmp 49) (u32n ch) (by kernel_rfl) (Eq.trans (Eq.trans (b := vs 1) (by kernel_rfl) (hd 1 (.val (.int .u32 (ch % 4294967296))) (by kernel_rfl) (by kernel_rfl))) (by rw [u32n_cast])))) ?_
        refine req_cons (.low w.heap.size M1) (by kernel_rfl) (fun vs w1 he hd => StepG.plain (by kernel_rfl) (gives_call (fn := Try.f9) (f := 9) (xs := #[.tmp 48, .tmp 50]) (ts := #[30, 68]) (vs := #[vs 0, vs 2]) (by kernel_rfl) (by kernel_rfl) (Eq.trans (b := #[vs 0, vs 2]) (by kernel_rfl) (rfl)) (by kernel_rfl) (by kernel_rfl) (by kernel_rfl) (HU1.out w1 (vs 0) (vs 2) (hd 0 (.bsl [98]) (by kernel_rfl) (by kernel_rfl)) (hd 2 (.nsl [u32n ch]) (by kernel_rfl) (by kernel_rfl)) he))) ?_
        refine req_cons (.val (.string Y)) (by kernel_rfl) (fun vs w1 he hd => StepG.plain (by kernel_rfl) (gives_move (x := .tmp 5) (by kernel_rfl) (by kernel_rfl) ⟨Ex.refl _, rfl⟩)) ?_
        refine req_cons (.low w.heap.size M2) (by kernel_rfl) (fun vs w1 he hd => StepG.plain (by kernel_rfl) (gives_call (fn := Try.f10) (f := 10) (xs := #[.tmp 51, .tmp 52]) (ts := #[30, 9]) (vs := #[vs 3, (.string Y)]) (by kernel_rfl) (by kernel_rfl) (Eq.trans (b := #[vs 3, vs 4]) (by kernel_rfl) (by rw [show vs 4 = (.string Y) from (hd 4 (.val (.string Y)) (by kernel_rfl) (by kernel_rfl))])) (by kernel_rfl) (by kernel_rfl) (by kernel_rfl) (HT1.out w1 (vs 3) (hd 3 (.low w.heap.size M1) (by kernel_rfl) (by kernel_rfl)).1 he))) ?_
        refine req_cons (.val (.pointer (some ⟨w.heap.size, 2, none⟩))) (by kernel_rfl) (fun vs w1 he hd => StepG.plain (by kernel_rfl) (gives_ask (x := .tmp 1) 2 (by decide) (by kernel_rfl) (by kernel_rfl) ⟨Ex.refl _, rfl⟩)) ?_
        refine req_cons (.val (.int .i64 n)) (by kernel_rfl) (fun vs w1 he hd => StepG.plain (by kernel_rfl) (gives_ldi (x := .tmp 54) (by kernel_rfl) (Eq.trans (b := vs 6) (by kernel_rfl) (hd 6 (.val (.pointer (some ⟨w.heap.size, 2, none⟩))) (by kernel_rfl) (by kernel_rfl))) (cell_ex K2.out he) ⟨Ex.refl _, rfl⟩)) ?_
        refine req_cons (.val (.int .i64 (n.tmod 2))) (by kernel_rfl) (fun vs w1 he hd => StepG.plain (by kernel_rfl) (gives_remI (t := 3) (a := n) (b := 2) (by decide) (x := .tmp 55) (y := .const (.int .i64 2)) (by kernel_rfl) (Eq.trans (b := vs 7) (by kernel_rfl) (hd 7 (.val (.int .i64 n)) (by kernel_rfl) (by kernel_rfl))) (by kernel_rfl) ⟨Ex.refl _, rfl⟩)) ?_
        refine req_cons (.val (.bool wa)) (by kernel_rfl) (fun vs w1 he hd => StepG.plain (by kernel_rfl) (gives_eqI (t := 3) (k := .i64) (a := n.tmod 2) (b := 0) (x := .tmp 56) (y := .const (.int .i64 0)) (by kernel_rfl) (Eq.trans (b := vs 8) (by kernel_rfl) (hd 8 (.val (.int .i64 (n.tmod 2))) (by kernel_rfl) (by kernel_rfl))) (by kernel_rfl) HWA.out ⟨Ex.refl _, rfl⟩)) ?_
        refine req_cons (.low w.heap.size M3) (by kernel_rfl) (fun vs w1 he hd => StepG.plain (by kernel_rfl) (gives_call (fn := Try.f36) (f := 36) (xs := #[.tmp 53, .tmp 57]) (ts := #[30, 4]) (vs := #[vs 5, (.bool wa)]) (by kernel_rfl) (by kernel_rfl) (Eq.trans (b := #[vs 5, vs 9]) (by kernel_rfl) (by rw [show vs 9 = (.bool wa) from (hd 9 (.val (.bool wa)) (by kernel_rfl) (by kernel_rfl))])) (by kernel_rfl) (by kernel_rfl) (by kernel_rfl) (HB1.out w1 (vs 5) (hd 5 (.low w.heap.size M2) (by kernel_rfl) (by kernel_rfl)).1 he))) ?_
        refine req_cons (.low w.heap.size M3) (by kernel_rfl) (fun vs w1 he hd => StepG.plain (by kernel_rfl) (gives_assign (x := .tmp 58) (v := vs 10) (by kernel_rfl) (by kernel_rfl) ⟨Ex.refl _, (hd 10 (.low w.heap.size M3) (by kernel_rfl) (by kernel_rfl))⟩)) req_nil
      · intro vs w5 he hF
        have hlow : BSl w5 (vs 11) M3 ∧ ∀ k, (vs 11).ownBlock = some k → w.heap.size ≤ k := told_at hF 11 (.low w.heap.size M3) (by decide) (by kernel_rfl)
        obtain ⟨a5, c5, e5⟩ := hlow.1.len
        have HB5 := hidden hlow
        have HE5 := hidden (HBL.out.trans (he.mono HBL.out.size))
        simp only [List.length_cons, List.length_nil, Nat.zero_add, Nat.reduceAdd, actsTo, if_true, dstOf, List.getElem?_toArray, List.getElem?_cons_succ, List.getElem?_cons_zero, Option.bind_some, Act.put, List.setIfInBounds_toArray, List.set_cons_zero, List.set_cons_succ]
        rw [e5] at HB5 ⊢
        clear hF hlow he
        generalize M3.length = m3l at HB5 ⊢
        go_wp2_with fail
        refine (rtext_c Z (by omega) _ M3 w5 HB5.out.1 (by omega)).mono ?_
        rintro e w6 ⟨v6, rfl, ho6, hb6⟩
        rw [← H4.out] at ho6
        have HP : Hid (PayP w (.slice ba bs.length bc) bs Q (.returned v6) w6) := hidden ⟨_, _, rfl, BSl.ofRow ho6, HLEN.out, HQ.out, fun k e => .inl (Nat.le_trans HE5.out.size (ho6.lt k e).1), HE5.out.trans (hb6.mono HE5.out.size)⟩
        clear ho6 hb6
        go_wp2_with fail
        go_ret
        exact HP.out
    · have t8 : (m.tmod 9 != 1) = true := by simp [e8]
      obtain ⟨Y, hY⟩ : ∃ X : ByteArray, X = (⟨#[115, 117, 98, 115, 121, 115, 116, 101, 109]⟩ : ByteArray) := ⟨_, rfl⟩
      obtain ⟨Z, hZ⟩ : ∃ X : ByteArray, X = (⟨#[115, 102, 116, 112]⟩ : ByteArray) := ⟨_, rfl⟩
      have hYs : Y.size ≤ 70 := by rw [hY]; decide
      have hZs : Z.size ≤ 70 := by rw [hZ]; decide
      obtain ⟨wa, hwa⟩ : ∃ wa, wa = (n.tmod 2 == 0) := ⟨_, rfl⟩
      obtain ⟨M1, hM1⟩ : ∃ L : List UInt8, L = [98] ++ numsL [u32n ch] := ⟨_, rfl⟩
      obtain ⟨M2, hM2⟩ : ∃ L : List UInt8, L = M1 ++ textBytes Y.data.toList := ⟨_, rfl⟩
      obtain ⟨M3, hM3⟩ : ∃ L : List UInt8, L = M2 ++ [bit wa] := ⟨_, rfl⟩
      obtain ⟨M4, hM4⟩ : ∃ L : List UInt8, L = M3 ++ textBytes Z.data.toList := ⟨_, rfl⟩
      have hm1 : M1.length = 5 := by rw [hM1, List.length_append, numsL_len]; rfl
      have hm2 : M2.length ≤ 79 := by rw [hM2, List.length_append, tl]; omega
      have hm3 : M3.length ≤ 80 := by rw [hM3, List.length_append]; simp; omega
      have HLEN : Hid (M4.length ≤ 40000) := hidden (by rw [hM4, List.length_append, tl]; omega)
      have HQ : Hid (Q M4) := hidden (by rw [hM4, hM3, hM2, hM1, hwa, hY, hZ]; exact hq.1 e9 e8)
      have HWA := hidden hwa.symm
      have HY := hidden hY
      have HZ := hidden hZ
      have H1 := hidden hM1
      have H2 := hidden hM2
      have H3 := hidden hM3
      have H4 := hidden hM4
      clear hM1 hM2 hM3 hM4 hY hZ hwa
      go_enter Try.func20, Try.ntmps20
      go_wp2_with fail
      refine (HH.out _).mono ?_
      rintro e w1 ⟨rfl, rfl⟩
      clear HH
      generalize w.alloc (.cells #[.int .i64 k, .int .i64 ch, .int .i64 n, .int .i64 m, .string s, .slice ba bs.length bc] 49) = w0 at *
      obtain ⟨k0, k1, k2, k3, k4, k5, kf⟩ := cells6 HP0.out.box
      have HBL := hidden HP0.out.below
      have HU1 : Hid (∀ w1 v u, BSl w1 v [98] → NSl w1 u [u32n ch] → Ex w0 w1 → Calls Try.prog 9 #[v, u] w1 fun e w' => ∃ u, e = .returned u ∧ Ex w1 w' ∧ (Fact.low w.heap.size M1).holds u w') := hidden fun w1 v u h1 h2 h3 => told_low (Nat.le_trans HP0.out.below.size h3.size) (by rw [H1.out]; exact lu32_c v u [98] _ w1 h1 h2 (by intro j hj; match j, hj with | 0, _ => exact u32n_lt _) (by simp) (by simp) (by simp))
      have HT1 : Hid (∀ w1 v, BSl w1 v M1 → Ex w0 w1 → Calls Try.prog 10 #[v, .string Y] w1 fun e w' => ∃ u, e = .returned u ∧ Ex w1 w' ∧ (Fact.low w.heap.size M2).holds u w') := hidden fun w1 v h1 h2 => told_low (Nat.le_trans HP0.out.below.size h2.size) (by rw [H2.out]; exact rtext_c Y (by omega) v M1 w1 h1 (by omega))
      have HB1 : Hid (∀ w1 v, BSl w1 v M2 → Ex w0 w1 → Calls Try.prog 36 #[v, .bool wa] w1 fun e w' => ∃ u, e = .returned u ∧ Ex w1 w' ∧ (Fact.low w.heap.size M3).holds u w') := hidden fun w1 v h1 h2 => told_low (Nat.le_trans HP0.out.below.size h2.size) (by rw [H3.out]; exact rbool_c wa v M2 w1 h1 (by omega))
      have K2 := hidden k2
      go_upto_region 14 with fail
      rw [← HY.out, ← HZ.out]
      skip
      skip
      clear HP0 HY k0 k1 k2 k3 k4 k5 kf
      refine region_free [(.bsl [98]), (.val (.int .u32 (ch % 4294967296))), (.nsl [u32n ch]), (.low w.heap.size M1), (.val (.string Y)), (.low w.heap.size M2), (.val (.pointer (some ⟨w.heap.size, 2, none⟩))), (.val (.int .i64 n)), (.val (.int .i64 (n.tmod 2))), (.val (.bool wa)), (.low w.heap.size M3), (.low w.heap.size M3)] (by kernel_rfl) ?_ ?_
      · refine req_cons (.bsl [98]) (by kernel_rfl) (fun vs w1 he hd => StepG.plain (by kernel_rfl) (gives_lit1B 98 98 rfl (by kernel_rfl) (by kernel_rfl))) ?_
        refine req_cons (.val (.int .u32 (ch % 4294967296))) (by kernel_rfl) (fun vs w1 he hd => StepG.plain (by kernel_rfl) (gives_move (x := .tmp 3) (by kernel_rfl) (by kernel_rfl) ⟨Ex.refl _, rfl⟩)) ?_
        refine req_cons (.nsl [u32n ch]) (by kernel_rfl) (fun vs w1 he hd => StepG.plain (by kernel_rfl) (gives_nums1 (x := .tmp 49) (u32n ch) (by kernel_rfl) (Eq.trans (Eq.trans (b := vs 1) (by kernel_rfl) (hd 1 (.val (.int .u32 (ch % 4294967296))) (by kernel_rfl) (by kernel_rfl))) (by rw [u32n_cast])))) ?_
        refine req_cons (.low w.heap.size M1) (by kernel_rfl) (fun vs w1 he hd => StepG.plain (by kernel_rfl) (gives_call (fn := Try.f9) (f := 9) (xs := #[.tmp 48, .tmp 50]) (ts := #[30, 68]) (vs := #[vs 0, vs 2]) (by kernel_rfl) (by kernel_rfl) (Eq.trans (b := #[vs 0, vs 2]) (by kernel_rfl) (rfl)) (by kernel_rfl) (by kernel_rfl) (by kernel_rfl) (HU1.out w1 (vs 0) (vs 2) (hd 0 (.bsl [98]) (by kernel_rfl) (by kernel_rfl)) (hd 2 (.nsl [u32n ch]) (by kernel_rfl) (by kernel_rfl)) he))) ?_
        refine req_cons (.val (.string Y)) (by kernel_rfl) (fun vs w1 he hd => StepG.plain (by kernel_rfl) (gives_move (x := .tmp 5) (by kernel_rfl) (by kernel_rfl) ⟨Ex.refl _, rfl⟩)) ?_
        refine req_cons (.low w.heap.size M2) (by kernel_rfl) (fun vs w1 he hd => StepG.plain (by kernel_rfl) (gives_call (fn := Try.f10) (f := 10) (xs := #[.tmp 51, .tmp 52]) (ts := #[30, 9]) (vs := #[vs 3, (.string Y)]) (by kernel_rfl) (by kernel_rfl) (Eq.trans (b := #[vs 3, vs 4]) (by kernel_rfl) (by rw [show vs 4 = (.string Y) from (hd 4 (.val (.string Y)) (by kernel_rfl) (by kernel_rfl))])) (by kernel_rfl) (by kernel_rfl) (by kernel_rfl) (HT1.out w1 (vs 3) (hd 3 (.low w.heap.size M1) (by kernel_rfl) (by kernel_rfl)).1 he))) ?_
        refine req_cons (.val (.pointer (some ⟨w.heap.size, 2, none⟩))) (by kernel_rfl) (fun vs w1 he hd => StepG.plain (by kernel_rfl) (gives_ask (x := .tmp 1) 2 (by decide) (by kernel_rfl) (by kernel_rfl) ⟨Ex.refl _, rfl⟩)) ?_
        refine req_cons (.val (.int .i64 n)) (by kernel_rfl) (fun vs w1 he hd => StepG.plain (by kernel_rfl) (gives_ldi (x := .tmp 54) (by kernel_rfl) (Eq.trans (b := vs 6) (by kernel_rfl) (hd 6 (.val (.pointer (some ⟨w.heap.size, 2, none⟩))) (by kernel_rfl) (by kernel_rfl))) (cell_ex K2.out he) ⟨Ex.refl _, rfl⟩)) ?_
        refine req_cons (.val (.int .i64 (n.tmod 2))) (by kernel_rfl) (fun vs w1 he hd => StepG.plain (by kernel_rfl) (gives_remI (t := 3) (a := n) (b := 2) (by decide) (x := .tmp 55) (y := .const (.int .i64 2)) (by kernel_rfl) (Eq.trans (b := vs 7) (by kernel_rfl) (hd 7 (.val (.int .i64 n)) (by kernel_rfl) (by kernel_rfl))) (by kernel_rfl) ⟨Ex.refl _, rfl⟩)) ?_
        refine req_cons (.val (.bool wa)) (by kernel_rfl) (fun vs w1 he hd => StepG.plain (by kernel_rfl) (gives_eqI (t := 3) (k := .i64) (a := n.tmod 2) (b := 0) (x := .tmp 56) (y := .const (.int .i64 0)) (by kernel_rfl) (Eq.trans (b := vs 8) (by kernel_rfl) (hd 8 (.val (.int .i64 (n.tmod 2))) (by kernel_rfl) (by kernel_rfl))) (by kernel_rfl) HWA.out ⟨Ex.refl _, rfl⟩)) ?_
        refine req_cons (.low w.heap.size M3) (by kernel_rfl) (fun vs w1 he hd => StepG.plain (by kernel_rfl) (gives_call (fn := Try.f36) (f := 36) (xs := #[.tmp 53, .tmp 57]) (ts := #[30, 4]) (vs := #[vs 5, (.bool wa)]) (by kernel_rfl) (by kernel_rfl) (Eq.trans (b := #[vs 5, vs 9]) (by kernel_rfl) (by rw [show vs 9 = (.bool wa) from (hd 9 (.val (.bool wa)) (by kernel_rfl) (by kernel_rfl))])) (by kernel_rfl) (by kernel_rfl) (by kernel_rfl) (HB1.out w1 (vs 5) (hd 5 (.low w.heap.size M2) (by kernel_rfl) (by kernel_rfl)).1 he))) ?_
        refine req_cons (.low w.heap.size M3) (by kernel_rfl) (fun vs w1 he hd => StepG.plain (by kernel_rfl) (gives_assign (x := .tmp 58) (v := vs 10) (by kernel_rfl) (by kernel_rfl) ⟨Ex.refl _, (hd 10 (.low w.heap.size M3) (by kernel_rfl) (by kernel_rfl))⟩)) req_nil
      · intro vs w5 he hF
        have hlow : BSl w5 (vs 11) M3 ∧ ∀ k, (vs 11).ownBlock = some k → w.heap.size ≤ k := told_at hF 11 (.low w.heap.size M3) (by decide) (by kernel_rfl)
        obtain ⟨a5, c5, e5⟩ := hlow.1.len
        have HB5 := hidden hlow
        have HE5 := hidden (HBL.out.trans (he.mono HBL.out.size))
        simp only [List.length_cons, List.length_nil, Nat.zero_add, Nat.reduceAdd, actsTo, if_true, dstOf, List.getElem?_toArray, List.getElem?_cons_succ, List.getElem?_cons_zero, Option.bind_some, Act.put, List.setIfInBounds_toArray, List.set_cons_zero, List.set_cons_succ]
        rw [e5] at HB5 ⊢
        clear hF hlow he
        generalize M3.length = m3l at HB5 ⊢
        go_wp2_with fail
        refine (rtext_c Z (by omega) _ M3 w5 HB5.out.1 (by omega)).mono ?_
        rintro e w6 ⟨v6, rfl, ho6, hb6⟩
        rw [← H4.out] at ho6
        have HP : Hid (PayP w (.slice ba bs.length bc) bs Q (.returned v6) w6) := hidden ⟨_, _, rfl, BSl.ofRow ho6, HLEN.out, HQ.out, fun k e => .inl (Nat.le_trans HE5.out.size (ho6.lt k e).1), HE5.out.trans (hb6.mono HE5.out.size)⟩
        clear ho6 hb6
        go_wp2_with fail
        go_ret
        exact HP.out

set_option maxHeartbeats 1600000 in
set_option maxRecDepth 100000 in
theorem payData (k ch n m : Int) (s : ByteArray) (b : Value) (bs : List UInt8) (w : World) (hb : BSl w b bs) (hk : k = 3) :
    Calls Try.prog 20 #[AskV k ch n m s b] w fun e w' => PayP w b bs (fun _ => True) e w' := by
  have HP0 := hidden (PB.make w k ch n m s b bs hb)
  have HH : Hid (∀ w1, Calls Try.prog 35 #[.string s, .int .i64 70] w1 fun e w' => e = .returned (.string (s.extract 0 70)) ∧ w' = w1) := hidden (head_c s 70 (by omega))
  have hs7 := ex70 s
  obtain ⟨ba, bc, rfl⟩ := hb.len
  unfold AskV
  clear hb
  generalize s.extract 0 70 = s1 at *
  have t1 : (k == 1) = false := by simp; omega
  have t2 : (k == 2) = false := by simp; omega
  have t3 : (k == 3) = true := by simp; omega
  clear hk
  by_cases e5 : m.tmod 5 = 1
  · have t5 : (m.tmod 5 == 1) = true := by simp [e5]
    by_cases e50 : m.tmod 50 = 2
    · have t50 : (m.tmod 50 == 2) = true := by simp [e50]
      go_enter Try.func20, Try.ntmps20
      go_wp2_with fail
      refine (HH.out _).mono ?_
      rintro e w0 ⟨rfl, rfl⟩
      clear HH
      generalize w.alloc (.cells #[.int .i64 k, .int .i64 ch, .int .i64 n, .int .i64 m, .string s, .slice ba bs.length bc] 49) = w0 at *
      obtain ⟨k0, k1, k2, k3, k4, k5, kf⟩ := cells6 HP0.out.box
      have HBL := hidden HP0.out.below
      go_wp2_with fail
      refine (within_c n 3000 (by omega) w0).mono ?_
      rintro e w0 ⟨zz, rfl, hzz, rfl⟩
      have HP1 := HP0
      have K5 := hidden k5
      go_upto_region 22 with fail
      obtain ⟨z, hz⟩ : ∃ z : Nat, z = 32769 := ⟨_, rfl⟩
      have hz3 : z ≤ 32769 := by omega
      rw [show (Value.int .i64 32769) = .int .i64 (z : Int) by rw [hz]; rfl]
      clear hz
      clear HP1 k0 k1 k2 k3 k4 k5 kf
      obtain ⟨M1, hM1⟩ : ∃ L : List UInt8, L = [94] ++ numsL [u32n ch] := ⟨_, rfl⟩
      obtain ⟨M2, hM2⟩ : ∃ L : List UInt8, L = M1 ++ textBytes (sizedL bs z) := ⟨_, rfl⟩
      have hm1 : M1.length = 5 := by rw [hM1, List.length_append, numsL_len]; rfl
      have HLEN : Hid (M2.length ≤ 40000) := hidden (by rw [hM2, List.length_append]; simp only [textBytes, List.length_append, be_length, sizedL_length]; omega)
      have HU1 : Hid (∀ w1 v u, BSl w1 v [94] → NSl w1 u [u32n ch] → Ex w0 w1 → Calls Try.prog 9 #[v, u] w1 fun e w' => ∃ u, e = .returned u ∧ Ex w1 w' ∧ (Fact.low w.heap.size M1).holds u w') := hidden fun w1 v u h1 h2 h3 => told_low (Nat.le_trans HP0.out.below.size h3.size) (by rw [hM1]; exact lu32_c v u [94] _ w1 h1 h2 (by intro j hj; match j, hj with | 0, _ => exact u32n_lt _) (by simp) (by simp) (by simp))
      have HS1 : Hid (∀ w1, Ex w0 w1 → Calls Try.prog 21 #[.slice ba bs.length bc, .int .i64 (z : Int)] w1 fun e w' => ∃ u, e = .returned u ∧ Ex w1 w' ∧ (Fact.bsl (sizedL bs z)).holds u w') := hidden fun w1 h1 => (sized_b z (by omega) _ bs w1 (HP0.out.inp.fresh h1)).mono fun e w' ⟨g1, g2, g3⟩ => ⟨_, g1, g3, g2⟩
      have HT1 : Hid (∀ w1 v, BSl w1 v M1 → Ex w0 w1 → Calls Try.prog 10 #[v, .string ⟨(List.toArray (sizedL bs z))⟩] w1 fun e w' => ∃ u, e = .returned u ∧ Ex w1 w' ∧ (Fact.low w.heap.size M2).holds u w') := hidden fun w1 v h1 h2 => told_low (Nat.le_trans HP0.out.below.size h2.size) (by rw [hM2]; exact rtext_c _ (by rw [size_list, sizedL_length]; omega) v M1 w1 h1 (by rw [size_list, sizedL_length]; omega))
      clear hM1 hM2
      refine region_free [(.bsl [94]), (.val (.int .u32 (ch % 4294967296))), (.nsl [u32n ch]), (.low w.heap.size M1), (.val (.pointer (some ⟨w.heap.size, 5, none⟩))), (.val (.slice ba bs.length bc)), (.val (.int .i64 (z : Int))), (.bsl (sizedL bs z)), (.val (.string ⟨(List.toArray (sizedL bs z))⟩)), (.low w.heap.size M2), (.low w.heap.size M2)] (by kernel_rfl) ?_ ?_
      · refine req_cons (.bsl [94]) (by kernel_rfl) (fun vs w1 he hd => StepG.plain (by kernel_rfl) (gives_lit1B 94 94 rfl (by kernel_rfl) (by kernel_rfl))) ?_
        refine req_cons (.val (.int .u32 (ch % 4294967296))) (by kernel_rfl) (fun vs w1 he hd => StepG.plain (by kernel_rfl) (gives_move (x := .tmp 3) (by kernel_rfl) (by kernel_rfl) ⟨Ex.refl _, rfl⟩)) ?_
        refine req_cons (.nsl [u32n ch]) (by kernel_rfl) (fun vs w1 he hd => StepG.plain (by kernel_rfl) (gives_nums1 (x := .tmp 76) (u32n ch) (by kernel_rfl) (Eq.trans (Eq.trans (b := vs 1) (by kernel_rfl) (hd 1 (.val (.int .u32 (ch % 4294967296))) (by kernel_rfl) (by kernel_rfl))) (by rw [u32n_cast])))) ?_
        refine req_cons (.low w.heap.size M1) (by kernel_rfl) (fun vs w1 he hd => StepG.plain (by kernel_rfl) (gives_call (fn := Try.f9) (f := 9) (xs := #[.tmp 75, .tmp 77]) (ts := #[30, 68]) (vs := #[vs 0, vs 2]) (by kernel_rfl) (by kernel_rfl) (Eq.trans (b := #[vs 0, vs 2]) (by kernel_rfl) (rfl)) (by kernel_rfl) (by kernel_rfl) (by kernel_rfl) (HU1.out w1 (vs 0) (vs 2) (hd 0 (.bsl [94]) (by kernel_rfl) (by kernel_rfl)) (hd 2 (.nsl [u32n ch]) (by kernel_rfl) (by kernel_rfl)) he))) ?_
        refine req_cons (.val (.pointer (some ⟨w.heap.size, 5, none⟩))) (by kernel_rfl) (fun vs w1 he hd => StepG.plain (by kernel_rfl) (gives_ask (x := .tmp 1) 5 (by decide) (by kernel_rfl) (by kernel_rfl) ⟨Ex.refl _, rfl⟩)) ?_
        refine req_cons (.val (.slice ba bs.length bc)) (by kernel_rfl) (fun vs w1 he hd => StepG.plain (by kernel_rfl) (gives_ldb (x := .tmp 79) (by kernel_rfl) (Eq.trans (b := vs 4) (by kernel_rfl) (hd 4 (.val (.pointer (some ⟨w.heap.size, 5, none⟩))) (by kernel_rfl) (by kernel_rfl))) (cell_ex K5.out he) ⟨Ex.refl _, rfl⟩)) ?_
        refine req_cons (.val (.int .i64 (z : Int))) (by kernel_rfl) (fun vs w1 he hd => StepG.plain (by kernel_rfl) (gives_move (x := .tmp 7) (by kernel_rfl) (by kernel_rfl) ⟨Ex.refl _, rfl⟩)) ?_
        refine req_cons (.bsl (sizedL bs z)) (by kernel_rfl) (fun vs w1 he hd => StepG.plain (by kernel_rfl) (gives_call (fn := Try.f21) (f := 21) (xs := #[.tmp 80, .tmp 81]) (ts := #[30, 3]) (vs := #[(.slice ba bs.length bc), (.int .i64 (z : Int))]) (by kernel_rfl) (by kernel_rfl) (Eq.trans (b := #[vs 5, vs 6]) (by kernel_rfl) (by rw [show vs 5 = (.slice ba bs.length bc) from (hd 5 (.val (.slice ba bs.length bc)) (by kernel_rfl) (by kernel_rfl)), show vs 6 = (.int .i64 (z : Int)) from (hd 6 (.val (.int .i64 (z : Int))) (by kernel_rfl) (by kernel_rfl))])) (by kernel_rfl) (by kernel_rfl) (by kernel_rfl) (HS1.out w1 he))) ?_
        refine req_cons (.val (.string ⟨(List.toArray (sizedL bs z))⟩)) (by kernel_rfl) (fun vs w1 he hd => StepG.plain (by kernel_rfl) (gives_str (x := .tmp 82) (v := vs 7) (xs := sizedL bs z) (by kernel_rfl) (by kernel_rfl) (hd 7 (.bsl (sizedL bs z)) (by kernel_rfl) (by kernel_rfl)) ⟨Ex.refl _, rfl⟩)) ?_
        refine req_cons (.low w.heap.size M2) (by kernel_rfl) (fun vs w1 he hd => StepG.plain (by kernel_rfl) (gives_call (fn := Try.f10) (f := 10) (xs := #[.tmp 78, .tmp 83]) (ts := #[30, 9]) (vs := #[vs 3, (.string ⟨(List.toArray (sizedL bs z))⟩)]) (by kernel_rfl) (by kernel_rfl) (Eq.trans (b := #[vs 3, vs 8]) (by kernel_rfl) (by rw [show vs 8 = (.string ⟨(List.toArray (sizedL bs z))⟩) from (hd 8 (.val (.string ⟨(List.toArray (sizedL bs z))⟩)) (by kernel_rfl) (by kernel_rfl))])) (by kernel_rfl) (by kernel_rfl) (by kernel_rfl) (HT1.out w1 (vs 3) (hd 3 (.low w.heap.size M1) (by kernel_rfl) (by kernel_rfl)).1 he))) ?_
        refine req_cons (.low w.heap.size M2) (by kernel_rfl) (fun vs w1 he hd => StepG.plain (by kernel_rfl) (gives_assign (x := .tmp 84) (v := vs 9) (by kernel_rfl) (by kernel_rfl) ⟨Ex.refl _, (hd 9 (.low w.heap.size M2) (by kernel_rfl) (by kernel_rfl))⟩)) req_nil
      · intro vs w5 he hF
        have hlow : BSl w5 (vs 10) M2 ∧ ∀ k, (vs 10).ownBlock = some k → w.heap.size ≤ k := told_at hF 10 (.low w.heap.size M2) (by decide) (by kernel_rfl)
        obtain ⟨a5, c5, e5⟩ := hlow.1.len
        have HB5 := hidden hlow
        have HE5 := hidden (HBL.out.trans (he.mono HBL.out.size))
        simp only [List.length_cons, List.length_nil, Nat.zero_add, Nat.reduceAdd, actsTo, if_true, dstOf, List.getElem?_toArray, List.getElem?_cons_succ, List.getElem?_cons_zero, Option.bind_some, Act.put, List.setIfInBounds_toArray, List.set_cons_zero, List.set_cons_succ]
        rw [e5] at HB5 ⊢
        clear hF hlow he
        have HP : Hid (PayP w (.slice ba bs.length bc) bs (fun _ => True) (.returned (.slice a5 M2.length c5)) w5) := hidden ⟨_, _, rfl, HB5.out.1, HLEN.out, trivial, fun k e => .inl (HB5.out.2 k e), HE5.out⟩
        generalize M2.length = m2l at *
        go_wp2_with fail
        go_ret
        exact HP.out
    · have t50 : (m.tmod 50 == 2) = false := by simp [e50]
      go_enter Try.func20, Try.ntmps20
      go_wp2_with fail
      refine (HH.out _).mono ?_
      rintro e w0 ⟨rfl, rfl⟩
      clear HH
      generalize w.alloc (.cells #[.int .i64 k, .int .i64 ch, .int .i64 n, .int .i64 m, .string s, .slice ba bs.length bc] 49) = w0 at *
      obtain ⟨k0, k1, k2, k3, k4, k5, kf⟩ := cells6 HP0.out.box
      have HBL := hidden HP0.out.below
      go_wp2_with fail
      refine (within_c n 3000 (by omega) w0).mono ?_
      rintro e w0 ⟨zz, rfl, hzz, rfl⟩
      have HP1 := HP0
      have K5 := hidden k5
      go_upto_region 22 with fail
      obtain ⟨z, hz⟩ : ∃ z : Nat, z = 32768 := ⟨_, rfl⟩
      have hz3 : z ≤ 32769 := by omega
      rw [show (Value.int .i64 32768) = .int .i64 (z : Int) by rw [hz]; rfl]
      clear hz
      clear HP1 k0 k1 k2 k3 k4 k5 kf
      obtain ⟨M1, hM1⟩ : ∃ L : List UInt8, L = [94] ++ numsL [u32n ch] := ⟨_, rfl⟩
      obtain ⟨M2, hM2⟩ : ∃ L : List UInt8, L = M1 ++ textBytes (sizedL bs z) := ⟨_, rfl⟩
      have hm1 : M1.length = 5 := by rw [hM1, List.length_append, numsL_len]; rfl
      have HLEN : Hid (M2.length ≤ 40000) := hidden (by rw [hM2, List.length_append]; simp only [textBytes, List.length_append, be_length, sizedL_length]; omega)
      have HU1 : Hid (∀ w1 v u, BSl w1 v [94] → NSl w1 u [u32n ch] → Ex w0 w1 → Calls Try.prog 9 #[v, u] w1 fun e w' => ∃ u, e = .returned u ∧ Ex w1 w' ∧ (Fact.low w.heap.size M1).holds u w') := hidden fun w1 v u h1 h2 h3 => told_low (Nat.le_trans HP0.out.below.size h3.size) (by rw [hM1]; exact lu32_c v u [94] _ w1 h1 h2 (by intro j hj; match j, hj with | 0, _ => exact u32n_lt _) (by simp) (by simp) (by simp))
      have HS1 : Hid (∀ w1, Ex w0 w1 → Calls Try.prog 21 #[.slice ba bs.length bc, .int .i64 (z : Int)] w1 fun e w' => ∃ u, e = .returned u ∧ Ex w1 w' ∧ (Fact.bsl (sizedL bs z)).holds u w') := hidden fun w1 h1 => (sized_b z (by omega) _ bs w1 (HP0.out.inp.fresh h1)).mono fun e w' ⟨g1, g2, g3⟩ => ⟨_, g1, g3, g2⟩
      have HT1 : Hid (∀ w1 v, BSl w1 v M1 → Ex w0 w1 → Calls Try.prog 10 #[v, .string ⟨(List.toArray (sizedL bs z))⟩] w1 fun e w' => ∃ u, e = .returned u ∧ Ex w1 w' ∧ (Fact.low w.heap.size M2).holds u w') := hidden fun w1 v h1 h2 => told_low (Nat.le_trans HP0.out.below.size h2.size) (by rw [hM2]; exact rtext_c _ (by rw [size_list, sizedL_length]; omega) v M1 w1 h1 (by rw [size_list, sizedL_length]; omega))
      clear hM1 hM2
      refine region_free [(.bsl [94]), (.val (.int .u32 (ch % 4294967296))), (.nsl [u32n ch]), (.low w.heap.size M1), (.val (.pointer (some ⟨w.heap.size, 5, none⟩))), (.val (.slice ba bs.length bc)), (.val (.int .i64 (z : Int))), (.bsl (sizedL bs z)), (.val (.string ⟨(List.toArray (sizedL bs z))⟩)), (.low w.heap.size M2), (.low w.heap.size M2)] (by kernel_rfl) ?_ ?_
      · refine req_cons (.bsl [94]) (by kernel_rfl) (fun vs w1 he hd => StepG.plain (by kernel_rfl) (gives_lit1B 94 94 rfl (by kernel_rfl) (by kernel_rfl))) ?_
        refine req_cons (.val (.int .u32 (ch % 4294967296))) (by kernel_rfl) (fun vs w1 he hd => StepG.plain (by kernel_rfl) (gives_move (x := .tmp 3) (by kernel_rfl) (by kernel_rfl) ⟨Ex.refl _, rfl⟩)) ?_
        refine req_cons (.nsl [u32n ch]) (by kernel_rfl) (fun vs w1 he hd => StepG.plain (by kernel_rfl) (gives_nums1 (x := .tmp 76) (u32n ch) (by kernel_rfl) (Eq.trans (Eq.trans (b := vs 1) (by kernel_rfl) (hd 1 (.val (.int .u32 (ch % 4294967296))) (by kernel_rfl) (by kernel_rfl))) (by rw [u32n_cast])))) ?_
        refine req_cons (.low w.heap.size M1) (by kernel_rfl) (fun vs w1 he hd => StepG.plain (by kernel_rfl) (gives_call (fn := Try.f9) (f := 9) (xs := #[.tmp 75, .tmp 77]) (ts := #[30, 68]) (vs := #[vs 0, vs 2]) (by kernel_rfl) (by kernel_rfl) (Eq.trans (b := #[vs 0, vs 2]) (by kernel_rfl) (rfl)) (by kernel_rfl) (by kernel_rfl) (by kernel_rfl) (HU1.out w1 (vs 0) (vs 2) (hd 0 (.bsl [94]) (by kernel_rfl) (by kernel_rfl)) (hd 2 (.nsl [u32n ch]) (by kernel_rfl) (by kernel_rfl)) he))) ?_
        refine req_cons (.val (.pointer (some ⟨w.heap.size, 5, none⟩))) (by kernel_rfl) (fun vs w1 he hd => StepG.plain (by kernel_rfl) (gives_ask (x := .tmp 1) 5 (by decide) (by kernel_rfl) (by kernel_rfl) ⟨Ex.refl _, rfl⟩)) ?_
        refine req_cons (.val (.slice ba bs.length bc)) (by kernel_rfl) (fun vs w1 he hd => StepG.plain (by kernel_rfl) (gives_ldb (x := .tmp 79) (by kernel_rfl) (Eq.trans (b := vs 4) (by kernel_rfl) (hd 4 (.val (.pointer (some ⟨w.heap.size, 5, none⟩))) (by kernel_rfl) (by kernel_rfl))) (cell_ex K5.out he) ⟨Ex.refl _, rfl⟩)) ?_
        refine req_cons (.val (.int .i64 (z : Int))) (by kernel_rfl) (fun vs w1 he hd => StepG.plain (by kernel_rfl) (gives_move (x := .tmp 7) (by kernel_rfl) (by kernel_rfl) ⟨Ex.refl _, rfl⟩)) ?_
        refine req_cons (.bsl (sizedL bs z)) (by kernel_rfl) (fun vs w1 he hd => StepG.plain (by kernel_rfl) (gives_call (fn := Try.f21) (f := 21) (xs := #[.tmp 80, .tmp 81]) (ts := #[30, 3]) (vs := #[(.slice ba bs.length bc), (.int .i64 (z : Int))]) (by kernel_rfl) (by kernel_rfl) (Eq.trans (b := #[vs 5, vs 6]) (by kernel_rfl) (by rw [show vs 5 = (.slice ba bs.length bc) from (hd 5 (.val (.slice ba bs.length bc)) (by kernel_rfl) (by kernel_rfl)), show vs 6 = (.int .i64 (z : Int)) from (hd 6 (.val (.int .i64 (z : Int))) (by kernel_rfl) (by kernel_rfl))])) (by kernel_rfl) (by kernel_rfl) (by kernel_rfl) (HS1.out w1 he))) ?_
        refine req_cons (.val (.string ⟨(List.toArray (sizedL bs z))⟩)) (by kernel_rfl) (fun vs w1 he hd => StepG.plain (by kernel_rfl) (gives_str (x := .tmp 82) (v := vs 7) (xs := sizedL bs z) (by kernel_rfl) (by kernel_rfl) (hd 7 (.bsl (sizedL bs z)) (by kernel_rfl) (by kernel_rfl)) ⟨Ex.refl _, rfl⟩)) ?_
        refine req_cons (.low w.heap.size M2) (by kernel_rfl) (fun vs w1 he hd => StepG.plain (by kernel_rfl) (gives_call (fn := Try.f10) (f := 10) (xs := #[.tmp 78, .tmp 83]) (ts := #[30, 9]) (vs := #[vs 3, (.string ⟨(List.toArray (sizedL bs z))⟩)]) (by kernel_rfl) (by kernel_rfl) (Eq.trans (b := #[vs 3, vs 8]) (by kernel_rfl) (by rw [show vs 8 = (.string ⟨(List.toArray (sizedL bs z))⟩) from (hd 8 (.val (.string ⟨(List.toArray (sizedL bs z))⟩)) (by kernel_rfl) (by kernel_rfl))])) (by kernel_rfl) (by kernel_rfl) (by kernel_rfl) (HT1.out w1 (vs 3) (hd 3 (.low w.heap.size M1) (by kernel_rfl) (by kernel_rfl)).1 he))) ?_
        refine req_cons (.low w.heap.size M2) (by kernel_rfl) (fun vs w1 he hd => StepG.plain (by kernel_rfl) (gives_assign (x := .tmp 84) (v := vs 9) (by kernel_rfl) (by kernel_rfl) ⟨Ex.refl _, (hd 9 (.low w.heap.size M2) (by kernel_rfl) (by kernel_rfl))⟩)) req_nil
      · intro vs w5 he hF
        have hlow : BSl w5 (vs 10) M2 ∧ ∀ k, (vs 10).ownBlock = some k → w.heap.size ≤ k := told_at hF 10 (.low w.heap.size M2) (by decide) (by kernel_rfl)
        obtain ⟨a5, c5, e5⟩ := hlow.1.len
        have HB5 := hidden hlow
        have HE5 := hidden (HBL.out.trans (he.mono HBL.out.size))
        simp only [List.length_cons, List.length_nil, Nat.zero_add, Nat.reduceAdd, actsTo, if_true, dstOf, List.getElem?_toArray, List.getElem?_cons_succ, List.getElem?_cons_zero, Option.bind_some, Act.put, List.setIfInBounds_toArray, List.set_cons_zero, List.set_cons_succ]
        rw [e5] at HB5 ⊢
        clear hF hlow he
        have HP : Hid (PayP w (.slice ba bs.length bc) bs (fun _ => True) (.returned (.slice a5 M2.length c5)) w5) := hidden ⟨_, _, rfl, HB5.out.1, HLEN.out, trivial, fun k e => .inl (HB5.out.2 k e), HE5.out⟩
        generalize M2.length = m2l at *
        go_wp2_with fail
        go_ret
        exact HP.out
  · have t5 : (m.tmod 5 == 1) = false := by simp [e5]
    by_cases e50 : m.tmod 50 = 2
    · have t50 : (m.tmod 50 == 2) = true := by simp [e50]
      go_enter Try.func20, Try.ntmps20
      go_wp2_with fail
      refine (HH.out _).mono ?_
      rintro e w0 ⟨rfl, rfl⟩
      clear HH
      generalize w.alloc (.cells #[.int .i64 k, .int .i64 ch, .int .i64 n, .int .i64 m, .string s, .slice ba bs.length bc] 49) = w0 at *
      obtain ⟨k0, k1, k2, k3, k4, k5, kf⟩ := cells6 HP0.out.box
      have HBL := hidden HP0.out.below
      go_wp2_with fail
      refine (within_c n 3000 (by omega) w0).mono ?_
      rintro e w0 ⟨zz, rfl, hzz, rfl⟩
      have HP1 := HP0
      have K5 := hidden k5
      go_upto_region 22 with fail
      obtain ⟨z, hz⟩ : ∃ z : Nat, z = 32769 := ⟨_, rfl⟩
      have hz3 : z ≤ 32769 := by omega
      rw [show (Value.int .i64 32769) = .int .i64 (z : Int) by rw [hz]; rfl]
      clear hz
      clear HP1 k0 k1 k2 k3 k4 k5 kf
      obtain ⟨M1, hM1⟩ : ∃ L : List UInt8, L = [94] ++ numsL [u32n ch] := ⟨_, rfl⟩
      obtain ⟨M2, hM2⟩ : ∃ L : List UInt8, L = M1 ++ textBytes (sizedL bs z) := ⟨_, rfl⟩
      have hm1 : M1.length = 5 := by rw [hM1, List.length_append, numsL_len]; rfl
      have HLEN : Hid (M2.length ≤ 40000) := hidden (by rw [hM2, List.length_append]; simp only [textBytes, List.length_append, be_length, sizedL_length]; omega)
      have HU1 : Hid (∀ w1 v u, BSl w1 v [94] → NSl w1 u [u32n ch] → Ex w0 w1 → Calls Try.prog 9 #[v, u] w1 fun e w' => ∃ u, e = .returned u ∧ Ex w1 w' ∧ (Fact.low w.heap.size M1).holds u w') := hidden fun w1 v u h1 h2 h3 => told_low (Nat.le_trans HP0.out.below.size h3.size) (by rw [hM1]; exact lu32_c v u [94] _ w1 h1 h2 (by intro j hj; match j, hj with | 0, _ => exact u32n_lt _) (by simp) (by simp) (by simp))
      have HS1 : Hid (∀ w1, Ex w0 w1 → Calls Try.prog 21 #[.slice ba bs.length bc, .int .i64 (z : Int)] w1 fun e w' => ∃ u, e = .returned u ∧ Ex w1 w' ∧ (Fact.bsl (sizedL bs z)).holds u w') := hidden fun w1 h1 => (sized_b z (by omega) _ bs w1 (HP0.out.inp.fresh h1)).mono fun e w' ⟨g1, g2, g3⟩ => ⟨_, g1, g3, g2⟩
      have HT1 : Hid (∀ w1 v, BSl w1 v M1 → Ex w0 w1 → Calls Try.prog 10 #[v, .string ⟨(List.toArray (sizedL bs z))⟩] w1 fun e w' => ∃ u, e = .returned u ∧ Ex w1 w' ∧ (Fact.low w.heap.size M2).holds u w') := hidden fun w1 v h1 h2 => told_low (Nat.le_trans HP0.out.below.size h2.size) (by rw [hM2]; exact rtext_c _ (by rw [size_list, sizedL_length]; omega) v M1 w1 h1 (by rw [size_list, sizedL_length]; omega))
      clear hM1 hM2
      refine region_free [(.bsl [94]), (.val (.int .u32 (ch % 4294967296))), (.nsl [u32n ch]), (.low w.heap.size M1), (.val (.pointer (some ⟨w.heap.size, 5, none⟩))), (.val (.slice ba bs.length bc)), (.val (.int .i64 (z : Int))), (.bsl (sizedL bs z)), (.val (.string ⟨(List.toArray (sizedL bs z))⟩)), (.low w.heap.size M2), (.low w.heap.size M2)] (by kernel_rfl) ?_ ?_
      · refine req_cons (.bsl [94]) (by kernel_rfl) (fun vs w1 he hd => StepG.plain (by kernel_rfl) (gives_lit1B 94 94 rfl (by kernel_rfl) (by kernel_rfl))) ?_
        refine req_cons (.val (.int .u32 (ch % 4294967296))) (by kernel_rfl) (fun vs w1 he hd => StepG.plain (by kernel_rfl) (gives_move (x := .tmp 3) (by kernel_rfl) (by kernel_rfl) ⟨Ex.refl _, rfl⟩)) ?_
        refine req_cons (.nsl [u32n ch]) (by kernel_rfl) (fun vs w1 he hd => StepG.plain (by kernel_rfl) (gives_nums1 (x := .tmp 76) (u32n ch) (by kernel_rfl) (Eq.trans (Eq.trans (b := vs 1) (by kernel_rfl) (hd 1 (.val (.int .u32 (ch % 4294967296))) (by kernel_rfl) (by kernel_rfl))) (by rw [u32n_cast])))) ?_
        refine req_cons (.low w.heap.size M1) (by kernel_rfl) (fun vs w1 he hd => StepG.plain (by kernel_rfl) (gives_call (fn := Try.f9) (f := 9) (xs := #[.tmp 75, .tmp 77]) (ts := #[30, 68]) (vs := #[vs 0, vs 2]) (by kernel_rfl) (by kernel_rfl) (Eq.trans (b := #[vs 0, vs 2]) (by kernel_rfl) (rfl)) (by kernel_rfl) (by kernel_rfl) (by kernel_rfl) (HU1.out w1 (vs 0) (vs 2) (hd 0 (.bsl [94]) (by kernel_rfl) (by kernel_rfl)) (hd 2 (.nsl [u32n ch]) (by kernel_rfl) (by kernel_rfl)) he))) ?_
        refine req_cons (.val (.pointer (some ⟨w.heap.size, 5, none⟩))) (by kernel_rfl) (fun vs w1 he hd => StepG.plain (by kernel_rfl) (gives_ask (x := .tmp 1) 5 (by decide) (by kernel_rfl) (by kernel_rfl) ⟨Ex.refl _, rfl⟩)) ?_
        refine req_cons (.val (.slice ba bs.length bc)) (by kernel_rfl) (fun vs w1 he hd => StepG.plain (by kernel_rfl) (gives_ldb (x := .tmp 79) (by kernel_rfl) (Eq.trans (b := vs 4) (by kernel_rfl) (hd 4 (.val (.pointer (some ⟨w.heap.size, 5, none⟩))) (by kernel_rfl) (by kernel_rfl))) (cell_ex K5.out he) ⟨Ex.refl _, rfl⟩)) ?_
        refine req_cons (.val (.int .i64 (z : Int))) (by kernel_rfl) (fun vs w1 he hd => StepG.plain (by kernel_rfl) (gives_move (x := .tmp 7) (by kernel_rfl) (by kernel_rfl) ⟨Ex.refl _, rfl⟩)) ?_
        refine req_cons (.bsl (sizedL bs z)) (by kernel_rfl) (fun vs w1 he hd => StepG.plain (by kernel_rfl) (gives_call (fn := Try.f21) (f := 21) (xs := #[.tmp 80, .tmp 81]) (ts := #[30, 3]) (vs := #[(.slice ba bs.length bc), (.int .i64 (z : Int))]) (by kernel_rfl) (by kernel_rfl) (Eq.trans (b := #[vs 5, vs 6]) (by kernel_rfl) (by rw [show vs 5 = (.slice ba bs.length bc) from (hd 5 (.val (.slice ba bs.length bc)) (by kernel_rfl) (by kernel_rfl)), show vs 6 = (.int .i64 (z : Int)) from (hd 6 (.val (.int .i64 (z : Int))) (by kernel_rfl) (by kernel_rfl))])) (by kernel_rfl) (by kernel_rfl) (by kernel_rfl) (HS1.out w1 he))) ?_
        refine req_cons (.val (.string ⟨(List.toArray (sizedL bs z))⟩)) (by kernel_rfl) (fun vs w1 he hd => StepG.plain (by kernel_rfl) (gives_str (x := .tmp 82) (v := vs 7) (xs := sizedL bs z) (by kernel_rfl) (by kernel_rfl) (hd 7 (.bsl (sizedL bs z)) (by kernel_rfl) (by kernel_rfl)) ⟨Ex.refl _, rfl⟩)) ?_
        refine req_cons (.low w.heap.size M2) (by kernel_rfl) (fun vs w1 he hd => StepG.plain (by kernel_rfl) (gives_call (fn := Try.f10) (f := 10) (xs := #[.tmp 78, .tmp 83]) (ts := #[30, 9]) (vs := #[vs 3, (.string ⟨(List.toArray (sizedL bs z))⟩)]) (by kernel_rfl) (by kernel_rfl) (Eq.trans (b := #[vs 3, vs 8]) (by kernel_rfl) (by rw [show vs 8 = (.string ⟨(List.toArray (sizedL bs z))⟩) from (hd 8 (.val (.string ⟨(List.toArray (sizedL bs z))⟩)) (by kernel_rfl) (by kernel_rfl))])) (by kernel_rfl) (by kernel_rfl) (by kernel_rfl) (HT1.out w1 (vs 3) (hd 3 (.low w.heap.size M1) (by kernel_rfl) (by kernel_rfl)).1 he))) ?_
        refine req_cons (.low w.heap.size M2) (by kernel_rfl) (fun vs w1 he hd => StepG.plain (by kernel_rfl) (gives_assign (x := .tmp 84) (v := vs 9) (by kernel_rfl) (by kernel_rfl) ⟨Ex.refl _, (hd 9 (.low w.heap.size M2) (by kernel_rfl) (by kernel_rfl))⟩)) req_nil
      · intro vs w5 he hF
        have hlow : BSl w5 (vs 10) M2 ∧ ∀ k, (vs 10).ownBlock = some k → w.heap.size ≤ k := told_at hF 10 (.low w.heap.size M2) (by decide) (by kernel_rfl)
        obtain ⟨a5, c5, e5⟩ := hlow.1.len
        have HB5 := hidden hlow
        have HE5 := hidden (HBL.out.trans (he.mono HBL.out.size))
        simp only [List.length_cons, List.length_nil, Nat.zero_add, Nat.reduceAdd, actsTo, if_true, dstOf, List.getElem?_toArray, List.getElem?_cons_succ, List.getElem?_cons_zero, Option.bind_some, Act.put, List.setIfInBounds_toArray, List.set_cons_zero, List.set_cons_succ]
        rw [e5] at HB5 ⊢
        clear hF hlow he
        have HP : Hid (PayP w (.slice ba bs.length bc) bs (fun _ => True) (.returned (.slice a5 M2.length c5)) w5) := hidden ⟨_, _, rfl, HB5.out.1, HLEN.out, trivial, fun k e => .inl (HB5.out.2 k e), HE5.out⟩
        generalize M2.length = m2l at *
        go_wp2_with fail
        go_ret
        exact HP.out
    · have t50 : (m.tmod 50 == 2) = false := by simp [e50]
      go_enter Try.func20, Try.ntmps20
      go_wp2_with fail
      refine (HH.out _).mono ?_
      rintro e w0 ⟨rfl, rfl⟩
      clear HH
      generalize w.alloc (.cells #[.int .i64 k, .int .i64 ch, .int .i64 n, .int .i64 m, .string s, .slice ba bs.length bc] 49) = w0 at *
      obtain ⟨k0, k1, k2, k3, k4, k5, kf⟩ := cells6 HP0.out.box
      have HBL := hidden HP0.out.below
      go_wp2_with fail
      refine (within_c n 3000 (by omega) w0).mono ?_
      rintro e w0 ⟨zz, rfl, hzz, rfl⟩
      have HP1 := HP0
      have K5 := hidden k5
      go_upto_region 22 with fail
      obtain ⟨z, hz⟩ : ∃ z : Nat, z = zz := ⟨_, rfl⟩
      have hz3 : z ≤ 32769 := by omega
      rw [← hz]
      clear hz
      clear HP1 k0 k1 k2 k3 k4 k5 kf
      obtain ⟨M1, hM1⟩ : ∃ L : List UInt8, L = [94] ++ numsL [u32n ch] := ⟨_, rfl⟩
      obtain ⟨M2, hM2⟩ : ∃ L : List UInt8, L = M1 ++ textBytes (sizedL bs z) := ⟨_, rfl⟩
      have hm1 : M1.length = 5 := by rw [hM1, List.length_append, numsL_len]; rfl
      have HLEN : Hid (M2.length ≤ 40000) := hidden (by rw [hM2, List.length_append]; simp only [textBytes, List.length_append, be_length, sizedL_length]; omega)
      have HU1 : Hid (∀ w1 v u, BSl w1 v [94] → NSl w1 u [u32n ch] → Ex w0 w1 → Calls Try.prog 9 #[v, u] w1 fun e w' => ∃ u, e = .returned u ∧ Ex w1 w' ∧ (Fact.low w.heap.size M1).holds u w') := hidden fun w1 v u h1 h2 h3 => told_low (Nat.le_trans HP0.out.below.size h3.size) (by rw [hM1]; exact lu32_c v u [94] _ w1 h1 h2 (by intro j hj; match j, hj with | 0, _ => exact u32n_lt _) (by simp) (by simp) (by simp))
      have HS1 : Hid (∀ w1, Ex w0 w1 → Calls Try.prog 21 #[.slice ba bs.length bc, .int .i64 (z : Int)] w1 fun e w' => ∃ u, e = .returned u ∧ Ex w1 w' ∧ (Fact.bsl (sizedL bs z)).holds u w') := hidden fun w1 h1 => (sized_b z (by omega) _ bs w1 (HP0.out.inp.fresh h1)).mono fun e w' ⟨g1, g2, g3⟩ => ⟨_, g1, g3, g2⟩
      have HT1 : Hid (∀ w1 v, BSl w1 v M1 → Ex w0 w1 → Calls Try.prog 10 #[v, .string ⟨(List.toArray (sizedL bs z))⟩] w1 fun e w' => ∃ u, e = .returned u ∧ Ex w1 w' ∧ (Fact.low w.heap.size M2).holds u w') := hidden fun w1 v h1 h2 => told_low (Nat.le_trans HP0.out.below.size h2.size) (by rw [hM2]; exact rtext_c _ (by rw [size_list, sizedL_length]; omega) v M1 w1 h1 (by rw [size_list, sizedL_length]; omega))
      clear hM1 hM2
      refine region_free [(.bsl [94]), (.val (.int .u32 (ch % 4294967296))), (.nsl [u32n ch]), (.low w.heap.size M1), (.val (.pointer (some ⟨w.heap.size, 5, none⟩))), (.val (.slice ba bs.length bc)), (.val (.int .i64 (z : Int))), (.bsl (sizedL bs z)), (.val (.string ⟨(List.toArray (sizedL bs z))⟩)), (.low w.heap.size M2), (.low w.heap.size M2)] (by kernel_rfl) ?_ ?_
      · refine req_cons (.bsl [94]) (by kernel_rfl) (fun vs w1 he hd => StepG.plain (by kernel_rfl) (gives_lit1B 94 94 rfl (by kernel_rfl) (by kernel_rfl))) ?_
        refine req_cons (.val (.int .u32 (ch % 4294967296))) (by kernel_rfl) (fun vs w1 he hd => StepG.plain (by kernel_rfl) (gives_move (x := .tmp 3) (by kernel_rfl) (by kernel_rfl) ⟨Ex.refl _, rfl⟩)) ?_
        refine req_cons (.nsl [u32n ch]) (by kernel_rfl) (fun vs w1 he hd => StepG.plain (by kernel_rfl) (gives_nums1 (x := .tmp 76) (u32n ch) (by kernel_rfl) (Eq.trans (Eq.trans (b := vs 1) (by kernel_rfl) (hd 1 (.val (.int .u32 (ch % 4294967296))) (by kernel_rfl) (by kernel_rfl))) (by rw [u32n_cast])))) ?_
        refine req_cons (.low w.heap.size M1) (by kernel_rfl) (fun vs w1 he hd => StepG.plain (by kernel_rfl) (gives_call (fn := Try.f9) (f := 9) (xs := #[.tmp 75, .tmp 77]) (ts := #[30, 68]) (vs := #[vs 0, vs 2]) (by kernel_rfl) (by kernel_rfl) (Eq.trans (b := #[vs 0, vs 2]) (by kernel_rfl) (rfl)) (by kernel_rfl) (by kernel_rfl) (by kernel_rfl) (HU1.out w1 (vs 0) (vs 2) (hd 0 (.bsl [94]) (by kernel_rfl) (by kernel_rfl)) (hd 2 (.nsl [u32n ch]) (by kernel_rfl) (by kernel_rfl)) he))) ?_
        refine req_cons (.val (.pointer (some ⟨w.heap.size, 5, none⟩))) (by kernel_rfl) (fun vs w1 he hd => StepG.plain (by kernel_rfl) (gives_ask (x := .tmp 1) 5 (by decide) (by kernel_rfl) (by kernel_rfl) ⟨Ex.refl _, rfl⟩)) ?_
        refine req_cons (.val (.slice ba bs.length bc)) (by kernel_rfl) (fun vs w1 he hd => StepG.plain (by kernel_rfl) (gives_ldb (x := .tmp 79) (by kernel_rfl) (Eq.trans (b := vs 4) (by kernel_rfl) (hd 4 (.val (.pointer (some ⟨w.heap.size, 5, none⟩))) (by kernel_rfl) (by kernel_rfl))) (cell_ex K5.out he) ⟨Ex.refl _, rfl⟩)) ?_
        refine req_cons (.val (.int .i64 (z : Int))) (by kernel_rfl) (fun vs w1 he hd => StepG.plain (by kernel_rfl) (gives_move (x := .tmp 7) (by kernel_rfl) (by kernel_rfl) ⟨Ex.refl _, rfl⟩)) ?_
        refine req_cons (.bsl (sizedL bs z)) (by kernel_rfl) (fun vs w1 he hd => StepG.plain (by kernel_rfl) (gives_call (fn := Try.f21) (f := 21) (xs := #[.tmp 80, .tmp 81]) (ts := #[30, 3]) (vs := #[(.slice ba bs.length bc), (.int .i64 (z : Int))]) (by kernel_rfl) (by kernel_rfl) (Eq.trans (b := #[vs 5, vs 6]) (by kernel_rfl) (by rw [show vs 5 = (.slice ba bs.length bc) from (hd 5 (.val (.slice ba bs.length bc)) (by kernel_rfl) (by kernel_rfl)), show vs 6 = (.int .i64 (z : Int)) from (hd 6 (.val (.int .i64 (z : Int))) (by kernel_rfl) (by kernel_rfl))])) (by kernel_rfl) (by kernel_rfl) (by kernel_rfl) (HS1.out w1 he))) ?_
        refine req_cons (.val (.string ⟨(List.toArray (sizedL bs z))⟩)) (by kernel_rfl) (fun vs w1 he hd => StepG.plain (by kernel_rfl) (gives_str (x := .tmp 82) (v := vs 7) (xs := sizedL bs z) (by kernel_rfl) (by kernel_rfl) (hd 7 (.bsl (sizedL bs z)) (by kernel_rfl) (by kernel_rfl)) ⟨Ex.refl _, rfl⟩)) ?_
        refine req_cons (.low w.heap.size M2) (by kernel_rfl) (fun vs w1 he hd => StepG.plain (by kernel_rfl) (gives_call (fn := Try.f10) (f := 10) (xs := #[.tmp 78, .tmp 83]) (ts := #[30, 9]) (vs := #[vs 3, (.string ⟨(List.toArray (sizedL bs z))⟩)]) (by kernel_rfl) (by kernel_rfl) (Eq.trans (b := #[vs 3, vs 8]) (by kernel_rfl) (by rw [show vs 8 = (.string ⟨(List.toArray (sizedL bs z))⟩) from (hd 8 (.val (.string ⟨(List.toArray (sizedL bs z))⟩)) (by kernel_rfl) (by kernel_rfl))])) (by kernel_rfl) (by kernel_rfl) (by kernel_rfl) (HT1.out w1 (vs 3) (hd 3 (.low w.heap.size M1) (by kernel_rfl) (by kernel_rfl)).1 he))) ?_
        refine req_cons (.low w.heap.size M2) (by kernel_rfl) (fun vs w1 he hd => StepG.plain (by kernel_rfl) (gives_assign (x := .tmp 84) (v := vs 9) (by kernel_rfl) (by kernel_rfl) ⟨Ex.refl _, (hd 9 (.low w.heap.size M2) (by kernel_rfl) (by kernel_rfl))⟩)) req_nil
      · intro vs w5 he hF
        have hlow : BSl w5 (vs 10) M2 ∧ ∀ k, (vs 10).ownBlock = some k → w.heap.size ≤ k := told_at hF 10 (.low w.heap.size M2) (by decide) (by kernel_rfl)
        obtain ⟨a5, c5, e5⟩ := hlow.1.len
        have HB5 := hidden hlow
        have HE5 := hidden (HBL.out.trans (he.mono HBL.out.size))
        simp only [List.length_cons, List.length_nil, Nat.zero_add, Nat.reduceAdd, actsTo, if_true, dstOf, List.getElem?_toArray, List.getElem?_cons_succ, List.getElem?_cons_zero, Option.bind_some, Act.put, List.setIfInBounds_toArray, List.set_cons_zero, List.set_cons_succ]
        rw [e5] at HB5 ⊢
        clear hF hlow he
        have HP : Hid (PayP w (.slice ba bs.length bc) bs (fun _ => True) (.returned (.slice a5 M2.length c5)) w5) := hidden ⟨_, _, rfl, HB5.out.1, HLEN.out, trivial, fun k e => .inl (HB5.out.2 k e), HE5.out⟩
        generalize M2.length = m2l at *
        go_wp2_with fail
        go_ret
        exact HP.out

set_option maxHeartbeats 1600000 in
set_option maxRecDepth 100000 in
theorem pay4 (k ch n m : Int) (s : ByteArray) (b : Value) (bs : List UInt8) (w : World) (hb : BSl w b bs) (hk : k = 4) (Q : List UInt8 → Prop) (hq : Q ([93] ++ numsL [u32n ch, u32n n])) :
    Calls Try.prog 20 #[AskV k ch n m s b] w fun e w' => PayP w b bs Q e w' := by
  have HP0 := hidden (PB.make w k ch n m s b bs hb)
  have HH : Hid (∀ w1, Calls Try.prog 35 #[.string s, .int .i64 70] w1 fun e w' => e = .returned (.string (s.extract 0 70)) ∧ w' = w1) := hidden (head_c s 70 (by omega))
  have hs7 := ex70 s
  obtain ⟨ba, bc, rfl⟩ := hb.len
  unfold AskV
  clear hb
  generalize s.extract 0 70 = s1 at *
  have t1 : (k == 1) = false := by simp; omega
  have t2 : (k == 2) = false := by simp; omega
  have t3 : (k == 3) = false := by simp; omega
  have t4 : (k == 4) = true := by simp; omega
  clear hk
  obtain ⟨L2, hL2⟩ : ∃ L : List UInt8, L = [93] ++ numsL [u32n ch, u32n n] := ⟨_, rfl⟩
  have HLEN : Hid (L2.length ≤ 40000) := hidden (by rw [hL2, List.length_append, numsL_len]; simp)
  have HQ : Hid (Q L2) := hidden (by rw [hL2]; exact hq)
  have HL2 := hidden hL2
  clear hL2
  go_enter Try.func20, Try.ntmps20
  go_wp2_with fail
  refine (HH.out _).mono ?_
  rintro e w1 ⟨rfl, rfl⟩
  clear HH
  generalize w.alloc (.cells #[.int .i64 k, .int .i64 ch, .int .i64 n, .int .i64 m, .string s, .slice ba bs.length bc] 49) = w0 at *
  obtain ⟨k0, k1, k2, k3, k4, k5, kf⟩ := cells6 HP0.out.box
  have HBL := hidden HP0.out.below
  have H1 := hidden (bsl_lit w0 [93] (by simp))
  have H2 := hidden (nsl_lit (w0.alloc (.cells (bcells [93]).toArray 5)) [u32n ch, u32n n])
  have hsz : (w0.alloc (.cells (bcells [93]).toArray 5)).heap.size = w0.heap.size + 1 := by simp
  rw [hsz] at H2
  have HB2 := hidden ((HBL.out.alloc HBL.out.size (.cells (bcells [93]).toArray 5)).alloc (by have := HBL.out.size; simp; omega) (.cells ([u32n ch, u32n n].map fun n : Nat => Value.int .u32 (n : Int)).toArray 33))
  have cu := u32n_cast ch
  have k2a : (w0.alloc (.cells #[.int .u8 93] 5)).cell? ⟨w.heap.size, 2, none⟩ = some (.int .i64 n) := ((Keeps.refl (fun _ => False) w0).alloc _).cell k2 (fun h => h)
  have cn := u32n_cast n
  have HU1 := hidden (lu32_c _ _ [93] [u32n ch, u32n n] _ (H1.out.alloc (.cells ([u32n ch, u32n n].map fun n : Nat => Value.int .u32 (n : Int)).toArray 33)) H2.out (by intro j hj; match j, hj with | 0, _ => exact u32n_lt _ | 1, _ => exact u32n_lt _) (by simp) (by simp) (by simp))
  rw [← HL2.out] at HU1
  clear hsz
  go_wp2_with fail
  rw [← cu, ← cn]
  refine HU1.out.mono ?_
  rintro e w5 ⟨v5, rfl, ho5, hb5⟩
  have HP : Hid (PayP w (.slice ba bs.length bc) bs Q (.returned v5) w5) := hidden ⟨_, _, rfl, BSl.ofRow ho5, HLEN.out, HQ.out, fun k e => .inl (Nat.le_trans HB2.out.size (ho5.lt k e).1), HB2.out.trans (hb5.mono HB2.out.size)⟩
  clear ho5 hb5
  go_wp2_with fail
  go_ret
  exact HP.out

set_option maxHeartbeats 1600000 in
set_option maxRecDepth 100000 in
theorem pay5 (k ch n m : Int) (s : ByteArray) (b : Value) (bs : List UInt8) (w : World) (hb : BSl w b bs) (hk : k = 5) (Q : List UInt8 → Prop) (hq : Q ([96] ++ numsL [u32n ch])) :
    Calls Try.prog 20 #[AskV k ch n m s b] w fun e w' => PayP w b bs Q e w' := by
  have HP0 := hidden (PB.make w k ch n m s b bs hb)
  have HH : Hid (∀ w1, Calls Try.prog 35 #[.string s, .int .i64 70] w1 fun e w' => e = .returned (.string (s.extract 0 70)) ∧ w' = w1) := hidden (head_c s 70 (by omega))
  have hs7 := ex70 s
  obtain ⟨ba, bc, rfl⟩ := hb.len
  unfold AskV
  clear hb
  generalize s.extract 0 70 = s1 at *
  have t1 : (k == 1) = false := by simp; omega
  have t2 : (k == 2) = false := by simp; omega
  have t3 : (k == 3) = false := by simp; omega
  have t4 : (k == 4) = false := by simp; omega
  have t5 : (k == 5) = true := by simp; omega
  clear hk
  obtain ⟨L2, hL2⟩ : ∃ L : List UInt8, L = [96] ++ numsL [u32n ch] := ⟨_, rfl⟩
  have HLEN : Hid (L2.length ≤ 40000) := hidden (by rw [hL2, List.length_append, numsL_len]; simp)
  have HQ : Hid (Q L2) := hidden (by rw [hL2]; exact hq)
  have HL2 := hidden hL2
  clear hL2
  go_enter Try.func20, Try.ntmps20
  go_wp2_with fail
  refine (HH.out _).mono ?_
  rintro e w1 ⟨rfl, rfl⟩
  clear HH
  generalize w.alloc (.cells #[.int .i64 k, .int .i64 ch, .int .i64 n, .int .i64 m, .string s, .slice ba bs.length bc] 49) = w0 at *
  obtain ⟨k0, k1, k2, k3, k4, k5, kf⟩ := cells6 HP0.out.box
  have HBL := hidden HP0.out.below
  have H1 := hidden (bsl_lit w0 [96] (by simp))
  have H2 := hidden (nsl_lit (w0.alloc (.cells (bcells [96]).toArray 5)) [u32n ch])
  have hsz : (w0.alloc (.cells (bcells [96]).toArray 5)).heap.size = w0.heap.size + 1 := by simp
  rw [hsz] at H2
  have HB2 := hidden ((HBL.out.alloc HBL.out.size (.cells (bcells [96]).toArray 5)).alloc (by have := HBL.out.size; simp; omega) (.cells ([u32n ch].map fun n : Nat => Value.int .u32 (n : Int)).toArray 33))
  have cu := u32n_cast ch
  have k2a : (w0.alloc (.cells #[.int .u8 96] 5)).cell? ⟨w.heap.size, 2, none⟩ = some (.int .i64 n) := ((Keeps.refl (fun _ => False) w0).alloc _).cell k2 (fun h => h)
  have cn := u32n_cast n
  have HU1 := hidden (lu32_c _ _ [96] [u32n ch] _ (H1.out.alloc (.cells ([u32n ch].map fun n : Nat => Value.int .u32 (n : Int)).toArray 33)) H2.out (by intro j hj; match j, hj with | 0, _ => exact u32n_lt _) (by simp) (by simp) (by simp))
  rw [← HL2.out] at HU1
  clear hsz
  go_wp2_with fail
  rw [← cu]
  refine HU1.out.mono ?_
  rintro e w5 ⟨v5, rfl, ho5, hb5⟩
  have HP : Hid (PayP w (.slice ba bs.length bc) bs Q (.returned v5) w5) := hidden ⟨_, _, rfl, BSl.ofRow ho5, HLEN.out, HQ.out, fun k e => .inl (Nat.le_trans HB2.out.size (ho5.lt k e).1), HB2.out.trans (hb5.mono HB2.out.size)⟩
  clear ho5 hb5
  go_wp2_with fail
  go_ret
  exact HP.out

set_option maxHeartbeats 1600000 in
set_option maxRecDepth 100000 in
theorem pay6 (k ch n m : Int) (s : ByteArray) (b : Value) (bs : List UInt8) (w : World) (hb : BSl w b bs) (hk : k = 6) (Q : List UInt8 → Prop) (hq : Q ([97] ++ numsL [u32n ch])) :
    Calls Try.prog 20 #[AskV k ch n m s b] w fun e w' => PayP w b bs Q e w' := by
  have HP0 := hidden (PB.make w k ch n m s b bs hb)
  have HH : Hid (∀ w1, Calls Try.prog 35 #[.string s, .int .i64 70] w1 fun e w' => e = .returned (.string (s.extract 0 70)) ∧ w' = w1) := hidden (head_c s 70 (by omega))
  have hs7 := ex70 s
  obtain ⟨ba, bc, rfl⟩ := hb.len
  unfold AskV
  clear hb
  generalize s.extract 0 70 = s1 at *
  have t1 : (k == 1) = false := by simp; omega
  have t2 : (k == 2) = false := by simp; omega
  have t3 : (k == 3) = false := by simp; omega
  have t4 : (k == 4) = false := by simp; omega
  have t5 : (k == 5) = false := by simp; omega
  have t6 : (k == 6) = true := by simp; omega
  clear hk
  obtain ⟨L2, hL2⟩ : ∃ L : List UInt8, L = [97] ++ numsL [u32n ch] := ⟨_, rfl⟩
  have HLEN : Hid (L2.length ≤ 40000) := hidden (by rw [hL2, List.length_append, numsL_len]; simp)
  have HQ : Hid (Q L2) := hidden (by rw [hL2]; exact hq)
  have HL2 := hidden hL2
  clear hL2
  go_enter Try.func20, Try.ntmps20
  go_wp2_with fail
  refine (HH.out _).mono ?_
  rintro e w1 ⟨rfl, rfl⟩
  clear HH
  generalize w.alloc (.cells #[.int .i64 k, .int .i64 ch, .int .i64 n, .int .i64 m, .string s, .slice ba bs.length bc] 49) = w0 at *
  obtain ⟨k0, k1, k2, k3, k4, k5, kf⟩ := cells6 HP0.out.box
  have HBL := hidden HP0.out.below
  have H1 := hidden (bsl_lit w0 [97] (by simp))
  have H2 := hidden (nsl_lit (w0.alloc (.cells (bcells [97]).toArray 5)) [u32n ch])
  have hsz : (w0.alloc (.cells (bcells [97]).toArray 5)).heap.size = w0.heap.size + 1 := by simp
  rw [hsz] at H2
  have HB2 := hidden ((HBL.out.alloc HBL.out.size (.cells (bcells [97]).toArray 5)).alloc (by have := HBL.out.size; simp; omega) (.cells ([u32n ch].map fun n : Nat => Value.int .u32 (n : Int)).toArray 33))
  have cu := u32n_cast ch
  have k2a : (w0.alloc (.cells #[.int .u8 97] 5)).cell? ⟨w.heap.size, 2, none⟩ = some (.int .i64 n) := ((Keeps.refl (fun _ => False) w0).alloc _).cell k2 (fun h => h)
  have cn := u32n_cast n
  have HU1 := hidden (lu32_c _ _ [97] [u32n ch] _ (H1.out.alloc (.cells ([u32n ch].map fun n : Nat => Value.int .u32 (n : Int)).toArray 33)) H2.out (by intro j hj; match j, hj with | 0, _ => exact u32n_lt _) (by simp) (by simp) (by simp))
  rw [← HL2.out] at HU1
  clear hsz
  go_wp2_with fail
  rw [← cu]
  refine HU1.out.mono ?_
  rintro e w5 ⟨v5, rfl, ho5, hb5⟩
  have HP : Hid (PayP w (.slice ba bs.length bc) bs Q (.returned v5) w5) := hidden ⟨_, _, rfl, BSl.ofRow ho5, HLEN.out, HQ.out, fun k e => .inl (Nat.le_trans HB2.out.size (ho5.lt k e).1), HB2.out.trans (hb5.mono HB2.out.size)⟩
  clear ho5 hb5
  go_wp2_with fail
  go_ret
  exact HP.out

set_option maxHeartbeats 1600000 in
set_option maxRecDepth 100000 in
theorem pay7 (k ch n m : Int) (s : ByteArray) (b : Value) (bs : List UInt8) (w : World) (hb : BSl w b bs) (hk : k = 7) :
    Calls Try.prog 20 #[AskV k ch n m s b] w fun e w' => PayP w b bs (fun _ => True) e w' := by
  have HP0 := hidden (PB.make w k ch n m s b bs hb)
  have HH : Hid (∀ w1, Calls Try.prog 35 #[.string s, .int .i64 70] w1 fun e w' => e = .returned (.string (s.extract 0 70)) ∧ w' = w1) := hidden (head_c s 70 (by omega))
  have hs7 := ex70 s
  obtain ⟨ba, bc, rfl⟩ := hb.len
  unfold AskV
  clear hb
  generalize s.extract 0 70 = s1 at *
  have t1 : (k == 1) = false := by simp; omega
  have t2 : (k == 2) = false := by simp; omega
  have t3 : (k == 3) = false := by simp; omega
  have t4 : (k == 4) = false := by simp; omega
  have t5 : (k == 5) = false := by simp; omega
  have t6 : (k == 6) = false := by simp; omega
  have t7 : (k == 7) = true := by simp; omega
  clear hk
  go_enter Try.func20, Try.ntmps20
  go_wp2_with fail
  refine (HH.out _).mono ?_
  rintro e w1 ⟨rfl, rfl⟩
  clear HH
  generalize w.alloc (.cells #[.int .i64 k, .int .i64 ch, .int .i64 n, .int .i64 m, .string s, .slice ba bs.length bc] 49) = w0 at *
  obtain ⟨k0, k1, k2, k3, k4, k5, kf⟩ := cells6 HP0.out.box
  have HBL := hidden HP0.out.below
  go_wp2_with fail
  go_ret
  refine ⟨_, [byteOf n], rfl, ?_, by simp, trivial, fun k e => .inl ?_, HBL.out.alloc HBL.out.size _⟩
  · have := bsl_lit w0 [byteOf n] (by simp)
    simpa [bcells, byteOf_nat] using this
  · simp [Value.ownBlock] at e
    have := HBL.out.size
    omega

set_option maxHeartbeats 1600000 in
set_option maxRecDepth 100000 in
theorem payElse (k ch n m : Int) (s : ByteArray) (b : Value) (bs : List UInt8) (w : World) (hb : BSl w b bs) (hk : ¬ (k = 1 ∨ k = 2 ∨ k = 3 ∨ k = 4 ∨ k = 5 ∨ k = 6 ∨ k = 7)) :
    Calls Try.prog 20 #[AskV k ch n m s b] w fun e w' => PayP w b bs (fun _ => True) e w' := by
  have HP0 := hidden (PB.make w k ch n m s b bs hb)
  have HH : Hid (∀ w1, Calls Try.prog 35 #[.string s, .int .i64 70] w1 fun e w' => e = .returned (.string (s.extract 0 70)) ∧ w' = w1) := hidden (head_c s 70 (by omega))
  have hs7 := ex70 s
  obtain ⟨ba, bc, rfl⟩ := hb.len
  unfold AskV
  clear hb
  generalize s.extract 0 70 = s1 at *
  have t1 : (k == 1) = false := by simp; omega
  have t2 : (k == 2) = false := by simp; omega
  have t3 : (k == 3) = false := by simp; omega
  have t4 : (k == 4) = false := by simp; omega
  have t5 : (k == 5) = false := by simp; omega
  have t6 : (k == 6) = false := by simp; omega
  have t7 : (k == 7) = false := by simp; omega
  clear hk
  go_enter Try.func20, Try.ntmps20
  go_wp2_with fail
  refine (HH.out _).mono ?_
  rintro e w1 ⟨rfl, rfl⟩
  clear HH
  generalize w.alloc (.cells #[.int .i64 k, .int .i64 ch, .int .i64 n, .int .i64 m, .string s, .slice ba bs.length bc] 49) = w0 at *
  obtain ⟨k0, k1, k2, k3, k4, k5, kf⟩ := cells6 HP0.out.box
  have HBL := hidden HP0.out.below
  go_wp2_with fail
  refine (cut_c 100 (by omega) _ bs _ HP0.out.inp).mono ?_
  rintro e w5 ⟨v5, rfl, hb5, ho5, rfl⟩
  have HP : Hid (PayP w (.slice ba bs.length bc) bs (fun _ => True) (.returned v5) w5) := hidden ⟨_, _, rfl, hb5, by rw [List.length_take]; omega, trivial, fun k e => .inr ⟨by rw [← ho5]; exact e, fun h1 h2 => h1 (by rw [h2]; rfl)⟩, HBL.out⟩
  clear hb5 ho5
  go_wp2_with fail
  go_ret
  exact HP.out
end Go.Proofs.Ytnimdbjbkoggdaa
