/- KexForm. -/
import Derived.Test.YtookapglookphaaDoorKxX
import Derived.Test.YtookapglookphaaDoorXfD
namespace Go.Proofs.YtookapglookphaaDoor
open Go Go.RowKit

theorem srv_len {k : List UInt8} (hk : k.length = 32) (p : List UInt8) (s0 s1 : ByteArray) (i1 i2 : List UInt8) {init : List UInt8} (hn : init.length ≠ 37) : srvO k p s0 s1 i1 i2 init = (12, [], [], []) := by
  rw [srvO, if_pos hk, if_neg]
  intro h
  exact hn (((wfB_iff 30 1 init).1 h).len)
theorem cli_len {k : List UInt8} (hk : k.length = 32) (p : List UInt8) (s0 s1 : ByteArray) (i1 i2 : List UInt8) {init : List UInt8} (hn : init.length ≠ 109) : cliO k p s0 s1 i1 i2 init = (12, [], []) := by
  rw [cliO, if_pos hk, if_neg]
  intro h
  exact hn (((wfB_iff 31 3 init).1 h).len)
theorem pair_of {x x' y y' : Value} (h : x = x') (k : y = y') : (#[x, y] : Array Value) = #[x', y'] := by rw [h, k]
theorem trip_eq {x x' z y y' : Value} (h : x = x') (k : y = y') : (#[x, z, y] : Array Value) = #[x', z, y'] := by rw [h, k]
theorem cells2' {w : World} {B : Nat} {x0 x1 : Value} {t : TypeId} (h : w.heap[B]? = some (.cells #[x0, x1] t (0, 0))) : w.cell? ⟨B, 0, none⟩ = some x0 ∧ w.cell? ⟨B, 1, none⟩ = some x1 := by
  constructor <;> simp [World.cell?, h]

set_option maxHeartbeats 6400000 in
set_option maxRecDepth 100000 in
theorem kexForm_c (v0 v1 v2 v4 : Value) (cut : Int) (k0 k1 p0 more : List UInt8) (hmore : more.length ≤ 140737488351232) (w : World) (hr : Rw w) (htp : Tp w) (h0 : BSl w v0 k0) (h1 : BSl w v1 k1) (h2 : BSl w v2 p0) (h4 : BSl w v4 more) :
    Calls Tryd.prog 4 #[v0, v1, v2, .int .i64 cut, v4] w fun e w' => e = .returned (.bool true) ∧ Below w.heap.size w w' := by
  have HR := hidden hr
  have HT := hidden htp
  have H0 := hidden h0
  have H1 := hidden h1
  have H2 := hidden h2
  have H4 := hidden h4
  have HMo := hidden hmore
  obtain ⟨am, cm, rfl⟩ := h4.len
  generalize hlm : more.length = lm at H4 ⊢
  have HLM := hidden hlm
  clear hr htp h0 h1 h2 h4 hmore hlm
  go_enter Tryd.func4, Tryd.ntmps4
  go_wp2_with fail
  refine (side_c true _ _ _ _ ⟨#[]⟩ ⟨#[]⟩ k0 p0 [] [] w H0.out H2.out (bsl_none _) (bsl_none _)).mono ?_
  rintro e w1 ⟨hb1, pr, pin, ic, is, rfl, hs1⟩
  have HKC : Hid ((privL true k0).length = 32) := privL_32 k0
  have HPL : Hid ((p0.take 80).length ≤ 80) := by show _ ≤ _; rw [List.length_take]; omega
  have HI1 : Hid ((([] : List UInt8).take 100).length ≤ 100) := by show _ ≤ _; simp
  have HZ0 := hidden (headS_le ⟨#[]⟩)
  have HSd : Hid (∀ wx, Below w.heap.size w wx → Calls Tryd.prog 15 #[v1, v2, .string ⟨#[]⟩, .string ⟨#[]⟩, .slice none 0 0, .slice none 0 0, .bool true] wx (SidePost wx true k1 p0 ⟨#[]⟩ ⟨#[]⟩ [] [])) := fun wx hb => side_c true _ _ _ _ ⟨#[]⟩ ⟨#[]⟩ k1 p0 [] [] wx (H1.out.fresh hb) (H2.out.fresh hb) (bsl_none _) (bsl_none _)
  unfold sideV
  obtain ⟨a0, a1, a4, a5, c0, c1, c4, c5, rfl, rfl, rfl, rfl⟩ := hs1.shape
  generalize hkc : privL true k0 = kc at hs1 HKC ⊢
  generalize hpe : p0.take 80 = p at hs1 HPL ⊢
  generalize hi1e : ([] : List UInt8).take 100 = i1 at hs1 HI1 ⊢
  generalize hs0e : headS ⟨#[]⟩ = t0 at HZ0 ⊢
  have HE := hidden (And.intro hpe (And.intro hi1e hs0e))
  generalize hl0 : kc.length = lc at hs1 HKC ⊢
  generalize hl1 : p.length = l1 at hs1 HPL ⊢
  generalize hl4 : i1.length = l4 at hs1 HI1 ⊢
  have HLL := hidden (And.intro hl1 (And.intro hl4 hl0))
  clear hpe hi1e hs0e hl1 hl4 hkc hl0
  have hb2 : Below w1.heap.size w1 (w1.alloc (.cells #[.slice a0 lc c0, .slice a1 l1 c1, .string t0, .string t0, .slice a4 l4 c4, .slice a5 l4 c5] 25)) := (Below.refl _ w1).alloc (Nat.le_refl _) _
  have HC2 : Hid (SB (w1.alloc (.cells #[.slice a0 lc c0, .slice a1 l1 c1, .string t0, .string t0, .slice a4 l4 c4, .slice a5 l4 c5] 25)) w1.heap.size a0 a1 a4 a5 lc l1 l4 l4 c0 c1 c4 c5 t0 t0 kc p i1 i1) := ⟨heap_alloc_new w1 _, hs1.fresh hb2⟩
  have HB2 := hidden (hb1.trans (hb2.mono hb1.size))
  clear hb1 hb2 hs1 H0 H1
  go_wp2_with fail
  generalize w1.alloc (.cells #[.slice a0 lc c0, .slice a1 l1 c1, .string t0, .string t0, .slice a4 l4 c4, .slice a5 l4 c5] 25) = w2 at HC2 HB2 ⊢
  generalize w1.heap.size = B1 at HC2 ⊢
  refine (HSd.out w2 HB2.out).mono ?_
  rintro e w3 ⟨hb3, pr, pin, ic, is, rfl, hs3⟩
  have HKS : Hid ((privL true k1).length = 32) := privL_32 k1
  rw [HE.out.1, HE.out.2.1] at hs3
  rw [HE.out.2.2]
  unfold sideV
  obtain ⟨b0, b1, b4, b5, d0, d1, d4, d5, rfl, rfl, rfl, rfl⟩ := hs3.shape
  rw [HLL.out.1, HLL.out.2.1] at hs3 ⊢
  generalize privL true k1 = ks at hs3 HKS ⊢
  generalize hlk : ks.length = lk at hs3 HKS ⊢
  have HLK := hidden hlk
  clear hlk
  have hb4 : Below w3.heap.size w3 (w3.alloc (.cells #[.slice b0 lk d0, .slice b1 l1 d1, .string t0, .string t0, .slice b4 l4 d4, .slice b5 l4 d5] 25)) := (Below.refl _ w3).alloc (Nat.le_refl _) _
  have hb34 := hb3.trans (hb4.mono hb3.size)
  have HC4 := hidden (HC2.out.next hb34)
  have HS4 : Hid (SB (w3.alloc (.cells #[.slice b0 lk d0, .slice b1 l1 d1, .string t0, .string t0, .slice b4 l4 d4, .slice b5 l4 d5] 25)) w3.heap.size b0 b1 b4 b5 lk l1 l4 l4 d0 d1 d4 d5 t0 t0 ks p i1 i1) := ⟨heap_alloc_new w3 _, hs3.fresh hb4⟩
  have HB4 := hidden (HB2.out.trans (hb34.mono HB2.out.size))
  have HKC' : Hid (kc.length = 32) := by show _ = _; rw [HLL.out.2.2]; exact HKC.out
  have HKS' : Hid (ks.length = 32) := by show _ = _; rw [HLK.out]; exact HKS.out
  have HW : Hid (p.length ≤ 1000 ∧ i1.length ≤ 1000 ∧ i1.length ≤ 1000 ∧ t0.size ≤ 1000 ∧ t0.size ≤ 1000) := by show _ ∧ _; have h1 := HPL.out; have h2 := HI1.out; have h4 := HZ0.out; have h5 := HLL.out; omega
  clear hb3 hb4 hb34 hs3 HC2 HSd H2 HE HB2 HKC HKS HPL HI1 HZ0
  go_upto_region 3 with fail
  generalize w3.alloc (.cells #[.slice b0 lk d0, .slice b1 l1 d1, .string t0, .string t0, .slice b4 l4 d4, .slice b5 l4 d5] 25) = w4 at HC4 HS4 HB4 ⊢
  generalize w3.heap.size = B2 at HS4 ⊢
  have q0 := (side_cells HC4.out.row).1
  go_wp2_with fail
  refine (Init_c _ kc w4 (HT.out.fresh HB4.out) HC4.out.s.pr).mono ?_
  rintro e w5 ⟨hb5, vi, rfl, hvi, _⟩
  rw [ini_ok HKC'.out] at hvi ⊢
  simp only at hvi ⊢
  have HI37 : Hid ((payL 30 (fun _ => baseL kc) 1).length = 37) := by show _ = _; have := baseL_length kc; simp [payL, joinTo, text_len, this]
  have HSO := hidden (fun h => @srv_ok kc ks HKS'.out p t0 t0 i1 i1 h)
  have HSN := hidden (fun h => @srv_none kc ks HKS'.out p t0 t0 i1 i1 h)
  generalize payL 30 (fun _ => baseL kc) 1 = I at hvi HI37 HSO HSN ⊢
  obtain ⟨ai, ci, rfl⟩ := hvi.len
  have HMsg := hidden hvi
  have HCap : Hid (37 ≤ ci) := by show _ ≤ _; have := hvi.capLe; have := HI37.out; omega
  rw [HI37.out]
  have HCx := hidden (HC4.out.next hb5)
  have HSx := hidden (HS4.out.next hb5)
  have HBx := hidden (HB4.out.trans (hb5.mono HB4.out.size))
  clear hvi hb5 HC4 HS4 HB4 q0
  go_upto_region 6 with fail
  refine region_rowsE [(.val (.agg #[.slice b0 lk d0, .slice b1 l1 d1, .string t0, .string t0, .slice b4 l4 d4, .slice b5 l4 d5])), (.val (.slice ai 37 ci)), (.val (.int .i64 cut)), (.upto 36), (.cutS ai ci 36), .srv0, .srv0, .sl0, .sec0, (.val (.int .i64 12)), (.place w5.heap.size 30 #[.slice none 0 0, .slice none 0 0]), .sl0, .any, (.val (.int .i64 12))] [100, 101, 102, 103, 104, 105, 106, 107, 108, 109, 9, 111, 9, 113] [none, none, none, none, none, none, none, none, none, none, some 12, none, none, none] 12 (EmptyE w5.heap.size 10) (by kernel_rfl) (by decide) ?_ ?_
  · skip
    refine rowsE_cons (.val (.agg #[.slice b0 lk d0, .slice b1 l1 d1, .string t0, .string t0, .slice b4 l4 d4, .slice b5 l4 d5])) (by kernel_rfl) _ rfl (by decide) (empty_ex _ 10) (empty_upd _ 10 _ _ (by kernel_rfl)) (fun vs w1 he hd => StepG.plain (by kernel_rfl) (gives_loadAgg (x := .tmp 12) (g := B2) (by kernel_rfl) (by kernel_rfl) (HSx.out.next he).row Tryd.underlying25 (by kernel_rfl) same_val)) ?_
    refine rowsE_cons (.val (.slice ai 37 ci)) (by kernel_rfl) _ rfl (by decide) (empty_ex _ 10) (empty_upd _ 10 _ _ (by kernel_rfl)) (fun vs w1 he hd => StepG.plain (by kernel_rfl) (gives_move (x := .tmp 13) (v := (.slice ai 37 ci)) (by kernel_rfl) (by kernel_rfl) same_val)) ?_
    refine rowsE_cons (.val (.int .i64 cut)) (by kernel_rfl) _ rfl (by decide) (empty_ex _ 10) (empty_upd _ 10 _ _ (by kernel_rfl)) (fun vs w1 he hd => StepG.plain (by kernel_rfl) (gives_move (x := .tmp 3) (v := (.int .i64 cut)) (by kernel_rfl) (by kernel_rfl) same_val)) ?_
    refine rowsE_cons (.upto 36) (by kernel_rfl) _ rfl (by decide) (empty_ex _ 10) (empty_upd _ 10 _ _ (by kernel_rfl)) (fun vs w1 he hd => StepG.plain (by kernel_rfl) (gives_call (fn := Tryd.f16) (f := 16) (xs := #[.tmp 50, .const (.int .i64 0), .const (.int .i64 36)]) (ts := #[3, 3, 3]) (vs := #[.int .i64 cut, .int .i64 0, .int .i64 36]) (by kernel_rfl) (by kernel_rfl) (Eq.trans (b := #[vs 2, .int .i64 0, .int .i64 36]) (by kernel_rfl) (congrArg (fun x => #[x, .int .i64 0, .int .i64 36]) (hd 2 (.val (.int .i64 cut)) (by kernel_rfl) (by kernel_rfl) (by kernel_rfl)))) (by kernel_rfl) (by kernel_rfl) (by kernel_rfl) (told_within cut 36 (by omega) w1))) ?_
    refine rowsE_cons (.cutS ai ci 36) (by kernel_rfl) _ rfl (by decide) (empty_ex _ 10) (empty_upd _ 10 _ _ (by kernel_rfl)) (fun vs w1 he hd => by
      obtain ⟨k, hk, ek⟩ := (hd 3 (.upto 36) (by kernel_rfl) (by kernel_rfl) (by kernel_rfl))
      have em := (hd 1 (.val (.slice ai 37 ci)) (by kernel_rfl) (by kernel_rfl) (by kernel_rfl))
      simp only [FactB.val] at em
      exact StepG.plain (by kernel_rfl) (gives_slice (x := .tmp 49) (lo := none) (hi := some (.tmp 51)) (mx := none) (v := .slice ai k ci) (by kernel_rfl) (by rw [show (actsTo _ _ _ vs _).eval (.tmp 49) = (.slice ai 37 ci) from Eq.trans (b := vs 1) (by kernel_rfl) em]; simp only [Option.map]; rw [show (actsTo _ _ _ vs _).eval (.tmp 51) = .int .i64 (k : Int) from Eq.trans (b := vs 3) (by kernel_rfl) ek]; exact run_front _ _ k _ (by have := HCap.out; omega) _) (same_pure ⟨k, hk, rfl⟩))) ?_
    refine rowsE_cons .srv0 (by kernel_rfl) _ rfl (by decide) (empty_ex _ 10) (empty_upd _ 10 _ _ (by kernel_rfl)) (fun vs w1 he hd => ?_) ?_
    · obtain ⟨k, hk, ek⟩ := (hd 4 (.cutS ai ci 36) (by kernel_rfl) (by kernel_rfl) (by kernel_rfl))
      have es := (hd 0 (.val (.agg #[.slice b0 lk d0, .slice b1 l1 d1, .string t0, .string t0, .slice b4 l4 d4, .slice b5 l4 d5])) (by kernel_rfl) (by kernel_rfl) (by kernel_rfl))
      simp only [FactB.val] at es
      exact StepG.plain (by kernel_rfl) (gives_call (fn := Tryd.f8) (f := 8) (xs := #[.tmp 48, .tmp 52]) (ts := #[25, 22]) (vs := #[.agg #[.slice b0 lk d0, .slice b1 l1 d1, .string t0, .string t0, .slice b4 l4 d4, .slice b5 l4 d5], .slice ai k ci]) (by kernel_rfl) (by kernel_rfl) (Eq.trans (b := #[vs 0, vs 4]) (by kernel_rfl) (pair_of es ek)) (by kernel_rfl) (by kernel_rfl) (by kernel_rfl) (told_srv0 (srv_len HKS'.out p t0 t0 i1 i1 (init := (I.take k)) (by rw [List.length_take]; omega)) (Server_c _ _ _ _ _ t0 t0 ks p i1 i1 (I.take k) HW.out.1 HW.out.2.1 HW.out.2.2.1 HW.out.2.2.2.1 HW.out.2.2.2.2 (by rw [List.length_take]; have := HI37.out; omega) w1 ((HR.out.fresh HBx.out).fresh he) ((HT.out.fresh HBx.out).fresh he) (HSx.out.next he).s ((HMsg.out.fresh he).head' (n := k) (by have := HI37.out; omega)))))
    refine rowsE_cons .srv0 (by kernel_rfl) _ rfl (by decide) (empty_ex _ 10) (empty_upd _ 10 _ _ (by kernel_rfl)) (fun vs w1 he hd => ?_) ?_
    · obtain ⟨ar, cr, ak, ck, ah, ch, ee⟩ := (hd 5 .srv0 (by kernel_rfl) (by kernel_rfl) (by kernel_rfl))
      exact StepG.plain (by kernel_rfl) (gives_move (x := .tmp 53) (by kernel_rfl) (Eq.trans (b := vs 5) (by kernel_rfl) ee) (same_pure ⟨_, _, _, _, _, _, rfl⟩))
    refine rowsE_cons .sl0 (by kernel_rfl) _ rfl (by decide) (empty_ex _ 10) (empty_upd _ 10 _ _ (by kernel_rfl)) (fun vs w1 he hd => ?_) ?_
    · obtain ⟨ar, cr, ak, ck, ah, ch, ee⟩ := (hd 6 .srv0 (by kernel_rfl) (by kernel_rfl) (by kernel_rfl))
      exact StepG.plain (by kernel_rfl) (gives_ext (i := 0) (x := .tmp 47) (by kernel_rfl) (Eq.trans (b := vs 6) (by kernel_rfl) ee) rfl (same_pure ⟨_, _, rfl⟩))
    refine rowsE_cons .sec0 (by kernel_rfl) _ rfl (by decide) (empty_ex _ 10) (empty_upd _ 10 _ _ (by kernel_rfl)) (fun vs w1 he hd => ?_) ?_
    · obtain ⟨ar, cr, ak, ck, ah, ch, ee⟩ := (hd 6 .srv0 (by kernel_rfl) (by kernel_rfl) (by kernel_rfl))
      exact StepG.plain (by kernel_rfl) (gives_ext (i := 1) (x := .tmp 47) (by kernel_rfl) (Eq.trans (b := vs 6) (by kernel_rfl) ee) rfl (same_pure ⟨_, _, _, _, rfl⟩))
    refine rowsE_cons (.val (.int .i64 12)) (by kernel_rfl) _ rfl (by decide) (empty_ex _ 10) (empty_upd _ 10 _ _ (by kernel_rfl)) (fun vs w1 he hd => ?_) ?_
    · obtain ⟨ar, cr, ak, ck, ah, ch, ee⟩ := (hd 6 .srv0 (by kernel_rfl) (by kernel_rfl) (by kernel_rfl))
      exact StepG.plain (by kernel_rfl) (gives_ext (i := 2) (x := .tmp 47) (by kernel_rfl) (Eq.trans (b := vs 6) (by kernel_rfl) ee) rfl same_val)
    refine rowsE_cons (.place w5.heap.size 30 #[.slice none 0 0, .slice none 0 0]) (by kernel_rfl) _ rfl (by decide) (empty_ex _ 10) (empty_upd _ 10 _ _ (by kernel_rfl)) (fun vs w1 he hd => StepG.plain (by kernel_rfl) (gives_allocS (by kernel_rfl) he)) ?_
    refine rowsE_cons .sl0 (by kernel_rfl) _ rfl (by decide) (empty_ex _ 10) (empty_upd _ 10 _ _ (by kernel_rfl)) (fun vs w1 he hd => ?_) ?_
    · obtain ⟨ar, cr, ee⟩ := (hd 7 .sl0 (by kernel_rfl) (by kernel_rfl) (by kernel_rfl))
      exact StepG.plain (by kernel_rfl) (gives_assign (x := .tmp 54) (by kernel_rfl) (Eq.trans (b := vs 7) (by kernel_rfl) ee) (same_pure ⟨_, _, rfl⟩))
    refine rowsE_put 10 (.place w5.heap.size 30 #[.slice none 0 0, .slice none 0 0]) (by kernel_rfl) (by kernel_rfl) (fun v x k ⟨B, h1, h2, _⟩ hk => by subst h1; cases hk; exact h2) (by kernel_rfl) (by kernel_rfl) (by kernel_rfl) (by kernel_rfl) (fun vs w1 he hd => StepG.plain (by kernel_rfl) (gives_put (j := 10) (i := 12) (v0 := vs 10) (v1 := vs 8) (x := .tmp 16) (y := .tmp 55) (by decide) (by kernel_rfl) (by kernel_rfl) (by kernel_rfl) rfl (hd 10 (.place w5.heap.size 30 #[.slice none 0 0, .slice none 0 0]) (by kernel_rfl) (by kernel_rfl) (by kernel_rfl)) (hd 8 .sec0 (by kernel_rfl) (by kernel_rfl) (by kernel_rfl)))) ?_
    refine rowsE_cons (.val (.int .i64 12)) (by kernel_rfl) _ rfl (by decide) (empty_ex _ 10) (empty_upd _ 10 _ _ (by kernel_rfl)) (fun vs w1 he hd => StepG.plain (by kernel_rfl) (gives_assign (x := .tmp 56) (by kernel_rfl) (Eq.trans (b := vs 9) (by kernel_rfl) (hd 9 (.val (.int .i64 12)) (by kernel_rfl) (by kernel_rfl) (by kernel_rfl))) same_val)) ?_
    exact rowsE_nil
  intro vs w6 hx hF hE
  have ef := toldR_at hF 13 (.val (.int .i64 12)) (by decide) (by kernel_rfl) (by kernel_rfl)
  simp only [FactB.val] at ef
  obtain ⟨arX, crX, er⟩ := toldR_at hF 11 .sl0 (by decide) (by kernel_rfl) (by kernel_rfl)
  obtain ⟨PX, akX, ckX, ahX, chX, ep, _, hrow⟩ := hE
  simp only [List.length_cons, List.length_nil, actsTo, if_true, dstOf, List.getElem?_toArray, List.getElem?_cons_succ, List.getElem?_cons_zero, Option.bind_some, Act.put, List.setIfInBounds_toArray, List.set_cons_zero, List.set_cons_succ]
  simp only [ef, ep, er]
  clear hF
  generalize vs 0 = yX0 at ⊢
  generalize vs 1 = yX1 at ⊢
  generalize vs 2 = yX2 at ⊢
  generalize vs 3 = yX3 at ⊢
  generalize vs 4 = yX4 at ⊢
  generalize vs 5 = yX5 at ⊢
  generalize vs 6 = yX6 at ⊢
  generalize vs 7 = yX7 at ⊢
  generalize vs 8 = yX8 at ⊢
  generalize vs 9 = yX9 at ⊢
  clear ef ep er
  have HCx6 := hidden (HCx.out.next hx)
  have HSx6 := hidden (HSx.out.next hx)
  have HMsg6 := hidden (HMsg.out.fresh hx)
  have HBx6 := hidden (HBx.out.trans (Below.mono hx HBx.out.size))
  have HPX := hidden hrow
  clear hx hrow HCx HSx HMsg HBx vs
  have HCx := HCx6
  have HSx := HSx6
  have HMsg := HMsg6
  have HBx := HBx6
  clear HCx6 HSx6 HMsg6 HBx6
  have HSrc : Hid (∀ wx, Ex w6 wx → Src Tryd.prog 1 22 (.slice ai 37 ci) I.length (bcells I) wx) := fun wx he => by have := (HMsg.out.fresh he).src; rw [HI37.out] at this ⊢; exact this
  have HSrm : Hid (∀ wx, Ex w6 wx → Src Tryd.prog 1 22 (.slice am lm cm) more.length (bcells more) wx) := fun wx he => ((H4.out.fresh HBx.out).fresh he).src
  go_upto_region 7 with fail
  refine region_rowsE [(.val (.agg #[.slice b0 lk d0, .slice b1 l1 d1, .string t0, .string t0, .slice b4 l4 d4, .slice b5 l4 d5])), (.own w6.heap.size []), (.val (.slice ai 37 ci)), (.own w6.heap.size I), (.own w6.heap.size [7]), (.val (.slice am lm cm)), (.own w6.heap.size ([7] ++ more)), (.own w6.heap.size (I ++ ([7] ++ more))), .srv0, .srv0, .sl0, .sec0, (.val (.int .i64 12)), (.place w6.heap.size 30 #[.slice none 0 0, .slice none 0 0]), .sl0, .any, (.val (.int .i64 12))] [100, 1, 102, 1, 2, 105, 2, 1, 108, 109, 110, 111, 112, 9, 114, 9, 116] [none, some 3, none, some 7, some 6, none, none, none, none, none, none, none, none, some 15, none, none, none] 15 (EmptyE w6.heap.size 13) (by kernel_rfl) (by decide) ?_ ?_
  · skip
    refine rowsE_cons (.val (.agg #[.slice b0 lk d0, .slice b1 l1 d1, .string t0, .string t0, .slice b4 l4 d4, .slice b5 l4 d5])) (by kernel_rfl) _ rfl (by decide) (empty_ex _ 13) (empty_upd _ 13 _ _ (by kernel_rfl)) (fun vs w1 he hd => StepG.plain (by kernel_rfl) (gives_loadAgg (x := .tmp 12) (g := B2) (by kernel_rfl) (by kernel_rfl) (HSx.out.next he).row Tryd.underlying25 (by kernel_rfl) same_val)) ?_
    refine rowsE_cons (.own w6.heap.size []) (by kernel_rfl) _ rfl (by decide) (empty_ex _ 13) (empty_upd _ 13 _ _ (by kernel_rfl)) (fun vs w1 he hd => StepG.plain (by kernel_rfl) (gives_build0 (by kernel_rfl) he)) ?_
    refine rowsE_cons (.val (.slice ai 37 ci)) (by kernel_rfl) _ rfl (by decide) (empty_ex _ 13) (empty_upd _ 13 _ _ (by kernel_rfl)) (fun vs w1 he hd => StepG.plain (by kernel_rfl) (gives_move (x := .tmp 13) (v := (.slice ai 37 ci)) (by kernel_rfl) (by kernel_rfl) same_val)) ?_
    refine rowsE_app 1 [] I (by kernel_rfl) (by kernel_rfl) (by kernel_rfl) (by kernel_rfl) (by kernel_rfl) (by kernel_rfl) _ rfl (by decide) (.inl (by kernel_rfl)) (fun vs w1 he hd => StepG.plain (by kernel_rfl) (gives_appO (tx := 22) (vy := vs 2) (x := .tmp 59) (y := .tmp 60) (vx := vs 1) (xs := []) (news := I) (by kernel_rfl) (by kernel_rfl) (by kernel_rfl) he (hd 1 (.own w6.heap.size []) (by kernel_rfl) (by kernel_rfl) (by kernel_rfl)) (by rw [show vs 2 = (.slice ai 37 ci) from (hd 2 (.val (.slice ai 37 ci)) (by kernel_rfl) (by kernel_rfl) (by kernel_rfl))]; exact HSrc.out _ he) (by have := HI37.out; have := HMo.out; simp only [List.length_nil]; omega))) ?_
    refine rowsE_cons (.own w6.heap.size [7]) (by kernel_rfl) _ rfl (by decide) (empty_ex _ 13) (empty_upd _ 13 _ _ (by kernel_rfl)) (fun vs w1 he hd => StepG.plain (by kernel_rfl) (gives_litB 1 #[(0, .const (.int .u8 7))] [7] rfl (by omega) (by omega) (by kernel_rfl) (by kernel_rfl) he)) ?_
    refine rowsE_cons (.val (.slice am lm cm)) (by kernel_rfl) _ rfl (by decide) (empty_ex _ 13) (empty_upd _ 13 _ _ (by kernel_rfl)) (fun vs w1 he hd => StepG.plain (by kernel_rfl) (gives_move (x := .tmp 4) (v := (.slice am lm cm)) (by kernel_rfl) (by kernel_rfl) same_val)) ?_
    refine rowsE_app 4 [7] ([7] ++ more) (by kernel_rfl) (by kernel_rfl) (by kernel_rfl) (by kernel_rfl) (by kernel_rfl) (by kernel_rfl) _ rfl (by decide) (.inl (by kernel_rfl)) (fun vs w1 he hd => StepG.plain (by kernel_rfl) (gives_appO (tx := 22) (vy := vs 5) (x := .tmp 62) (y := .tmp 63) (vx := vs 4) (xs := [7]) (news := more) (by kernel_rfl) (by kernel_rfl) (by kernel_rfl) he (hd 4 (.own w6.heap.size [7]) (by kernel_rfl) (by kernel_rfl) (by kernel_rfl)) (by rw [show vs 5 = (.slice am lm cm) from (hd 5 (.val (.slice am lm cm)) (by kernel_rfl) (by kernel_rfl) (by kernel_rfl))]; exact HSrm.out _ he) (by have := HMo.out; simp only [List.length_cons, List.length_nil]; omega))) ?_
    refine rowsE_app 3 I (I ++ ([7] ++ more)) (by kernel_rfl) (by kernel_rfl) (by kernel_rfl) (by kernel_rfl) (by kernel_rfl) (by kernel_rfl) _ rfl (by decide) (.inl (by kernel_rfl)) (fun vs w1 he hd => StepG.plain (by kernel_rfl) (gives_appO (tx := 22) (vy := vs 6) (x := .tmp 61) (y := .tmp 64) (vx := vs 3) (xs := I) (news := ([7] ++ more)) (by kernel_rfl) (by kernel_rfl) (by kernel_rfl) he (hd 3 (.own w6.heap.size I) (by kernel_rfl) (by kernel_rfl) (by kernel_rfl)) (BSl.ofRow (hd 6 (.own w6.heap.size ([7] ++ more)) (by kernel_rfl) (by kernel_rfl) (by kernel_rfl)).2).src (by have := HI37.out; have := HMo.out; simp only [List.length_append, List.length_cons, List.length_nil]; omega))) ?_
    refine rowsE_cons .srv0 (by kernel_rfl) _ rfl (by decide) (empty_ex _ 13) (empty_upd _ 13 _ _ (by kernel_rfl)) (fun vs w1 he hd => ?_) ?_
    · have hm7 := (hd 7 (.own w6.heap.size (I ++ ([7] ++ more))) (by kernel_rfl) (by kernel_rfl) (by kernel_rfl))
      have es := (hd 0 (.val (.agg #[.slice b0 lk d0, .slice b1 l1 d1, .string t0, .string t0, .slice b4 l4 d4, .slice b5 l4 d5])) (by kernel_rfl) (by kernel_rfl) (by kernel_rfl))
      simp only [FactB.val] at es
      exact StepG.plain (by kernel_rfl) (gives_call (fn := Tryd.f8) (f := 8) (xs := #[.tmp 58, .tmp 65]) (ts := #[25, 22]) (vs := #[.agg #[.slice b0 lk d0, .slice b1 l1 d1, .string t0, .string t0, .slice b4 l4 d4, .slice b5 l4 d5], vs 7]) (by kernel_rfl) (by kernel_rfl) (Eq.trans (b := #[vs 0, vs 7]) (by kernel_rfl) (pair_of es rfl)) (by kernel_rfl) (by kernel_rfl) (by kernel_rfl) (told_srv0 (srv_len HKS'.out p t0 t0 i1 i1 (init := (I ++ ([7] ++ more))) (by have := HI37.out; simp only [List.length_append, List.length_cons, List.length_nil]; omega)) (Server_c _ _ _ _ _ t0 t0 ks p i1 i1 (I ++ ([7] ++ more)) HW.out.1 HW.out.2.1 HW.out.2.2.1 HW.out.2.2.2.1 HW.out.2.2.2.2 (by have := HI37.out; have := HMo.out; simp only [List.length_append, List.length_cons, List.length_nil]; omega) w1 ((HR.out.fresh HBx.out).fresh he) ((HT.out.fresh HBx.out).fresh he) (HSx.out.next he).s (BSl.ofRow hm7.2))))
    refine rowsE_cons .srv0 (by kernel_rfl) _ rfl (by decide) (empty_ex _ 13) (empty_upd _ 13 _ _ (by kernel_rfl)) (fun vs w1 he hd => ?_) ?_
    · obtain ⟨ar, cr, ak, ck, ah, ch, ee⟩ := (hd 8 .srv0 (by kernel_rfl) (by kernel_rfl) (by kernel_rfl))
      exact StepG.plain (by kernel_rfl) (gives_move (x := .tmp 66) (by kernel_rfl) (Eq.trans (b := vs 8) (by kernel_rfl) ee) (same_pure ⟨_, _, _, _, _, _, rfl⟩))
    refine rowsE_cons .sl0 (by kernel_rfl) _ rfl (by decide) (empty_ex _ 13) (empty_upd _ 13 _ _ (by kernel_rfl)) (fun vs w1 he hd => ?_) ?_
    · obtain ⟨ar, cr, ak, ck, ah, ch, ee⟩ := (hd 9 .srv0 (by kernel_rfl) (by kernel_rfl) (by kernel_rfl))
      exact StepG.plain (by kernel_rfl) (gives_ext (i := 0) (x := .tmp 57) (by kernel_rfl) (Eq.trans (b := vs 9) (by kernel_rfl) ee) rfl (same_pure ⟨_, _, rfl⟩))
    refine rowsE_cons .sec0 (by kernel_rfl) _ rfl (by decide) (empty_ex _ 13) (empty_upd _ 13 _ _ (by kernel_rfl)) (fun vs w1 he hd => ?_) ?_
    · obtain ⟨ar, cr, ak, ck, ah, ch, ee⟩ := (hd 9 .srv0 (by kernel_rfl) (by kernel_rfl) (by kernel_rfl))
      exact StepG.plain (by kernel_rfl) (gives_ext (i := 1) (x := .tmp 57) (by kernel_rfl) (Eq.trans (b := vs 9) (by kernel_rfl) ee) rfl (same_pure ⟨_, _, _, _, rfl⟩))
    refine rowsE_cons (.val (.int .i64 12)) (by kernel_rfl) _ rfl (by decide) (empty_ex _ 13) (empty_upd _ 13 _ _ (by kernel_rfl)) (fun vs w1 he hd => ?_) ?_
    · obtain ⟨ar, cr, ak, ck, ah, ch, ee⟩ := (hd 9 .srv0 (by kernel_rfl) (by kernel_rfl) (by kernel_rfl))
      exact StepG.plain (by kernel_rfl) (gives_ext (i := 2) (x := .tmp 57) (by kernel_rfl) (Eq.trans (b := vs 9) (by kernel_rfl) ee) rfl same_val)
    refine rowsE_cons (.place w6.heap.size 30 #[.slice none 0 0, .slice none 0 0]) (by kernel_rfl) _ rfl (by decide) (empty_ex _ 13) (empty_upd _ 13 _ _ (by kernel_rfl)) (fun vs w1 he hd => StepG.plain (by kernel_rfl) (gives_allocS (by kernel_rfl) he)) ?_
    refine rowsE_cons .sl0 (by kernel_rfl) _ rfl (by decide) (empty_ex _ 13) (empty_upd _ 13 _ _ (by kernel_rfl)) (fun vs w1 he hd => ?_) ?_
    · obtain ⟨ar, cr, ee⟩ := (hd 10 .sl0 (by kernel_rfl) (by kernel_rfl) (by kernel_rfl))
      exact StepG.plain (by kernel_rfl) (gives_assign (x := .tmp 67) (by kernel_rfl) (Eq.trans (b := vs 10) (by kernel_rfl) ee) (same_pure ⟨_, _, rfl⟩))
    refine rowsE_put 13 (.place w6.heap.size 30 #[.slice none 0 0, .slice none 0 0]) (by kernel_rfl) (by kernel_rfl) (fun v x k ⟨B, h1, h2, _⟩ hk => by subst h1; cases hk; exact h2) (by kernel_rfl) (by kernel_rfl) (by kernel_rfl) (by kernel_rfl) (fun vs w1 he hd => StepG.plain (by kernel_rfl) (gives_put (j := 13) (i := 15) (v0 := vs 13) (v1 := vs 11) (x := .tmp 19) (y := .tmp 68) (by decide) (by kernel_rfl) (by kernel_rfl) (by kernel_rfl) rfl (hd 13 (.place w6.heap.size 30 #[.slice none 0 0, .slice none 0 0]) (by kernel_rfl) (by kernel_rfl) (by kernel_rfl)) (hd 11 .sec0 (by kernel_rfl) (by kernel_rfl) (by kernel_rfl)))) ?_
    refine rowsE_cons (.val (.int .i64 12)) (by kernel_rfl) _ rfl (by decide) (empty_ex _ 13) (empty_upd _ 13 _ _ (by kernel_rfl)) (fun vs w1 he hd => StepG.plain (by kernel_rfl) (gives_assign (x := .tmp 69) (by kernel_rfl) (Eq.trans (b := vs 12) (by kernel_rfl) (hd 12 (.val (.int .i64 12)) (by kernel_rfl) (by kernel_rfl) (by kernel_rfl))) same_val)) ?_
    exact rowsE_nil
  intro vs w7 hx hF hE
  have ef := toldR_at hF 16 (.val (.int .i64 12)) (by decide) (by kernel_rfl) (by kernel_rfl)
  simp only [FactB.val] at ef
  obtain ⟨arY, crY, er⟩ := toldR_at hF 14 .sl0 (by decide) (by kernel_rfl) (by kernel_rfl)
  obtain ⟨PY, akY, ckY, ahY, chY, ep, _, hrow⟩ := hE
  simp only [List.length_cons, List.length_nil, actsTo, if_true, dstOf, List.getElem?_toArray, List.getElem?_cons_succ, List.getElem?_cons_zero, Option.bind_some, Act.put, List.setIfInBounds_toArray, List.set_cons_zero, List.set_cons_succ]
  simp only [ef, ep, er]
  clear hF
  generalize vs 0 = yY0 at ⊢
  generalize vs 1 = yY1 at ⊢
  generalize vs 2 = yY2 at ⊢
  generalize vs 3 = yY3 at ⊢
  generalize vs 4 = yY4 at ⊢
  generalize vs 5 = yY5 at ⊢
  generalize vs 6 = yY6 at ⊢
  generalize vs 7 = yY7 at ⊢
  generalize vs 8 = yY8 at ⊢
  generalize vs 9 = yY9 at ⊢
  generalize vs 10 = yY10 at ⊢
  generalize vs 11 = yY11 at ⊢
  generalize vs 12 = yY12 at ⊢
  clear ef ep er
  have HPX7 : Hid (w7.heap[PX]? = some (.cells #[.slice akX 0 ckX, .slice ahX 0 chX] 30 (0, 0))) := (Below.block hx PX (lt_of_block HPX.out)).trans HPX.out
  have HCx7 := hidden (HCx.out.next hx)
  have HSx7 := hidden (HSx.out.next hx)
  have HMsg7 := hidden (HMsg.out.fresh hx)
  have HBx7 := hidden (HBx.out.trans (Below.mono hx HBx.out.size))
  obtain ⟨q0, q1⟩ := cells2' HPX7.out
  obtain ⟨q2, q3⟩ := cells2' hrow
  clear hx hrow HCx HSx HMsg HBx vs HPX HPX7 HSrc HSrm
  go_upto_region 10 with fail
  clear q0 q1 q2 q3
  have hmsg := HMsg7.out
  rw [HI37.out] at hmsg
  have HM37 := hidden hmsg
  clear hmsg
  obtain ⟨q0, q1, q2, q3, q4, q5⟩ := side_cells HSx7.out.row
  go_wp2_with fail
  refine (Server_c _ _ _ _ _ t0 t0 ks p i1 i1 I HW.out.1 HW.out.2.1 HW.out.2.2.1 HW.out.2.2.2.1 HW.out.2.2.2.2 (by have := HI37.out; omega) w7 (HR.out.fresh HBx7.out) (HT.out.fresh HBx7.out) HSx7.out.s HM37.out).mono ?_
  rintro e w8 ⟨hb8, vr, vk, vh, rfl, hvr, hvk, hvh⟩
  have HKn : Hid (∀ wx, Below w.heap.size w wx → Calls Tryd.prog 14 #[] wx fun e w' => e = .returned (.bool true) ∧ Below wx.heap.size wx w') := fun wx hb => known_c wx (HR.out.fresh hb) (HT.out.fresh hb)
  clear q0 q1 q2 q3 q4 q5
  by_cases hK : secK kc ks = []
  · rw [HSN.out hK] at hvr hvk hvh ⊢
    simp only at hvr hvk hvh ⊢
    obtain ⟨xr, yr, rfl⟩ := hvr.nil
    obtain ⟨xk, yk, rfl⟩ := hvk.nil
    obtain ⟨xh, yh, rfl⟩ := hvh.nil
    have hb9 : Below w8.heap.size w8 (w8.alloc (.cells #[.slice xk 0 yk, .slice xh 0 yh] 30)) := (Below.refl _ w8).alloc (Nat.le_refl _) _
    have hb79 := hb8.trans (hb9.mono hb8.size)
    have HB9 := hidden (HBx7.out.trans (hb79.mono HBx7.out.size))
    clear hvr hvk hvh hb8 hb9 hb79 hK HSO HSN HKC' HKS' HLL HLK HW HCap HMo
    go_wp2_with fail
    generalize w8.alloc (.cells #[.slice xk 0 yk, .slice xh 0 yh] 30) = w9 at HB9 ⊢
    refine (HKn.out w9 HB9.out).mono ?_
    rintro e w10 ⟨rfl, hb10⟩
    have HB10 := hidden (HB9.out.trans (hb10.mono HB9.out.size))
    clear hb10
    go_wp2
    go_ret
    exact ⟨rfl, HB10.out⟩
  rw [HSO.out hK] at hvr hvk hvh ⊢
  simp only at hvr hvk hvh ⊢
  have HR109 : Hid ((repL p (baseL ks) (secH kc ks p t0 t0 i1 i1)).length = 109) := ((wfB_iff 31 3 _).1 (rep_wf p ks (secH kc ks p t0 t0 i1 i1))).len
  generalize repL p (baseL ks) (secH kc ks p t0 t0 i1 i1) = R at hvr HR109 ⊢
  generalize secH kc ks p t0 t0 i1 i1 = H3 at hvh ⊢
  generalize secK kc ks = K3 at hvk ⊢
  obtain ⟨ar, cr, rfl⟩ := hvr.len
  obtain ⟨xk, yk, rfl⟩ := hvk.len
  obtain ⟨xh, yh, rfl⟩ := hvh.len
  generalize K3.length = lk3 at ⊢
  generalize H3.length = lh3 at ⊢
  have HCap' : Hid (109 ≤ cr) := by show _ ≤ _; have := hvr.capLe; have := HR109.out; omega
  have hb9 : Below w8.heap.size w8 (w8.alloc (.cells #[.slice xk lk3 yk, .slice xh lh3 yh] 30)) := (Below.refl _ w8).alloc (Nat.le_refl _) _
  have hb79 := hb8.trans (hb9.mono hb8.size)
  have HMsg := hidden (hvr.fresh hb9)
  have HCx := hidden (HCx7.out.next hb79)
  have HBx := hidden (HBx7.out.trans (hb79.mono HBx7.out.size))
  rw [HR109.out]
  clear hvr hvk hvh hb8 hb9 hb79 hK HSO HSN HCx7 HSx7 HMsg7 HBx7 HM37 HCap
  have HCap := HCap'
  clear HCap'
  go_upto_region 13 with fail
  generalize w8.alloc (.cells #[.slice xk lk3 yk, .slice xh lh3 yh] 30) = w9 at HMsg HCx HBx ⊢
  generalize w8.heap.size = B8 at ⊢
  refine region_rowsE [(.val (.agg #[.slice a0 lc c0, .slice a1 l1 c1, .string t0, .string t0, .slice a4 l4 c4, .slice a5 l4 c5])), (.val (.slice ar 109 cr)), (.val (.int .i64 cut)), (.val (.slice ar 109 cr)), (.val (.int .i64 109)), (.val (.int .i64 108)), (.upto 108), (.cutS ar cr 108), .cli0, .cli0, .sec0, (.val (.int .i64 12)), (.place w9.heap.size 30 #[.slice none 0 0, .slice none 0 0]), .any, (.val (.int .i64 12))] [100, 101, 102, 103, 104, 105, 106, 107, 108, 109, 110, 111, 9, 9, 114] [none, none, none, none, none, none, none, none, none, none, none, none, some 13, none, none] 13 (EmptyE w9.heap.size 12) (by kernel_rfl) (by decide) ?_ ?_
  · skip
    refine rowsE_cons (.val (.agg #[.slice a0 lc c0, .slice a1 l1 c1, .string t0, .string t0, .slice a4 l4 c4, .slice a5 l4 c5])) (by kernel_rfl) _ rfl (by decide) (empty_ex _ 12) (empty_upd _ 12 _ _ (by kernel_rfl)) (fun vs w1 he hd => StepG.plain (by kernel_rfl) (gives_loadAgg (x := .tmp 11) (g := B1) (by kernel_rfl) (by kernel_rfl) (HCx.out.next he).row Tryd.underlying25 (by kernel_rfl) same_val)) ?_
    refine rowsE_cons (.val (.slice ar 109 cr)) (by kernel_rfl) _ rfl (by decide) (empty_ex _ 12) (empty_upd _ 12 _ _ (by kernel_rfl)) (fun vs w1 he hd => StepG.plain (by kernel_rfl) (gives_move (x := .tmp 21) (v := (.slice ar 109 cr)) (by kernel_rfl) (by kernel_rfl) same_val)) ?_
    refine rowsE_cons (.val (.int .i64 cut)) (by kernel_rfl) _ rfl (by decide) (empty_ex _ 12) (empty_upd _ 12 _ _ (by kernel_rfl)) (fun vs w1 he hd => StepG.plain (by kernel_rfl) (gives_move (x := .tmp 3) (v := (.int .i64 cut)) (by kernel_rfl) (by kernel_rfl) same_val)) ?_
    refine rowsE_cons (.val (.slice ar 109 cr)) (by kernel_rfl) _ rfl (by decide) (empty_ex _ 12) (empty_upd _ 12 _ _ (by kernel_rfl)) (fun vs w1 he hd => StepG.plain (by kernel_rfl) (gives_move (x := .tmp 21) (v := (.slice ar 109 cr)) (by kernel_rfl) (by kernel_rfl) same_val)) ?_
    refine rowsE_cons (.val (.int .i64 109)) (by kernel_rfl) _ rfl (by decide) (empty_ex _ 12) (empty_upd _ 12 _ _ (by kernel_rfl)) (fun vs w1 he hd => StepG.plain (by kernel_rfl) (gives_len (ty := 22) (x := .tmp 118) (n := 109) (by kernel_rfl) (Eq.trans (b := vs 3) (by kernel_rfl) (hd 3 (.val (.slice ar 109 cr)) (by kernel_rfl) (by kernel_rfl) (by kernel_rfl))) ⟨_, Tryd.underlying22⟩ same_val)) ?_
    refine rowsE_cons (.val (.int .i64 108)) (by kernel_rfl) _ rfl (by decide) (empty_ex _ 12) (empty_upd _ 12 _ _ (by kernel_rfl)) (fun vs w1 he hd => StepG.plain (by kernel_rfl) (gives_subI (t := 3) (x := .tmp 119) (y := .const (.int .i64 1)) (a := 109) (b := 1) (by kernel_rfl) (Eq.trans (b := vs 4) (by kernel_rfl) (hd 4 (.val (.int .i64 109)) (by kernel_rfl) (by kernel_rfl) (by kernel_rfl))) (by kernel_rfl) (by kernel_rfl) same_val)) ?_
    refine rowsE_cons (.upto 108) (by kernel_rfl) _ rfl (by decide) (empty_ex _ 12) (empty_upd _ 12 _ _ (by kernel_rfl)) (fun vs w1 he hd => StepG.plain (by kernel_rfl) (gives_call (fn := Tryd.f16) (f := 16) (xs := #[.tmp 117, .const (.int .i64 0), .tmp 120]) (ts := #[3, 3, 3]) (vs := #[.int .i64 cut, .int .i64 0, .int .i64 108]) (by kernel_rfl) (by kernel_rfl) (Eq.trans (b := #[vs 2, .int .i64 0, vs 5]) (by kernel_rfl) (trip_eq (hd 2 (.val (.int .i64 cut)) (by kernel_rfl) (by kernel_rfl) (by kernel_rfl)) (hd 5 (.val (.int .i64 108)) (by kernel_rfl) (by kernel_rfl) (by kernel_rfl)))) (by kernel_rfl) (by kernel_rfl) (by kernel_rfl) (told_within cut 108 (by omega) w1))) ?_
    refine rowsE_cons (.cutS ar cr 108) (by kernel_rfl) _ rfl (by decide) (empty_ex _ 12) (empty_upd _ 12 _ _ (by kernel_rfl)) (fun vs w1 he hd => by
      obtain ⟨k, hk, ek⟩ := (hd 6 (.upto 108) (by kernel_rfl) (by kernel_rfl) (by kernel_rfl))
      have em := (hd 1 (.val (.slice ar 109 cr)) (by kernel_rfl) (by kernel_rfl) (by kernel_rfl))
      simp only [FactB.val] at em
      exact StepG.plain (by kernel_rfl) (gives_slice (x := .tmp 116) (lo := none) (hi := some (.tmp 121)) (mx := none) (v := .slice ar k cr) (by kernel_rfl) (by rw [show (actsTo _ _ _ vs _).eval (.tmp 116) = (.slice ar 109 cr) from Eq.trans (b := vs 1) (by kernel_rfl) em]; simp only [Option.map]; rw [show (actsTo _ _ _ vs _).eval (.tmp 121) = .int .i64 (k : Int) from Eq.trans (b := vs 6) (by kernel_rfl) ek]; exact run_front _ _ k _ (by have := HCap.out; omega) _) (same_pure ⟨k, hk, rfl⟩))) ?_
    refine rowsE_cons .cli0 (by kernel_rfl) _ rfl (by decide) (empty_ex _ 12) (empty_upd _ 12 _ _ (by kernel_rfl)) (fun vs w1 he hd => ?_) ?_
    · obtain ⟨k, hk, ek⟩ := (hd 7 (.cutS ar cr 108) (by kernel_rfl) (by kernel_rfl) (by kernel_rfl))
      have es := (hd 0 (.val (.agg #[.slice a0 lc c0, .slice a1 l1 c1, .string t0, .string t0, .slice a4 l4 c4, .slice a5 l4 c5])) (by kernel_rfl) (by kernel_rfl) (by kernel_rfl))
      simp only [FactB.val] at es
      exact StepG.plain (by kernel_rfl) (gives_call (fn := Tryd.f9) (f := 9) (xs := #[.tmp 115, .tmp 122]) (ts := #[25, 22]) (vs := #[.agg #[.slice a0 lc c0, .slice a1 l1 c1, .string t0, .string t0, .slice a4 l4 c4, .slice a5 l4 c5], .slice ar k cr]) (by kernel_rfl) (by kernel_rfl) (Eq.trans (b := #[vs 0, vs 7]) (by kernel_rfl) (pair_of es ek)) (by kernel_rfl) (by kernel_rfl) (by kernel_rfl) (told_cli0 (cli_len HKC'.out p t0 t0 i1 i1 (init := (R.take k)) (by rw [List.length_take]; omega)) (Client_c _ _ _ _ _ t0 t0 kc p i1 i1 (R.take k) HW.out.1 HW.out.2.1 HW.out.2.2.1 HW.out.2.2.2.1 HW.out.2.2.2.2 (by rw [List.length_take]; have := HR109.out; omega) w1 ((HR.out.fresh HBx.out).fresh he) ((HT.out.fresh HBx.out).fresh he) (HCx.out.next he).s ((HMsg.out.fresh he).head' (n := k) (by have := HR109.out; omega)))))
    refine rowsE_cons .cli0 (by kernel_rfl) _ rfl (by decide) (empty_ex _ 12) (empty_upd _ 12 _ _ (by kernel_rfl)) (fun vs w1 he hd => ?_) ?_
    · obtain ⟨ak, ck, ah, ch, ee⟩ := (hd 8 .cli0 (by kernel_rfl) (by kernel_rfl) (by kernel_rfl))
      exact StepG.plain (by kernel_rfl) (gives_move (x := .tmp 123) (by kernel_rfl) (Eq.trans (b := vs 8) (by kernel_rfl) ee) (same_pure ⟨_, _, _, _, rfl⟩))
    refine rowsE_cons .sec0 (by kernel_rfl) _ rfl (by decide) (empty_ex _ 12) (empty_upd _ 12 _ _ (by kernel_rfl)) (fun vs w1 he hd => ?_) ?_
    · obtain ⟨ak, ck, ah, ch, ee⟩ := (hd 9 .cli0 (by kernel_rfl) (by kernel_rfl) (by kernel_rfl))
      exact StepG.plain (by kernel_rfl) (gives_ext (i := 0) (x := .tmp 114) (by kernel_rfl) (Eq.trans (b := vs 9) (by kernel_rfl) ee) rfl (same_pure ⟨_, _, _, _, rfl⟩))
    refine rowsE_cons (.val (.int .i64 12)) (by kernel_rfl) _ rfl (by decide) (empty_ex _ 12) (empty_upd _ 12 _ _ (by kernel_rfl)) (fun vs w1 he hd => ?_) ?_
    · obtain ⟨ak, ck, ah, ch, ee⟩ := (hd 9 .cli0 (by kernel_rfl) (by kernel_rfl) (by kernel_rfl))
      exact StepG.plain (by kernel_rfl) (gives_ext (i := 1) (x := .tmp 114) (by kernel_rfl) (Eq.trans (b := vs 9) (by kernel_rfl) ee) rfl same_val)
    refine rowsE_cons (.place w9.heap.size 30 #[.slice none 0 0, .slice none 0 0]) (by kernel_rfl) _ rfl (by decide) (empty_ex _ 12) (empty_upd _ 12 _ _ (by kernel_rfl)) (fun vs w1 he hd => StepG.plain (by kernel_rfl) (gives_allocS (by kernel_rfl) he)) ?_
    refine rowsE_put 12 (.place w9.heap.size 30 #[.slice none 0 0, .slice none 0 0]) (by kernel_rfl) (by kernel_rfl) (fun v x k ⟨B, h1, h2, _⟩ hk => by subst h1; cases hk; exact h2) (by kernel_rfl) (by kernel_rfl) (by kernel_rfl) (by kernel_rfl) (fun vs w1 he hd => StepG.plain (by kernel_rfl) (gives_put (j := 12) (i := 13) (v0 := vs 12) (v1 := vs 10) (x := .tmp 24) (y := .tmp 124) (by decide) (by kernel_rfl) (by kernel_rfl) (by kernel_rfl) rfl (hd 12 (.place w9.heap.size 30 #[.slice none 0 0, .slice none 0 0]) (by kernel_rfl) (by kernel_rfl) (by kernel_rfl)) (hd 10 .sec0 (by kernel_rfl) (by kernel_rfl) (by kernel_rfl)))) ?_
    refine rowsE_cons (.val (.int .i64 12)) (by kernel_rfl) _ rfl (by decide) (empty_ex _ 12) (empty_upd _ 12 _ _ (by kernel_rfl)) (fun vs w1 he hd => StepG.plain (by kernel_rfl) (gives_assign (x := .tmp 125) (by kernel_rfl) (Eq.trans (b := vs 11) (by kernel_rfl) (hd 11 (.val (.int .i64 12)) (by kernel_rfl) (by kernel_rfl) (by kernel_rfl))) same_val)) ?_
    exact rowsE_nil
  intro vs w10 hx hF hE
  have ef := toldR_at hF 14 (.val (.int .i64 12)) (by decide) (by kernel_rfl) (by kernel_rfl)
  simp only [FactB.val] at ef
  obtain ⟨PZ, akZ, ckZ, ahZ, chZ, ep, _, hrow⟩ := hE
  simp only [List.length_cons, List.length_nil, actsTo, if_true, dstOf, List.getElem?_toArray, List.getElem?_cons_succ, List.getElem?_cons_zero, Option.bind_some, Act.put, List.setIfInBounds_toArray, List.set_cons_zero, List.set_cons_succ]
  simp only [ef, ep]
  clear hF
  generalize vs 0 = yZ0 at ⊢
  generalize vs 1 = yZ1 at ⊢
  generalize vs 2 = yZ2 at ⊢
  generalize vs 3 = yZ3 at ⊢
  generalize vs 4 = yZ4 at ⊢
  generalize vs 5 = yZ5 at ⊢
  generalize vs 6 = yZ6 at ⊢
  generalize vs 7 = yZ7 at ⊢
  generalize vs 8 = yZ8 at ⊢
  generalize vs 9 = yZ9 at ⊢
  generalize vs 10 = yZ10 at ⊢
  generalize vs 11 = yZ11 at ⊢
  clear ef ep
  have HCx6 := hidden (HCx.out.next hx)
  have HMsg6 := hidden (HMsg.out.fresh hx)
  have HBx6 := hidden (HBx.out.trans (Below.mono hx HBx.out.size))
  have HPZ := hidden hrow
  clear hx hrow HCx HMsg HBx vs
  have HCx := HCx6
  have HMsg := HMsg6
  have HBx := HBx6
  clear HCx6 HMsg6 HBx6
  have HSrc : Hid (∀ wx, Ex w10 wx → Src Tryd.prog 1 22 (.slice ar 109 cr) R.length (bcells R) wx) := fun wx he => by have := (HMsg.out.fresh he).src; rw [HR109.out] at this ⊢; exact this
  have HSrm : Hid (∀ wx, Ex w10 wx → Src Tryd.prog 1 22 (.slice am lm cm) more.length (bcells more) wx) := fun wx he => ((H4.out.fresh HBx.out).fresh he).src
  go_upto_region 14 with fail
  refine region_rowsE [(.val (.agg #[.slice a0 lc c0, .slice a1 l1 c1, .string t0, .string t0, .slice a4 l4 c4, .slice a5 l4 c5])), (.own w10.heap.size []), (.val (.slice ar 109 cr)), (.own w10.heap.size R), (.own w10.heap.size [7]), (.val (.slice am lm cm)), (.own w10.heap.size ([7] ++ more)), (.own w10.heap.size (R ++ ([7] ++ more))), .cli0, .cli0, .sec0, (.val (.int .i64 12)), (.place w10.heap.size 30 #[.slice none 0 0, .slice none 0 0]), .any, (.val (.int .i64 12))] [100, 1, 102, 1, 2, 105, 2, 1, 108, 109, 110, 111, 9, 9, 114] [none, some 3, none, some 7, some 6, none, none, none, none, none, none, none, some 13, none, none] 13 (EmptyE w10.heap.size 12) (by kernel_rfl) (by decide) ?_ ?_
  · skip
    refine rowsE_cons (.val (.agg #[.slice a0 lc c0, .slice a1 l1 c1, .string t0, .string t0, .slice a4 l4 c4, .slice a5 l4 c5])) (by kernel_rfl) _ rfl (by decide) (empty_ex _ 12) (empty_upd _ 12 _ _ (by kernel_rfl)) (fun vs w1 he hd => StepG.plain (by kernel_rfl) (gives_loadAgg (x := .tmp 11) (g := B1) (by kernel_rfl) (by kernel_rfl) (HCx.out.next he).row Tryd.underlying25 (by kernel_rfl) same_val)) ?_
    refine rowsE_cons (.own w10.heap.size []) (by kernel_rfl) _ rfl (by decide) (empty_ex _ 12) (empty_upd _ 12 _ _ (by kernel_rfl)) (fun vs w1 he hd => StepG.plain (by kernel_rfl) (gives_build0 (by kernel_rfl) he)) ?_
    refine rowsE_cons (.val (.slice ar 109 cr)) (by kernel_rfl) _ rfl (by decide) (empty_ex _ 12) (empty_upd _ 12 _ _ (by kernel_rfl)) (fun vs w1 he hd => StepG.plain (by kernel_rfl) (gives_move (x := .tmp 21) (v := (.slice ar 109 cr)) (by kernel_rfl) (by kernel_rfl) same_val)) ?_
    refine rowsE_app 1 [] R (by kernel_rfl) (by kernel_rfl) (by kernel_rfl) (by kernel_rfl) (by kernel_rfl) (by kernel_rfl) _ rfl (by decide) (.inl (by kernel_rfl)) (fun vs w1 he hd => StepG.plain (by kernel_rfl) (gives_appO (tx := 22) (vy := vs 2) (x := .tmp 128) (y := .tmp 129) (vx := vs 1) (xs := []) (news := R) (by kernel_rfl) (by kernel_rfl) (by kernel_rfl) he (hd 1 (.own w10.heap.size []) (by kernel_rfl) (by kernel_rfl) (by kernel_rfl)) (by rw [show vs 2 = (.slice ar 109 cr) from (hd 2 (.val (.slice ar 109 cr)) (by kernel_rfl) (by kernel_rfl) (by kernel_rfl))]; exact HSrc.out _ he) (by have := HR109.out; have := HMo.out; simp only [List.length_nil]; omega))) ?_
    refine rowsE_cons (.own w10.heap.size [7]) (by kernel_rfl) _ rfl (by decide) (empty_ex _ 12) (empty_upd _ 12 _ _ (by kernel_rfl)) (fun vs w1 he hd => StepG.plain (by kernel_rfl) (gives_litB 1 #[(0, .const (.int .u8 7))] [7] rfl (by omega) (by omega) (by kernel_rfl) (by kernel_rfl) he)) ?_
    refine rowsE_cons (.val (.slice am lm cm)) (by kernel_rfl) _ rfl (by decide) (empty_ex _ 12) (empty_upd _ 12 _ _ (by kernel_rfl)) (fun vs w1 he hd => StepG.plain (by kernel_rfl) (gives_move (x := .tmp 4) (v := (.slice am lm cm)) (by kernel_rfl) (by kernel_rfl) same_val)) ?_
    refine rowsE_app 4 [7] ([7] ++ more) (by kernel_rfl) (by kernel_rfl) (by kernel_rfl) (by kernel_rfl) (by kernel_rfl) (by kernel_rfl) _ rfl (by decide) (.inl (by kernel_rfl)) (fun vs w1 he hd => StepG.plain (by kernel_rfl) (gives_appO (tx := 22) (vy := vs 5) (x := .tmp 131) (y := .tmp 132) (vx := vs 4) (xs := [7]) (news := more) (by kernel_rfl) (by kernel_rfl) (by kernel_rfl) he (hd 4 (.own w10.heap.size [7]) (by kernel_rfl) (by kernel_rfl) (by kernel_rfl)) (by rw [show vs 5 = (.slice am lm cm) from (hd 5 (.val (.slice am lm cm)) (by kernel_rfl) (by kernel_rfl) (by kernel_rfl))]; exact HSrm.out _ he) (by have := HMo.out; simp only [List.length_cons, List.length_nil]; omega))) ?_
    refine rowsE_app 3 R (R ++ ([7] ++ more)) (by kernel_rfl) (by kernel_rfl) (by kernel_rfl) (by kernel_rfl) (by kernel_rfl) (by kernel_rfl) _ rfl (by decide) (.inl (by kernel_rfl)) (fun vs w1 he hd => StepG.plain (by kernel_rfl) (gives_appO (tx := 22) (vy := vs 6) (x := .tmp 130) (y := .tmp 133) (vx := vs 3) (xs := R) (news := ([7] ++ more)) (by kernel_rfl) (by kernel_rfl) (by kernel_rfl) he (hd 3 (.own w10.heap.size R) (by kernel_rfl) (by kernel_rfl) (by kernel_rfl)) (BSl.ofRow (hd 6 (.own w10.heap.size ([7] ++ more)) (by kernel_rfl) (by kernel_rfl) (by kernel_rfl)).2).src (by have := HR109.out; have := HMo.out; simp only [List.length_append, List.length_cons, List.length_nil]; omega))) ?_
    refine rowsE_cons .cli0 (by kernel_rfl) _ rfl (by decide) (empty_ex _ 12) (empty_upd _ 12 _ _ (by kernel_rfl)) (fun vs w1 he hd => ?_) ?_
    · have hm7 := (hd 7 (.own w10.heap.size (R ++ ([7] ++ more))) (by kernel_rfl) (by kernel_rfl) (by kernel_rfl))
      have es := (hd 0 (.val (.agg #[.slice a0 lc c0, .slice a1 l1 c1, .string t0, .string t0, .slice a4 l4 c4, .slice a5 l4 c5])) (by kernel_rfl) (by kernel_rfl) (by kernel_rfl))
      simp only [FactB.val] at es
      exact StepG.plain (by kernel_rfl) (gives_call (fn := Tryd.f9) (f := 9) (xs := #[.tmp 127, .tmp 134]) (ts := #[25, 22]) (vs := #[.agg #[.slice a0 lc c0, .slice a1 l1 c1, .string t0, .string t0, .slice a4 l4 c4, .slice a5 l4 c5], vs 7]) (by kernel_rfl) (by kernel_rfl) (Eq.trans (b := #[vs 0, vs 7]) (by kernel_rfl) (pair_of es rfl)) (by kernel_rfl) (by kernel_rfl) (by kernel_rfl) (told_cli0 (cli_len HKC'.out p t0 t0 i1 i1 (init := (R ++ ([7] ++ more))) (by have := HR109.out; simp only [List.length_append, List.length_cons, List.length_nil]; omega)) (Client_c _ _ _ _ _ t0 t0 kc p i1 i1 (R ++ ([7] ++ more)) HW.out.1 HW.out.2.1 HW.out.2.2.1 HW.out.2.2.2.1 HW.out.2.2.2.2 (by have := HR109.out; have := HMo.out; simp only [List.length_append, List.length_cons, List.length_nil]; omega) w1 ((HR.out.fresh HBx.out).fresh he) ((HT.out.fresh HBx.out).fresh he) (HCx.out.next he).s (BSl.ofRow hm7.2))))
    refine rowsE_cons .cli0 (by kernel_rfl) _ rfl (by decide) (empty_ex _ 12) (empty_upd _ 12 _ _ (by kernel_rfl)) (fun vs w1 he hd => ?_) ?_
    · obtain ⟨ak, ck, ah, ch, ee⟩ := (hd 8 .cli0 (by kernel_rfl) (by kernel_rfl) (by kernel_rfl))
      exact StepG.plain (by kernel_rfl) (gives_move (x := .tmp 135) (by kernel_rfl) (Eq.trans (b := vs 8) (by kernel_rfl) ee) (same_pure ⟨_, _, _, _, rfl⟩))
    refine rowsE_cons .sec0 (by kernel_rfl) _ rfl (by decide) (empty_ex _ 12) (empty_upd _ 12 _ _ (by kernel_rfl)) (fun vs w1 he hd => ?_) ?_
    · obtain ⟨ak, ck, ah, ch, ee⟩ := (hd 9 .cli0 (by kernel_rfl) (by kernel_rfl) (by kernel_rfl))
      exact StepG.plain (by kernel_rfl) (gives_ext (i := 0) (x := .tmp 126) (by kernel_rfl) (Eq.trans (b := vs 9) (by kernel_rfl) ee) rfl (same_pure ⟨_, _, _, _, rfl⟩))
    refine rowsE_cons (.val (.int .i64 12)) (by kernel_rfl) _ rfl (by decide) (empty_ex _ 12) (empty_upd _ 12 _ _ (by kernel_rfl)) (fun vs w1 he hd => ?_) ?_
    · obtain ⟨ak, ck, ah, ch, ee⟩ := (hd 9 .cli0 (by kernel_rfl) (by kernel_rfl) (by kernel_rfl))
      exact StepG.plain (by kernel_rfl) (gives_ext (i := 1) (x := .tmp 126) (by kernel_rfl) (Eq.trans (b := vs 9) (by kernel_rfl) ee) rfl same_val)
    refine rowsE_cons (.place w10.heap.size 30 #[.slice none 0 0, .slice none 0 0]) (by kernel_rfl) _ rfl (by decide) (empty_ex _ 12) (empty_upd _ 12 _ _ (by kernel_rfl)) (fun vs w1 he hd => StepG.plain (by kernel_rfl) (gives_allocS (by kernel_rfl) he)) ?_
    refine rowsE_put 12 (.place w10.heap.size 30 #[.slice none 0 0, .slice none 0 0]) (by kernel_rfl) (by kernel_rfl) (fun v x k ⟨B, h1, h2, _⟩ hk => by subst h1; cases hk; exact h2) (by kernel_rfl) (by kernel_rfl) (by kernel_rfl) (by kernel_rfl) (fun vs w1 he hd => StepG.plain (by kernel_rfl) (gives_put (j := 12) (i := 13) (v0 := vs 12) (v1 := vs 10) (x := .tmp 26) (y := .tmp 136) (by decide) (by kernel_rfl) (by kernel_rfl) (by kernel_rfl) rfl (hd 12 (.place w10.heap.size 30 #[.slice none 0 0, .slice none 0 0]) (by kernel_rfl) (by kernel_rfl) (by kernel_rfl)) (hd 10 .sec0 (by kernel_rfl) (by kernel_rfl) (by kernel_rfl)))) ?_
    refine rowsE_cons (.val (.int .i64 12)) (by kernel_rfl) _ rfl (by decide) (empty_ex _ 12) (empty_upd _ 12 _ _ (by kernel_rfl)) (fun vs w1 he hd => StepG.plain (by kernel_rfl) (gives_assign (x := .tmp 137) (by kernel_rfl) (Eq.trans (b := vs 11) (by kernel_rfl) (hd 11 (.val (.int .i64 12)) (by kernel_rfl) (by kernel_rfl) (by kernel_rfl))) same_val)) ?_
    exact rowsE_nil
  intro vs w11 hx hF hE
  have ef := toldR_at hF 14 (.val (.int .i64 12)) (by decide) (by kernel_rfl) (by kernel_rfl)
  simp only [FactB.val] at ef
  obtain ⟨PV, akV, ckV, ahV, chV, ep, _, hrow⟩ := hE
  simp only [List.length_cons, List.length_nil, actsTo, if_true, dstOf, List.getElem?_toArray, List.getElem?_cons_succ, List.getElem?_cons_zero, Option.bind_some, Act.put, List.setIfInBounds_toArray, List.set_cons_zero, List.set_cons_succ]
  simp only [ef, ep]
  clear hF
  generalize vs 0 = yV0 at ⊢
  generalize vs 1 = yV1 at ⊢
  generalize vs 2 = yV2 at ⊢
  generalize vs 3 = yV3 at ⊢
  generalize vs 4 = yV4 at ⊢
  generalize vs 5 = yV5 at ⊢
  generalize vs 6 = yV6 at ⊢
  generalize vs 7 = yV7 at ⊢
  generalize vs 8 = yV8 at ⊢
  generalize vs 9 = yV9 at ⊢
  generalize vs 10 = yV10 at ⊢
  generalize vs 11 = yV11 at ⊢
  clear ef ep
  have HPZ7 : Hid (w11.heap[PZ]? = some (.cells #[.slice akZ 0 ckZ, .slice ahZ 0 chZ] 30 (0, 0))) := (Below.block hx PZ (lt_of_block HPZ.out)).trans HPZ.out
  have HB11 := hidden (HBx.out.trans (Below.mono hx HBx.out.size))
  obtain ⟨q0, q1⟩ := cells2' HPZ7.out
  obtain ⟨q2, q3⟩ := cells2' hrow
  clear hx hrow HCx HMsg HBx vs HPZ HPZ7 HSrc HSrm HLL HLK HW HCap HMo HKC' HKS'
  go_wp2_with fail
  refine (HKn.out w11 HB11.out).mono ?_
  rintro e w12 ⟨rfl, hb12⟩
  have HB12 := hidden (HB11.out.trans (hb12.mono HB11.out.size))
  clear hb12
  go_wp2
  go_ret
  exact ⟨rfl, HB12.out⟩
end Go.Proofs.YtookapglookphaaDoor
