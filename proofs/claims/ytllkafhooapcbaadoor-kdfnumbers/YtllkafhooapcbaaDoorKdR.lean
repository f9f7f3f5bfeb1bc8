/- The walk of the law KdfGrows. -/
import Derived.Test.YtllkafhooapcbaaDoorKdP
import Derived.Test.YtllkafhooapcbaaDoorKdQ
namespace Go.Proofs.YtllkafhooapcbaaDoor
open Go Go.RowKit

theorem bare_noughts (q : Nat) (k : List UInt8) : bare (List.replicate q 0 ++ k) = bare k := by
  induction q with
  | zero => simp
  | succ q ih => rw [List.replicate_succ, List.cons_append, bare, if_pos rfl, ih]
theorem mp_noughts (q : Nat) (k : List UInt8) : mpBytes (List.replicate q 0 ++ k) = mpBytes k := by
  unfold mpBytes
  rw [bare_noughts]
theorem keyTo_front (A T : List UInt8) (i j : Nat) (h : i ≤ j) : (keyTo A T j).take (32 * i) = keyTo A T i := by
  induction j with
  | zero =>
    obtain rfl : i = 0 := by omega
    rfl
  | succ j ih =>
    by_cases e : i = j + 1
    · subst e
      rw [List.take_of_length_le (by rw [keyTo_length]; omega)]
    · rw [keyTo_succ, List.take_append_of_le_length (by rw [keyTo_length]; omega), ih (by omega)]
theorem derive_front (k h : List UInt8) (letter : UInt8) (id : List UInt8) (a b : Nat) (hb : b ≤ a) : (deriveL k h letter id a).take b = deriveL k h letter id b := by
  unfold deriveL
  rw [List.take_take, Nat.min_eq_left hb, ← keyTo_front _ _ ((b + 31) / 32) ((a + 31) / 32) (by omega), List.take_take, Nat.min_eq_left (by omega)]
theorem derive_noughts (q : Nat) (k h : List UInt8) (letter : UInt8) (id : List UInt8) (n : Nat) : deriveL (List.replicate q 0 ++ k) h letter id n = deriveL k h letter id n := by
  unfold deriveL
  rw [mp_noughts]
theorem derive_one (k h : List UInt8) (letter : UInt8) (id : List UInt8) : deriveL k h letter id 32 = sumL (mpBytes k ++ h ++ letter :: id) := by
  unfold deriveL
  rw [show (32 + 31) / 32 = 1 from rfl, keyTo, List.take_of_length_le (by rw [sumL_length]; omega)]
theorem derive_moved (k h : List UInt8) (letter : UInt8) (id : List UInt8) : deriveL k (h ++ [letter] ++ id) 0 [] 32 = deriveL k h letter (id ++ [0]) 32 := by
  rw [derive_one, derive_one]
  congr 1
  simp
theorem BSl.head2 {w : World} {ao : Option Addr} {n m cap : Nat} {xs : List UInt8} (h : BSl w (.slice ao n cap) xs) (hm : m ≤ n) : BSl w (.slice ao m cap) (xs.take m) := by
  have h1 := h.capLe
  rw [h1.1] at h
  exact h.head' (by omega)
theorem Own.lit0 (w : World) : Own w (w.alloc (.cells #[] 5)) (.slice (some ⟨w.heap.size, 0, none⟩) 0 0) [] := ⟨own_empty w, (Below.refl _ w).alloc (by omega) _⟩
theorem DTold.ok {w w' : World} {k h : List UInt8} {letter : UInt8} {id : List UInt8} {n : Nat} {e : Ending} (hT : DTold w k h letter id n e w') (hn : n ≤ 256) : Below w.heap.size w w' ∧ ∃ ao cap, e = .returned (.tuple #[.slice ao n cap, .int .i64 0]) ∧ BSl w' (.slice ao n cap) (deriveL k h letter id n) := by
  obtain ⟨hb, ⟨h1, h2, v, rfl, hv⟩ | ⟨h1, _⟩⟩ := hT
  · rw [Int.toNat_natCast] at hv
    obtain ⟨ao, cap, rfl⟩ := hv.len
    rw [deriveL_length] at hv ⊢
    exact ⟨hb, ao, cap, rfl, hv⟩
  · omega
/-- Slicing from the front. -/
theorem run_front (ao : Option Addr) (n m cap : Nat) (hm : m ≤ cap) (w : World) : (Instr.sliceAt 22 (.slice ao n cap) none (some (.int .i64 (m : Nat))) none).run Tryd.prog w = .ok (.slice ao m cap) w := by
  obtain ⟨i0, hi, _, _, _⟩ := info_parts Tryd.infoU8
  simp [Instr.sliceAt, Instr.slice, run_underlying Tryd.underlying22, Instr.sliceBounds, Instr.sliceBound, asIntOf, sizeOf, typeInfo, hi, Addr.add]
  intro h
  omega

set_option maxHeartbeats 3200000 in
set_option maxRecDepth 100000 in
theorem kdfGrows_c (v0 v1 v2 : Value) (z0 z1 z2 : List UInt8) (letter : UInt8) (a b n : Int) (w : World) (hr : Rw w) (h0 : BSl w v0 z0) (h1 : BSl w v1 z1) (h2 : BSl w v2 z2) :
    Calls Tryd.prog 5 #[v0, v1, v2, .int .u8 letter.toNat, .int .i64 a, .int .i64 b, .int .i64 n] w fun e w' => e = .returned (.bool true) ∧ Below w.heap.size w w' := by
  obtain ⟨i0, hi, hz0, hz1, hz2⟩ := info_parts Tryd.infoU8
  have HR0 := hidden hr
  have H0 := hidden h0
  have H1 := hidden h1
  have H2 := hidden h2
  obtain ⟨a0, n0, rfl⟩ := h0.len
  obtain ⟨a1, n1, rfl⟩ := h1.len
  obtain ⟨a2, n2, rfl⟩ := h2.len
  clear h0 h1 h2 hr
  go_enter Tryd.func5, Tryd.ntmps5
  go_wp2_with fail
  refine (cut_c 60 (by omega) _ z0 _ H0.out).mono ?_
  rintro e w' ⟨vK, rfl, hk, _, hw⟩
  subst hw
  have hlK : (z0.take 60).length ≤ 60 := by simp; omega
  generalize z0.take 60 = K at hk hlK
  obtain ⟨aK, cK, rfl⟩ := hk.len
  have HK := hidden hk
  clear hk H0
  go_wp2_with fail
  refine (cut_c 60 (by omega) _ z1 _ H1.out).mono ?_
  rintro e w' ⟨vG, rfl, hk, _, hw⟩
  subst hw
  have hlG : (z1.take 60).length ≤ 60 := by simp; omega
  generalize z1.take 60 = G at hk hlG
  obtain ⟨aG, cG, rfl⟩ := hk.len
  have HG := hidden hk
  clear hk H1
  go_wp2_with fail
  refine (cut_c 60 (by omega) _ z2 _ H2.out).mono ?_
  rintro e w' ⟨vI, rfl, hk, _, hw⟩
  subst hw
  have hlI : (z2.take 60).length ≤ 60 := by simp; omega
  generalize z2.take 60 = I at hk hlI
  obtain ⟨aI, cI, rfl⟩ := hk.len
  have HI := hidden hk
  clear hk H2
  go_wp2_with fail
  refine (within_x a 256 (by omega) _).mono ?_
  rintro e w1 ⟨rfl, rfl⟩
  have hA := wn_le a 256
  generalize wn a 256 = A at hA ⊢
  go_wp2_with fail
  refine (within_x b A (by omega) _).mono ?_
  rintro e w ⟨rfl, rfl⟩
  have hBA := wn_le b A
  generalize wn b A = B at hBA ⊢
  go_wp2_with fail
  refine (Derive_c _ _ _ K G I letter (A : Nat) (by omega) (by omega) (by omega) w HR0.out HK.out HG.out HI.out).mono ?_
  rintro e w2 hT
  obtain ⟨hb2, ax, cx, rfl, hx⟩ := hT.ok hA
  have HX2 := hidden hx
  have HB2 := hidden hb2
  clear hT hx hb2
  go_wp2_with fail
  refine (within_x n 9 (by omega) _).mono ?_
  rintro e w3 ⟨rfl, rfl⟩
  have hQ := wn_le n 9
  generalize wn n 9 = q at hQ ⊢
  go_wp2_with (refine wpList_make_full _ rfl (.tmp 45) (.tmp 45) 22 rfl w3.heap.size 5 i0 _ 1 Tryd.underlying22 hi hz0 hz1 .i64 .i64 _ _ q rfl rfl (by omega) (by omega) (by rw [hz2]; omega) (by unfold maxLen; omega) (Nat.le_refl _) ?_)
  intro w4 ho4 hgr4
  have O4 : Hid (Own w3 w4 (.slice (some ⟨w3.heap.size, 0, none⟩) q q) (List.replicate q 0)) := by
    refine ⟨?_, (Below.refl _ w3).grown hgr4 (by simp) (by simp)⟩
    rw [List.length_replicate]
    have e : bcells (List.replicate q 0) = (madeCells #[Value.int .u8 0] q).toList := by rw [toList_madeCells_one]; simp [bcells]
    rw [e]
    simpa using ho4
  have HRq : Hid ((List.replicate q (0 : UInt8)).length = q) := List.length_replicate
  have S4 := hidden ((HK.out.fresh HB2.out).fresh O4.out.b).src
  clear ho4 hgr4 hi hz0 hz1 hz2
  have HDN := hidden (derive_noughts q K G letter I B)
  generalize List.replicate q (0 : UInt8) = Zq at O4 HRq HDN
  go_wp2_with (at_builtin; (refine wpList_own _ rfl (.tmp 46) (.tmp 47) 22 rfl w3 _ Zq rfl O4.out _ K rfl S4.out ?hl ?_))
  case hl => rw [HRq.out]; omega
  intro v5 w5 o5 _ _
  have O5 := hidden o5
  clear o5 O4 S4
  have HB5 := hidden (HB2.out.trans (O5.out.b.mono HB2.out.size))
  go_wp2_with fail
  refine (Derive_c _ _ _ (Zq ++ K) G I letter (B : Nat) (by rw [List.length_append, HRq.out]; omega) (by omega) (by omega) w5 (HR0.out.fresh HB5.out) O5.out.bsl (HG.out.fresh HB5.out) (HI.out.fresh HB5.out)).mono ?_
  rintro e w6 hT
  obtain ⟨hb6, ay, cy, rfl, hy⟩ := hT.ok (by omega)
  rw [HDN.out] at hy
  have HY6 := hidden hy
  have HX6 := hidden ((HX2.out.fresh O5.out.b).fresh hb6)
  have HB6 := hidden (HB5.out.trans (hb6.mono HB5.out.size))
  clear hT hy hb6 HB5 O5 HX2 HB2 HDN
  go_wp2_with (first
    | (at_builtin; (refine wpList_own _ rfl (.tmp 58) (.tmp 59) 22 rfl w6 _ [] rfl (Own.lit0 w6) _ G rfl ((HG.out.fresh HB6.out).alloc _).src (by simp; omega) ?_)))
  intro v7 w7 o7 _ _
  have O7 : Hid (Own w6 w7 v7 G) := o7
  clear o7
  go_wp2_with (first
    | (at_builtin; (refine wpList_own _ rfl (.tmp 60) (.tmp 62) 22 rfl w6 _ G rfl (O7.out.alloc _) _ [letter] rfl (src_lit [letter]) (by simp; omega) ?_)))
  intro v8 w8 o8 _ _
  have O8 := hidden o8
  have S8 := hidden ((HI.out.fresh HB6.out).fresh o8.b).src
  clear o8 O7
  have HGl : Hid ((G ++ [letter]).length ≤ 61) := by show _ ≤ _; simp; omega
  generalize hGL : G ++ [letter] = GL at O8 HGl
  go_wp2_with (first
    | (at_builtin; (refine wpList_own _ rfl (.tmp 63) (.tmp 64) 22 rfl w6 _ GL rfl O8.out _ I rfl S8.out (by have := HGl.out; omega) ?_)))
  intro v9 w9 o9 _ _
  have O9 := hidden o9
  clear o9 O8 S8
  have HB9 := hidden (HB6.out.trans (O9.out.b.mono HB6.out.size))
  have HGL := hidden hGL
  clear hGL
  go_wp2_with fail
  refine (Derive_c _ _ _ K (GL ++ I) [] 0 ((32 : Nat) : Int) (by omega) (by rw [List.length_append]; have := HGl.out; omega) (by simp) w9 (HR0.out.fresh HB9.out) (HK.out.fresh HB9.out) O9.out.bsl (BSl.ofRow (World.ownsRow_nil w9 0 5 1))).mono ?_
  rintro e w10 hT
  obtain ⟨hb10, ao, co, rfl, ho⟩ := hT.ok (by omega)
  have HO10 := hidden ho
  have HX10 := hidden ((HX6.out.fresh O9.out.b).fresh hb10)
  have HY10 := hidden ((HY6.out.fresh O9.out.b).fresh hb10)
  have HB10 := hidden (HB9.out.trans (hb10.mono HB9.out.size))
  clear hT ho hb10 O9 HB9 HB6 HX6 HY6
  go_wp2_with (first
    | (at_builtin; (refine wpList_own _ rfl (.tmp 73) (.tmp 74) 22 rfl w10 _ [] rfl (Own.lit0 w10) _ I rfl ((HI.out.fresh HB10.out).alloc _).src (by simp; omega) ?_)))
  intro v11 w11 o11 _ _
  have O11 : Hid (Own w10 w11 v11 I) := o11
  clear o11
  go_wp2_with (first
    | (at_builtin; (refine wpList_own _ rfl (.tmp 75) (.tmp 76) 22 rfl w10 _ I rfl (O11.out.alloc _) _ [0] rfl (src_lit [0]) (by simp; omega) ?_)))
  intro v12 w12 o12 _ _
  have O12 := hidden o12
  clear o12 O11
  have HB12 := hidden (HB10.out.trans (O12.out.b.mono HB10.out.size))
  have HIl : Hid ((I ++ [0]).length ≤ 61) := by show _ ≤ _; simp; omega
  have HDM := hidden (derive_moved K G letter I)
  generalize I ++ [0] = J at O12 HIl HDM
  go_wp2_with fail
  refine (Derive_c _ _ _ K G J letter ((32 : Nat) : Int) (by omega) (by omega) (by have := HIl.out; omega) w12 (HR0.out.fresh HB12.out) (HK.out.fresh HB12.out) (HG.out.fresh HB12.out) O12.out.bsl).mono ?_
  rintro e w13 hT
  obtain ⟨hb13, at', ct, rfl, ht⟩ := hT.ok (by omega)
  have HT := hidden ht
  have HX := hidden ((HX10.out.fresh O12.out.b).fresh hb13)
  have HY := hidden ((HY10.out.fresh O12.out.b).fresh hb13)
  have HO := hidden ((HO10.out.fresh O12.out.b).fresh hb13)
  have HBZ := hidden (HB12.out.trans (hb13.mono HB12.out.size))
  have HR := hidden (HR0.out.fresh HBZ.out)
  have HE1 := hidden (derive_front K G letter I A B hBA)
  have HE2 : Hid (deriveL K (GL ++ I) 0 [] 32 = deriveL K G letter J 32) := by show _ = _; rw [← HGL.out]; exact HDM.out
  have hcx := HX.out.capLe
  have HSl : Hid (∀ w', (Instr.sliceAt 22 (.slice ax A cx) none (some (.int .i64 (B : Nat))) none).run Tryd.prog w' = .ok (.slice ax B cx) w') := fun w' => run_front ax A B cx (by omega) w'
  have HHX := hidden hcx
  clear hT ht hb13 O12 HB12 HB10 HX10 HY10 HO10 HK HG HI HR0 hcx
  generalize deriveL K G letter I A = X at HX HE1 HHX
  generalize deriveL K G letter I B = Y at HY HE1
  generalize deriveL K (GL ++ I) 0 [] 32 = O1 at HO HE2
  generalize deriveL K G letter J 32 = O2 at HT HE2
  clear HHX
  go_wp2_with fail
  refine region_free [(.val (.int .i64 0)), (.val (.bool true)), (.val (.bool true)), (.val (.int .i64 0)), (.val (.bool true)), (.val (.bool true)), (.val (.bool true)), (.val (.int .i64 0)), (.val (.bool true)), (.val (.bool true)), (.val (.bool true)), (.val (.int .i64 0)), (.val (.bool true)), (.val (.bool true)), (.val (.bool true)), (.val (.slice ax A cx)), (.val (.int .i64 (A : Nat))), (.val (.int .i64 (A : Nat))), (.val (.bool true)), (.val (.bool true)), (.val (.bool true)), (.val (.slice ax A cx)), (.val (.int .i64 (B : Nat))), (.val (.slice ax B cx)), (.val (.string ⟨(List.toArray (X.take B))⟩)), (.val (.slice ay B cy)), (.val (.string ⟨(List.toArray Y)⟩)), (.val (.bool true)), (.val (.bool true)), (.val (.bool true)), (.val (.slice ao 32 co)), (.val (.string ⟨(List.toArray O1)⟩)), (.val (.slice at' 32 ct)), (.val (.string ⟨(List.toArray O2)⟩)), (.val (.bool true)), (.val (.bool true)), (.val (.bool true)), (.val (.bool true)), (.val (.bool true)), (.val (.bool true))] (by kernel_rfl) ?_ ?_
  · refine req_cons (.val (.int .i64 0)) (by kernel_rfl) (fun vs w1 he hd => StepG.plain (by kernel_rfl) (gives_move (x := (.tmp 16)) (v := (.int .i64 0)) (by kernel_rfl) (by kernel_rfl) ⟨Ex.refl _, rfl⟩)) ?_
    refine req_cons (.val (.bool true)) (by kernel_rfl) (fun vs w1 he hd => StepG.plain (by kernel_rfl) (gives_eqI (t := 26) (k := .i64) (a := 0) (b := 0) (x := (.tmp 81)) (y := (.const (.int .i64 0))) (r := true) (by kernel_rfl) (Eq.trans (b := vs 0) (by kernel_rfl) (hd 0 (.val (.int .i64 0)) (by kernel_rfl) (by kernel_rfl))) (by kernel_rfl) (by simp) ⟨Ex.refl _, rfl⟩)) ?_
    refine req_cons (.val (.bool true)) (by kernel_rfl) (fun vs w1 he hd => StepG.plain (by kernel_rfl) (gives_move (x := (.tmp 82)) (v := (.bool true)) (by kernel_rfl) (Eq.trans (b := vs 1) (by kernel_rfl) (hd 1 (.val (.bool true)) (by kernel_rfl) (by kernel_rfl))) ⟨Ex.refl _, rfl⟩)) ?_
    refine req_cons (.val (.int .i64 0)) (by kernel_rfl) (fun vs w1 he hd => StepG.on (g := 2) (d := 83) (x := true) (v := vs 2) (by kernel_rfl) (by kernel_rfl) (by kernel_rfl) (hd 2 (.val (.bool true)) (by kernel_rfl) (by kernel_rfl)) (gives_move (x := (.tmp 18)) (v := (.int .i64 0)) (by kernel_rfl) (by kernel_rfl) ⟨Ex.refl _, rfl⟩)) ?_
    refine req_cons (.val (.bool true)) (by kernel_rfl) (fun vs w1 he hd => StepG.on (g := 2) (d := 83) (x := true) (v := vs 2) (by kernel_rfl) (by kernel_rfl) (by kernel_rfl) (hd 2 (.val (.bool true)) (by kernel_rfl) (by kernel_rfl)) (gives_eqI (t := 26) (k := .i64) (a := 0) (b := 0) (x := (.tmp 84)) (y := (.const (.int .i64 0))) (r := true) (by kernel_rfl) (Eq.trans (b := vs 3) (by kernel_rfl) (hd 3 (.val (.int .i64 0)) (by kernel_rfl) (by kernel_rfl))) (by kernel_rfl) (by simp) ⟨Ex.refl _, rfl⟩)) ?_
    refine req_cons (.val (.bool true)) (by kernel_rfl) (fun vs w1 he hd => StepG.plain (by kernel_rfl) (gives_pick_t (x := (.tmp 83)) (y := (.tmp 85)) (z := (.const (.bool false))) (v := (.bool true)) (by kernel_rfl) (Eq.trans (b := vs 2) (by kernel_rfl) (hd 2 (.val (.bool true)) (by kernel_rfl) (by kernel_rfl))) (Eq.trans (b := vs 4) (by kernel_rfl) (hd 4 (.val (.bool true)) (by kernel_rfl) (by kernel_rfl))) ⟨Ex.refl _, rfl⟩)) ?_
    refine req_cons (.val (.bool true)) (by kernel_rfl) (fun vs w1 he hd => StepG.plain (by kernel_rfl) (gives_move (x := (.tmp 86)) (v := (.bool true)) (by kernel_rfl) (Eq.trans (b := vs 5) (by kernel_rfl) (hd 5 (.val (.bool true)) (by kernel_rfl) (by kernel_rfl))) ⟨Ex.refl _, rfl⟩)) ?_
    refine req_cons (.val (.int .i64 0)) (by kernel_rfl) (fun vs w1 he hd => StepG.on (g := 6) (d := 87) (x := true) (v := vs 6) (by kernel_rfl) (by kernel_rfl) (by kernel_rfl) (hd 6 (.val (.bool true)) (by kernel_rfl) (by kernel_rfl)) (gives_move (x := (.tmp 20)) (v := (.int .i64 0)) (by kernel_rfl) (by kernel_rfl) ⟨Ex.refl _, rfl⟩)) ?_
    refine req_cons (.val (.bool true)) (by kernel_rfl) (fun vs w1 he hd => StepG.on (g := 6) (d := 87) (x := true) (v := vs 6) (by kernel_rfl) (by kernel_rfl) (by kernel_rfl) (hd 6 (.val (.bool true)) (by kernel_rfl) (by kernel_rfl)) (gives_eqI (t := 26) (k := .i64) (a := 0) (b := 0) (x := (.tmp 88)) (y := (.const (.int .i64 0))) (r := true) (by kernel_rfl) (Eq.trans (b := vs 7) (by kernel_rfl) (hd 7 (.val (.int .i64 0)) (by kernel_rfl) (by kernel_rfl))) (by kernel_rfl) (by simp) ⟨Ex.refl _, rfl⟩)) ?_
    refine req_cons (.val (.bool true)) (by kernel_rfl) (fun vs w1 he hd => StepG.plain (by kernel_rfl) (gives_pick_t (x := (.tmp 87)) (y := (.tmp 89)) (z := (.const (.bool false))) (v := (.bool true)) (by kernel_rfl) (Eq.trans (b := vs 6) (by kernel_rfl) (hd 6 (.val (.bool true)) (by kernel_rfl) (by kernel_rfl))) (Eq.trans (b := vs 8) (by kernel_rfl) (hd 8 (.val (.bool true)) (by kernel_rfl) (by kernel_rfl))) ⟨Ex.refl _, rfl⟩)) ?_
    refine req_cons (.val (.bool true)) (by kernel_rfl) (fun vs w1 he hd => StepG.plain (by kernel_rfl) (gives_move (x := (.tmp 90)) (v := (.bool true)) (by kernel_rfl) (Eq.trans (b := vs 9) (by kernel_rfl) (hd 9 (.val (.bool true)) (by kernel_rfl) (by kernel_rfl))) ⟨Ex.refl _, rfl⟩)) ?_
    refine req_cons (.val (.int .i64 0)) (by kernel_rfl) (fun vs w1 he hd => StepG.on (g := 10) (d := 91) (x := true) (v := vs 10) (by kernel_rfl) (by kernel_rfl) (by kernel_rfl) (hd 10 (.val (.bool true)) (by kernel_rfl) (by kernel_rfl)) (gives_move (x := (.tmp 22)) (v := (.int .i64 0)) (by kernel_rfl) (by kernel_rfl) ⟨Ex.refl _, rfl⟩)) ?_
    refine req_cons (.val (.bool true)) (by kernel_rfl) (fun vs w1 he hd => StepG.on (g := 10) (d := 91) (x := true) (v := vs 10) (by kernel_rfl) (by kernel_rfl) (by kernel_rfl) (hd 10 (.val (.bool true)) (by kernel_rfl) (by kernel_rfl)) (gives_eqI (t := 26) (k := .i64) (a := 0) (b := 0) (x := (.tmp 92)) (y := (.const (.int .i64 0))) (r := true) (by kernel_rfl) (Eq.trans (b := vs 11) (by kernel_rfl) (hd 11 (.val (.int .i64 0)) (by kernel_rfl) (by kernel_rfl))) (by kernel_rfl) (by simp) ⟨Ex.refl _, rfl⟩)) ?_
    refine req_cons (.val (.bool true)) (by kernel_rfl) (fun vs w1 he hd => StepG.plain (by kernel_rfl) (gives_pick_t (x := (.tmp 91)) (y := (.tmp 93)) (z := (.const (.bool false))) (v := (.bool true)) (by kernel_rfl) (Eq.trans (b := vs 10) (by kernel_rfl) (hd 10 (.val (.bool true)) (by kernel_rfl) (by kernel_rfl))) (Eq.trans (b := vs 12) (by kernel_rfl) (hd 12 (.val (.bool true)) (by kernel_rfl) (by kernel_rfl))) ⟨Ex.refl _, rfl⟩)) ?_
    refine req_cons (.val (.bool true)) (by kernel_rfl) (fun vs w1 he hd => StepG.plain (by kernel_rfl) (gives_move (x := (.tmp 94)) (v := (.bool true)) (by kernel_rfl) (Eq.trans (b := vs 13) (by kernel_rfl) (hd 13 (.val (.bool true)) (by kernel_rfl) (by kernel_rfl))) ⟨Ex.refl _, rfl⟩)) ?_
    refine req_cons (.val (.slice ax A cx)) (by kernel_rfl) (fun vs w1 he hd => StepG.on (g := 14) (d := 95) (x := true) (v := vs 14) (by kernel_rfl) (by kernel_rfl) (by kernel_rfl) (hd 14 (.val (.bool true)) (by kernel_rfl) (by kernel_rfl)) (gives_move (x := (.tmp 15)) (v := (.slice ax A cx)) (by kernel_rfl) (by kernel_rfl) ⟨Ex.refl _, rfl⟩)) ?_
    refine req_cons (.val (.int .i64 (A : Nat))) (by kernel_rfl) (fun vs w1 he hd => StepG.on (g := 14) (d := 95) (x := true) (v := vs 14) (by kernel_rfl) (by kernel_rfl) (by kernel_rfl) (hd 14 (.val (.bool true)) (by kernel_rfl) (by kernel_rfl)) (gives_len (ty := 22) (x := (.tmp 96)) (n := A) (by kernel_rfl) (Eq.trans (b := vs 15) (by kernel_rfl) (hd 15 (.val (.slice ax A cx)) (by kernel_rfl) (by kernel_rfl))) ⟨_, Tryd.underlying22⟩ ⟨Ex.refl _, rfl⟩)) ?_
    refine req_cons (.val (.int .i64 (A : Nat))) (by kernel_rfl) (fun vs w1 he hd => StepG.on (g := 14) (d := 95) (x := true) (v := vs 14) (by kernel_rfl) (by kernel_rfl) (by kernel_rfl) (hd 14 (.val (.bool true)) (by kernel_rfl) (by kernel_rfl)) (gives_move (x := (.tmp 4)) (v := (.int .i64 (A : Nat))) (by kernel_rfl) (by kernel_rfl) ⟨Ex.refl _, rfl⟩)) ?_
    refine req_cons (.val (.bool true)) (by kernel_rfl) (fun vs w1 he hd => StepG.on (g := 14) (d := 95) (x := true) (v := vs 14) (by kernel_rfl) (by kernel_rfl) (by kernel_rfl) (hd 14 (.val (.bool true)) (by kernel_rfl) (by kernel_rfl)) (gives_eqI (t := 3) (k := .i64) (a := (A : Nat)) (b := (A : Nat)) (x := (.tmp 97)) (y := (.tmp 98)) (r := true) (by kernel_rfl) (Eq.trans (b := vs 16) (by kernel_rfl) (hd 16 (.val (.int .i64 (A : Nat))) (by kernel_rfl) (by kernel_rfl))) (Eq.trans (b := vs 17) (by kernel_rfl) (hd 17 (.val (.int .i64 (A : Nat))) (by kernel_rfl) (by kernel_rfl))) (by simp) ⟨Ex.refl _, rfl⟩)) ?_
    refine req_cons (.val (.bool true)) (by kernel_rfl) (fun vs w1 he hd => StepG.plain (by kernel_rfl) (gives_pick_t (x := (.tmp 95)) (y := (.tmp 99)) (z := (.const (.bool false))) (v := (.bool true)) (by kernel_rfl) (Eq.trans (b := vs 14) (by kernel_rfl) (hd 14 (.val (.bool true)) (by kernel_rfl) (by kernel_rfl))) (Eq.trans (b := vs 18) (by kernel_rfl) (hd 18 (.val (.bool true)) (by kernel_rfl) (by kernel_rfl))) ⟨Ex.refl _, rfl⟩)) ?_
    refine req_cons (.val (.bool true)) (by kernel_rfl) (fun vs w1 he hd => StepG.plain (by kernel_rfl) (gives_move (x := (.tmp 100)) (v := (.bool true)) (by kernel_rfl) (Eq.trans (b := vs 19) (by kernel_rfl) (hd 19 (.val (.bool true)) (by kernel_rfl) (by kernel_rfl))) ⟨Ex.refl _, rfl⟩)) ?_
    refine req_cons (.val (.slice ax A cx)) (by kernel_rfl) (fun vs w1 he hd => StepG.on (g := 20) (d := 101) (x := true) (v := vs 20) (by kernel_rfl) (by kernel_rfl) (by kernel_rfl) (hd 20 (.val (.bool true)) (by kernel_rfl) (by kernel_rfl)) (gives_move (x := (.tmp 15)) (v := (.slice ax A cx)) (by kernel_rfl) (by kernel_rfl) ⟨Ex.refl _, rfl⟩)) ?_
    refine req_cons (.val (.int .i64 (B : Nat))) (by kernel_rfl) (fun vs w1 he hd => StepG.on (g := 20) (d := 101) (x := true) (v := vs 20) (by kernel_rfl) (by kernel_rfl) (by kernel_rfl) (hd 20 (.val (.bool true)) (by kernel_rfl) (by kernel_rfl)) (gives_move (x := (.tmp 5)) (v := (.int .i64 (B : Nat))) (by kernel_rfl) (by kernel_rfl) ⟨Ex.refl _, rfl⟩)) ?_
    refine req_cons (.val (.slice ax B cx)) (by kernel_rfl) (fun vs w1 he hd => StepG.on (g := 20) (d := 101) (x := true) (v := vs 20) (by kernel_rfl) (by kernel_rfl) (by kernel_rfl) (hd 20 (.val (.bool true)) (by kernel_rfl) (by kernel_rfl)) (gives_slice (x := .tmp 102) (lo := none) (hi := some (.tmp 103)) (mx := none) (v := .slice ax B cx) (by kernel_rfl) (by rw [show (actsTo _ _ _ vs _).eval (.tmp 102) = .slice ax A cx from Eq.trans (b := vs 21) (by kernel_rfl) (hd 21 (.val (.slice ax A cx)) (by kernel_rfl) (by kernel_rfl)), show Option.map (actsTo _ _ _ vs _).eval (some (.tmp 103)) = some (.int .i64 (B : Nat)) from congrArg some (Eq.trans (b := vs 22) (by kernel_rfl) (hd 22 (.val (.int .i64 (B : Nat))) (by kernel_rfl) (by kernel_rfl)))]; exact HSl.out _) ⟨Ex.refl _, rfl⟩)) ?_
    refine req_cons (.val (.string ⟨(List.toArray (X.take B))⟩)) (by kernel_rfl) (fun vs w1 he hd => StepG.on (g := 20) (d := 101) (x := true) (v := vs 20) (by kernel_rfl) (by kernel_rfl) (by kernel_rfl) (hd 20 (.val (.bool true)) (by kernel_rfl) (by kernel_rfl)) (gives_str (x := (.tmp 104)) (v := (.slice ax B cx)) (xs := (X.take B)) (by kernel_rfl) (Eq.trans (b := vs 23) (by kernel_rfl) (hd 23 (.val (.slice ax B cx)) (by kernel_rfl) (by kernel_rfl))) (((HX.out.head2 hBA).fresh he)) ⟨Ex.refl _, rfl⟩)) ?_
    refine req_cons (.val (.slice ay B cy)) (by kernel_rfl) (fun vs w1 he hd => StepG.on (g := 20) (d := 101) (x := true) (v := vs 20) (by kernel_rfl) (by kernel_rfl) (by kernel_rfl) (hd 20 (.val (.bool true)) (by kernel_rfl) (by kernel_rfl)) (gives_move (x := (.tmp 17)) (v := (.slice ay B cy)) (by kernel_rfl) (by kernel_rfl) ⟨Ex.refl _, rfl⟩)) ?_
    refine req_cons (.val (.string ⟨(List.toArray Y)⟩)) (by kernel_rfl) (fun vs w1 he hd => StepG.on (g := 20) (d := 101) (x := true) (v := vs 20) (by kernel_rfl) (by kernel_rfl) (by kernel_rfl) (hd 20 (.val (.bool true)) (by kernel_rfl) (by kernel_rfl)) (gives_str (x := (.tmp 106)) (v := (.slice ay B cy)) (xs := Y) (by kernel_rfl) (Eq.trans (b := vs 25) (by kernel_rfl) (hd 25 (.val (.slice ay B cy)) (by kernel_rfl) (by kernel_rfl))) ((HY.out.fresh he)) ⟨Ex.refl _, rfl⟩)) ?_
    refine req_cons (.val (.bool true)) (by kernel_rfl) (fun vs w1 he hd => StepG.on (g := 20) (d := 101) (x := true) (v := vs 20) (by kernel_rfl) (by kernel_rfl) (by kernel_rfl) (hd 20 (.val (.bool true)) (by kernel_rfl) (by kernel_rfl)) (gives_eqS (x := (.tmp 105)) (y := (.tmp 107)) (xs := (X.take B)) (ys := Y) (r := true) (by kernel_rfl) (Eq.trans (b := vs 24) (by kernel_rfl) (hd 24 (.val (.string ⟨(List.toArray (X.take B))⟩)) (by kernel_rfl) (by kernel_rfl))) (Eq.trans (b := vs 26) (by kernel_rfl) (hd 26 (.val (.string ⟨(List.toArray Y)⟩)) (by kernel_rfl) (by kernel_rfl))) (by rw [HE1.out]; simp) ⟨Ex.refl _, rfl⟩)) ?_
    refine req_cons (.val (.bool true)) (by kernel_rfl) (fun vs w1 he hd => StepG.plain (by kernel_rfl) (gives_pick_t (x := (.tmp 101)) (y := (.tmp 108)) (z := (.const (.bool false))) (v := (.bool true)) (by kernel_rfl) (Eq.trans (b := vs 20) (by kernel_rfl) (hd 20 (.val (.bool true)) (by kernel_rfl) (by kernel_rfl))) (Eq.trans (b := vs 27) (by kernel_rfl) (hd 27 (.val (.bool true)) (by kernel_rfl) (by kernel_rfl))) ⟨Ex.refl _, rfl⟩)) ?_
    refine req_cons (.val (.bool true)) (by kernel_rfl) (fun vs w1 he hd => StepG.plain (by kernel_rfl) (gives_move (x := (.tmp 109)) (v := (.bool true)) (by kernel_rfl) (Eq.trans (b := vs 28) (by kernel_rfl) (hd 28 (.val (.bool true)) (by kernel_rfl) (by kernel_rfl))) ⟨Ex.refl _, rfl⟩)) ?_
    refine req_cons (.val (.slice ao 32 co)) (by kernel_rfl) (fun vs w1 he hd => StepG.on (g := 29) (d := 110) (x := true) (v := vs 29) (by kernel_rfl) (by kernel_rfl) (by kernel_rfl) (hd 29 (.val (.bool true)) (by kernel_rfl) (by kernel_rfl)) (gives_move (x := (.tmp 19)) (v := (.slice ao 32 co)) (by kernel_rfl) (by kernel_rfl) ⟨Ex.refl _, rfl⟩)) ?_
    refine req_cons (.val (.string ⟨(List.toArray O1)⟩)) (by kernel_rfl) (fun vs w1 he hd => StepG.on (g := 29) (d := 110) (x := true) (v := vs 29) (by kernel_rfl) (by kernel_rfl) (by kernel_rfl) (hd 29 (.val (.bool true)) (by kernel_rfl) (by kernel_rfl)) (gives_str (x := (.tmp 111)) (v := (.slice ao 32 co)) (xs := O1) (by kernel_rfl) (Eq.trans (b := vs 30) (by kernel_rfl) (hd 30 (.val (.slice ao 32 co)) (by kernel_rfl) (by kernel_rfl))) ((HO.out.fresh he)) ⟨Ex.refl _, rfl⟩)) ?_
    refine req_cons (.val (.slice at' 32 ct)) (by kernel_rfl) (fun vs w1 he hd => StepG.on (g := 29) (d := 110) (x := true) (v := vs 29) (by kernel_rfl) (by kernel_rfl) (by kernel_rfl) (hd 29 (.val (.bool true)) (by kernel_rfl) (by kernel_rfl)) (gives_move (x := (.tmp 21)) (v := (.slice at' 32 ct)) (by kernel_rfl) (by kernel_rfl) ⟨Ex.refl _, rfl⟩)) ?_
    refine req_cons (.val (.string ⟨(List.toArray O2)⟩)) (by kernel_rfl) (fun vs w1 he hd => StepG.on (g := 29) (d := 110) (x := true) (v := vs 29) (by kernel_rfl) (by kernel_rfl) (by kernel_rfl) (hd 29 (.val (.bool true)) (by kernel_rfl) (by kernel_rfl)) (gives_str (x := (.tmp 113)) (v := (.slice at' 32 ct)) (xs := O2) (by kernel_rfl) (Eq.trans (b := vs 32) (by kernel_rfl) (hd 32 (.val (.slice at' 32 ct)) (by kernel_rfl) (by kernel_rfl))) ((HT.out.fresh he)) ⟨Ex.refl _, rfl⟩)) ?_
    refine req_cons (.val (.bool true)) (by kernel_rfl) (fun vs w1 he hd => StepG.on (g := 29) (d := 110) (x := true) (v := vs 29) (by kernel_rfl) (by kernel_rfl) (by kernel_rfl) (hd 29 (.val (.bool true)) (by kernel_rfl) (by kernel_rfl)) (gives_eqS (x := (.tmp 112)) (y := (.tmp 114)) (xs := O1) (ys := O2) (r := true) (by kernel_rfl) (Eq.trans (b := vs 31) (by kernel_rfl) (hd 31 (.val (.string ⟨(List.toArray O1)⟩)) (by kernel_rfl) (by kernel_rfl))) (Eq.trans (b := vs 33) (by kernel_rfl) (hd 33 (.val (.string ⟨(List.toArray O2)⟩)) (by kernel_rfl) (by kernel_rfl))) (by rw [HE2.out]; simp) ⟨Ex.refl _, rfl⟩)) ?_
    refine req_cons (.val (.bool true)) (by kernel_rfl) (fun vs w1 he hd => StepG.plain (by kernel_rfl) (gives_pick_t (x := (.tmp 110)) (y := (.tmp 115)) (z := (.const (.bool false))) (v := (.bool true)) (by kernel_rfl) (Eq.trans (b := vs 29) (by kernel_rfl) (hd 29 (.val (.bool true)) (by kernel_rfl) (by kernel_rfl))) (Eq.trans (b := vs 34) (by kernel_rfl) (hd 34 (.val (.bool true)) (by kernel_rfl) (by kernel_rfl))) ⟨Ex.refl _, rfl⟩)) ?_
    refine req_cons (.val (.bool true)) (by kernel_rfl) (fun vs w1 he hd => StepG.plain (by kernel_rfl) (gives_move (x := (.tmp 116)) (v := (.bool true)) (by kernel_rfl) (Eq.trans (b := vs 35) (by kernel_rfl) (hd 35 (.val (.bool true)) (by kernel_rfl) (by kernel_rfl))) ⟨Ex.refl _, rfl⟩)) ?_
    refine req_cons (.val (.bool true)) (by kernel_rfl) (fun vs w1 he hd => StepG.on (g := 36) (d := 117) (x := true) (v := vs 36) (by kernel_rfl) (by kernel_rfl) (by kernel_rfl) (hd 36 (.val (.bool true)) (by kernel_rfl) (by kernel_rfl)) (gives_call (f := 15) (xs := #[]) (ts := #[]) (vs := #[]) (by kernel_rfl) (by kernel_rfl) (by kernel_rfl) Tryd.func15 (by kernel_rfl) (by kernel_rfl) (told_true (known_c _ (HR.out.fresh he))))) ?_
    refine req_cons (.val (.bool true)) (by kernel_rfl) (fun vs w1 he hd => StepG.plain (by kernel_rfl) (gives_pick_t (x := (.tmp 117)) (y := (.tmp 118)) (z := (.const (.bool false))) (v := (.bool true)) (by kernel_rfl) (Eq.trans (b := vs 36) (by kernel_rfl) (hd 36 (.val (.bool true)) (by kernel_rfl) (by kernel_rfl))) (Eq.trans (b := vs 37) (by kernel_rfl) (hd 37 (.val (.bool true)) (by kernel_rfl) (by kernel_rfl))) ⟨Ex.refl _, rfl⟩)) ?_
    refine req_cons (.val (.bool true)) (by kernel_rfl) (fun vs w1 he hd => StepG.plain (by kernel_rfl) (gives_assign (x := (.tmp 119)) (v := (.bool true)) (by kernel_rfl) (Eq.trans (b := vs 38) (by kernel_rfl) (hd 38 (.val (.bool true)) (by kernel_rfl) (by kernel_rfl))) ⟨Ex.refl _, rfl⟩)) ?_
    exact req_nil
  intro vs wz hx hF
  have e0 : vs 0 = (.int .i64 0) := told_at hF 0 (.val (.int .i64 0)) (by decide) (by kernel_rfl)
  have e1 : vs 1 = (.bool true) := told_at hF 1 (.val (.bool true)) (by decide) (by kernel_rfl)
  have e2 : vs 2 = (.bool true) := told_at hF 2 (.val (.bool true)) (by decide) (by kernel_rfl)
  have e3 : vs 3 = (.int .i64 0) := told_at hF 3 (.val (.int .i64 0)) (by decide) (by kernel_rfl)
  have e4 : vs 4 = (.bool true) := told_at hF 4 (.val (.bool true)) (by decide) (by kernel_rfl)
  have e5 : vs 5 = (.bool true) := told_at hF 5 (.val (.bool true)) (by decide) (by kernel_rfl)
  have e6 : vs 6 = (.bool true) := told_at hF 6 (.val (.bool true)) (by decide) (by kernel_rfl)
  have e7 : vs 7 = (.int .i64 0) := told_at hF 7 (.val (.int .i64 0)) (by decide) (by kernel_rfl)
  have e8 : vs 8 = (.bool true) := told_at hF 8 (.val (.bool true)) (by decide) (by kernel_rfl)
  have e9 : vs 9 = (.bool true) := told_at hF 9 (.val (.bool true)) (by decide) (by kernel_rfl)
  have e10 : vs 10 = (.bool true) := told_at hF 10 (.val (.bool true)) (by decide) (by kernel_rfl)
  have e11 : vs 11 = (.int .i64 0) := told_at hF 11 (.val (.int .i64 0)) (by decide) (by kernel_rfl)
  have e12 : vs 12 = (.bool true) := told_at hF 12 (.val (.bool true)) (by decide) (by kernel_rfl)
  have e13 : vs 13 = (.bool true) := told_at hF 13 (.val (.bool true)) (by decide) (by kernel_rfl)
  have e14 : vs 14 = (.bool true) := told_at hF 14 (.val (.bool true)) (by decide) (by kernel_rfl)
  have e15 : vs 15 = (.slice ax A cx) := told_at hF 15 (.val (.slice ax A cx)) (by decide) (by kernel_rfl)
  have e16 : vs 16 = (.int .i64 (A : Nat)) := told_at hF 16 (.val (.int .i64 (A : Nat))) (by decide) (by kernel_rfl)
  have e17 : vs 17 = (.int .i64 (A : Nat)) := told_at hF 17 (.val (.int .i64 (A : Nat))) (by decide) (by kernel_rfl)
  have e18 : vs 18 = (.bool true) := told_at hF 18 (.val (.bool true)) (by decide) (by kernel_rfl)
  have e19 : vs 19 = (.bool true) := told_at hF 19 (.val (.bool true)) (by decide) (by kernel_rfl)
  have e20 : vs 20 = (.bool true) := told_at hF 20 (.val (.bool true)) (by decide) (by kernel_rfl)
  have e21 : vs 21 = (.slice ax A cx) := told_at hF 21 (.val (.slice ax A cx)) (by decide) (by kernel_rfl)
  have e22 : vs 22 = (.int .i64 (B : Nat)) := told_at hF 22 (.val (.int .i64 (B : Nat))) (by decide) (by kernel_rfl)
  have e23 : vs 23 = (.slice ax B cx) := told_at hF 23 (.val (.slice ax B cx)) (by decide) (by kernel_rfl)
  have e24 : vs 24 = (.string ⟨(List.toArray (X.take B))⟩) := told_at hF 24 (.val (.string ⟨(List.toArray (X.take B))⟩)) (by decide) (by kernel_rfl)
  have e25 : vs 25 = (.slice ay B cy) := told_at hF 25 (.val (.slice ay B cy)) (by decide) (by kernel_rfl)
  have e26 : vs 26 = (.string ⟨(List.toArray Y)⟩) := told_at hF 26 (.val (.string ⟨(List.toArray Y)⟩)) (by decide) (by kernel_rfl)
  have e27 : vs 27 = (.bool true) := told_at hF 27 (.val (.bool true)) (by decide) (by kernel_rfl)
  have e28 : vs 28 = (.bool true) := told_at hF 28 (.val (.bool true)) (by decide) (by kernel_rfl)
  have e29 : vs 29 = (.bool true) := told_at hF 29 (.val (.bool true)) (by decide) (by kernel_rfl)
  have e30 : vs 30 = (.slice ao 32 co) := told_at hF 30 (.val (.slice ao 32 co)) (by decide) (by kernel_rfl)
  have e31 : vs 31 = (.string ⟨(List.toArray O1)⟩) := told_at hF 31 (.val (.string ⟨(List.toArray O1)⟩)) (by decide) (by kernel_rfl)
  have e32 : vs 32 = (.slice at' 32 ct) := told_at hF 32 (.val (.slice at' 32 ct)) (by decide) (by kernel_rfl)
  have e33 : vs 33 = (.string ⟨(List.toArray O2)⟩) := told_at hF 33 (.val (.string ⟨(List.toArray O2)⟩)) (by decide) (by kernel_rfl)
  have e34 : vs 34 = (.bool true) := told_at hF 34 (.val (.bool true)) (by decide) (by kernel_rfl)
  have e35 : vs 35 = (.bool true) := told_at hF 35 (.val (.bool true)) (by decide) (by kernel_rfl)
  have e36 : vs 36 = (.bool true) := told_at hF 36 (.val (.bool true)) (by decide) (by kernel_rfl)
  have e37 : vs 37 = (.bool true) := told_at hF 37 (.val (.bool true)) (by decide) (by kernel_rfl)
  have e38 : vs 38 = (.bool true) := told_at hF 38 (.val (.bool true)) (by decide) (by kernel_rfl)
  have e39 : vs 39 = (.bool true) := told_at hF 39 (.val (.bool true)) (by decide) (by kernel_rfl)
  simp only [List.length_cons, List.length_nil, actsTo, if_true, dstOf, List.getElem?_toArray, List.getElem?_cons_succ, List.getElem?_cons_zero, Option.bind_some, Act.put, List.setIfInBounds_toArray, List.set_cons_zero, List.set_cons_succ]
  simp only [e0, e1, e2, e3, e4, e5, e6, e7, e8, e9, e10, e11, e12, e13, e14, e15, e16, e17, e18, e19, e20, e21, e22, e23, e24, e25, e26, e27, e28, e29, e30, e31, e32, e33, e34, e35, e36, e37, e38, e39]
  clear hF e0 e1 e2 e3 e4 e5 e6 e7 e8 e9 e10 e11 e12 e13 e14 e15 e16 e17 e18 e19 e20 e21 e22 e23 e24 e25 e26 e27 e28 e29 e30 e31 e32 e33 e34 e35 e36 e37 e38 e39 vs
  go_wp2
  go_ret
  exact ⟨rfl, HBZ.out.trans (hx.mono HBZ.out.size)⟩
end Go.Proofs.YtllkafhooapcbaaDoor
