/- The law AttrNumbers. -/
import Derived.Test.YtkbfgfpdchgjpaaAtM
namespace Go.Proofs.Ytkbfgfpdchgjpaa
open Go Go.RowKit

theorem pn_keeps {w5 w' : World} {A B : Prop} (h : A ∧ B ∧ Keeps (fun _ => False) w5 w') : Keeps (fun _ => False) w5 w' := h.2.2
def cvM : Op := Op.convert 27 9 (.tmp 19)
def cvN : Op := Op.convert 27 9 (.tmp 22)

set_option maxHeartbeats 400000 in
theorem put_nil (x : At) (w : World) : Calls Try.prog 14 #[.pointer none, x.v] w fun e w' => e = .returned (.tuple #[]) ∧ Below w.heap.size w w' := by
  unfold At.v At.cells
  go_enter Try.func14, Try.ntmps14
  go_wp2_with fail
  refine bodyPost_ret (results_none rfl _ _ _) rfl ?_
  exact ⟨rfl, (Below.refl _ w).alloc (Nat.le_refl _) _⟩

theorem lit_same (w : World) (cs : Array Value) (bs : List UInt8) (n : Nat) (hc : cs = (bcells bs).toArray) (hn : n = bs.length) (hl : bs.length ≤ 1000) :
    Calls Try.prog 13 #[.slice (some ⟨w.heap.size, 0, none⟩) n n] (w.alloc (.cells cs 5)) fun e w' => e = .returned (.bool true) ∧ Below w.heap.size w w' := by
  subst hc hn
  refine (same_c _ bs _ (bsl_lit w bs hl) (fun k e => by cases e; simp) (by omega)).mono ?_
  rintro e w' ⟨rfl, hb⟩
  exact ⟨rfl, below_alloc hb⟩

set_option maxHeartbeats 3200000 in
set_option maxRecDepth 100000 in
theorem attrNumbers_c (W : World) : Calls Try.prog 3 #[] W fun e w' => e = .returned (.bool true) ∧ Below W.heap.size W w' := by
  go_enter Try.func3, Try.ntmps3
  go_wp2_with fail
  obtain ⟨al, hal⟩ : ∃ al : At, al = ⟨0, 1099511627776, 2, 3, 4, 5, 6⟩ := ⟨_, rfl⟩
  obtain ⟨w1, hw1⟩ : ∃ V, V = W.alloc (.cells #[.int .u32 0, .int .u64 1099511627776, .int .u32 2, .int .u32 3, .int .u32 4, .int .u32 5, .int .u32 6] 25) := ⟨_, rfl⟩
  have HAL : Hid (al.Ok) := hidden (by rw [hal]; exact ⟨by decide, by decide, by decide, by decide, by decide, by decide, by decide⟩)
  have HA1 : Hid (ABox w1 W.heap.size al) := hidden (by rw [hw1, hal]; exact heap_alloc_new W _)
  have HB1 : Hid (Below W.heap.size W w1) := hidden (by rw [hw1]; exact (Below.refl _ W).alloc (Nat.le_refl _) _)
  rw [← hw1]
  obtain ⟨A, hA⟩ : ∃ A, A = W.heap.size := ⟨_, rfl⟩
  have HAN := hidden hA
  rw [← hA] at HA1 ⊢
  clear hw1 hal hA
  go_loopw [2, 3, 4, 5, 6] (fun a _ _ _ _ wr => ∃ f : Nat, f ≤ 40 ∧ a = .int .u32 (f : Int) ∧ ABox wr A al ∧ Below W.heap.size W wr) (fun a _ _ _ _ _ => 40 - (intOf a).toNat)
  case atStart => exact ⟨0, by omega, rfl, HA1.out, HB1.out⟩
  case round =>
    obtain ⟨f, hf, rfl, hal, hbl⟩ := hrel
    have HAL2 := hidden hal
    have HBL2 := hidden hbl
    clear hal hbl HA1 HB1
    by_cases hf40 : f < 40
    · have i1 : (f : Int) < 40 := by omega
      obtain ⟨k0, k1, k2, k3, k4, k5, k6, kf⟩ := cells7 HAL2.out
      go_upto_region 7 with fail
      obtain ⟨x, hx0⟩ : ∃ x : At, x = ⟨f, al.s, al.u, al.g, al.m, al.a, al.t⟩ := ⟨_, rfl⟩
      obtain ⟨w3, hw3⟩ : ∃ V, V = wr.alloc (.cells #[.int .u32 f, .int .u64 al.s, .int .u32 al.u, .int .u32 al.g, .int .u32 al.m, .int .u32 al.a, .int .u32 al.t] 25) := ⟨_, rfl⟩
      have HX : Hid (x.Ok) := hidden (by rw [hx0]; exact ⟨by show f ≤ _; omega, HAL.out.s, HAL.out.u, HAL.out.g, HAL.out.m, HAL.out.a, HAL.out.t⟩)
      have HAL3 : Hid (ABox w3 A al) := hidden (by rw [hw3]; exact HAL2.out.alloc _)
      have HX3 : Hid (ABox w3 wr.heap.size x) := hidden (by rw [hw3, hx0]; exact heap_alloc_new wr _)
      have HBL3 : Hid (Below W.heap.size W w3) := hidden (by rw [hw3]; exact HBL2.out.alloc HBL2.out.size _)
      rw [← hw3]
      obtain ⟨B, hB⟩ : ∃ B, B = wr.heap.size := ⟨_, rfl⟩
      rw [← hB] at HX3 ⊢
      clear hw3 hB hx0 HAL2 HBL2 k0 k1 k2 k3 k4 k5 k6 kf
      obtain ⟨z, hz⟩ : ∃ z, z = mergeA zeroA x := ⟨_, rfl⟩
      have HZ := hidden hz
      have hmz : ∀ w, Calls Try.prog 7 #[.agg #[.int .u32 0, .int .u64 0, .int .u32 0, .int .u32 0, .int .u32 0, .int .u32 0, .int .u32 0], .agg #[.int .u32 x.f, .int .u64 x.s, .int .u32 x.u, .int .u32 x.g, .int .u32 x.m, .int .u32 x.a, .int .u32 x.t]] w fun e w' => e = .returned (.agg #[.int .u32 z.f, .int .u64 z.s, .int .u32 z.u, .int .u32 z.g, .int .u32 z.m, .int .u32 z.a, .int .u32 z.t]) ∧ Below w.heap.size w w' := fun w => by
        rw [hz]
        exact rmerge_c zeroA x zero_ok HX.out w
      have HMZ := hidden hmz
      clear hz hmz
      obtain ⟨k0, k1, k2, k3, k4, k5, k6, kf⟩ := cells7 HX3.out
      go_wp2_with fail
      refine (HMZ.out w3).mono ?_
      rintro e w4 ⟨rfl, hb4⟩
      have HAL4 := hidden (HAL3.out.fresh hb4)
      have HX4 := hidden (HX3.out.fresh hb4)
      have HBL4 : Hid (Below W.heap.size W w4) := hidden (HBL3.out.trans (hb4.mono HBL3.out.size))
      clear hb4 HAL3 HX3 HBL3 HMZ k0 k1 k2 k3 k4 k5 k6 kf
      go_upto_region 8 with fail
      obtain ⟨w5, hw5⟩ : ∃ V, V = w4.alloc (.cells #[.int .u32 z.f, .int .u64 z.s, .int .u32 z.u, .int .u32 z.g, .int .u32 z.m, .int .u32 z.a, .int .u32 z.t] 25) := ⟨_, rfl⟩
      have HAL5 : Hid (ABox w5 A al) := hidden (by rw [hw5]; exact HAL4.out.alloc _)
      have HX5 : Hid (ABox w5 B x) := hidden (by rw [hw5]; exact HX4.out.alloc _)
      have HZ5 : Hid (ABox w5 w4.heap.size z) := hidden (by rw [hw5]; exact ABox.new w4 z)
      have HBL5 : Hid (Below W.heap.size W w5) := hidden (by rw [hw5]; exact HBL4.out.alloc HBL4.out.size _)
      rw [← hw5]
      obtain ⟨C, hC⟩ : ∃ c, c = w4.heap.size := ⟨_, rfl⟩
      rw [← hC] at HZ5 ⊢
      clear hw5 hC HAL4 HX4 HBL4
      have HZO : Hid (z.Ok) := hidden (by rw [HZ.out]; exact merge_ok zeroA x zero_ok HX.out)
      obtain ⟨P, hP⟩ : ∃ P, P = putA x := ⟨_, rfl⟩
      have HP := hidden hP
      have HPL : Hid (P.length ≤ 32) := hidden (by rw [hP]; exact putA_le x)
      obtain ⟨r, hr⟩ : ∃ r, r = rightA x := ⟨_, rfl⟩
      have HR := hidden hr
      obtain ⟨rz, hrz⟩ : ∃ r, r = rightA z := ⟨_, rfl⟩
      have HRZ := hidden hrz
      clear hP hr hrz
      have HQP : Hid (∀ w', Keeps (fun _ => False) w5 w' → Calls Try.prog 8 #[.agg #[.int .u32 x.f, .int .u64 x.s, .int .u32 x.u, .int .u32 x.g, .int .u32 x.m, .int .u32 x.a, .int .u32 x.t]] w' fun e w'' => ∃ v', e = .returned v' ∧ (∀ V, Keeps (fun _ => False) w'' V → (convert 27 9 v').run Try.prog V = .ok (.string ⟨P.toArray⟩) V) ∧ Keeps (fun _ => False) w5 w'') := hidden fun w' hk => by
        refine (lput_c x HX.out w').mono ?_
        rintro e w'' ⟨v', rfl, h1, h2⟩
        rw [← HP.out] at h1
        exact ⟨v', rfl, fun V hV => run_string ((BSl.ofRow h1).keep hV (fun _ _ h => h)), hk.trans (Keeps.ofFresh h2)⟩
      have HQQ : Hid (∀ w', Keeps (fun _ => False) w5 w' → Calls Try.prog 9 #[.slice none 0 0, .agg #[.int .u32 x.f, .int .u64 x.s, .int .u32 x.u, .int .u32 x.g, .int .u32 x.m, .int .u32 x.a, .int .u32 x.t]] w' fun e w'' => ∃ v', e = .returned v' ∧ (∀ V, Keeps (fun _ => False) w'' V → (convert 27 9 v').run Try.prog V = .ok (.string ⟨P.toArray⟩) V) ∧ (∀ V, Keeps (fun _ => False) w'' V → Calls Try.prog 13 #[v'] V fun e V' => e = .returned (.bool true) ∧ Keeps (fun _ => False) w5 V') ∧ Keeps (fun _ => False) w' w'' ∧ Keeps (fun _ => False) w5 w'') := hidden fun w' hk => by
        refine (rput_c x HX.out (.slice none 0 0) [] w' (bsl_none w') (by simp)).mono ?_
        rintro e w'' ⟨v', rfl, h1, h2⟩
        rw [List.nil_append, ← HP.out] at h1
        have hk2 : Keeps (fun _ => False) w5 w'' := hk.trans (Keeps.ofFresh h2)
        refine ⟨v', rfl, fun V hV => run_string ((BSl.ofRow h1).keep hV (fun _ _ h => h)), fun V hV => ?_, Keeps.ofFresh h2, hk2⟩
        refine (same_c v' P V ((BSl.ofRow h1).keep hV (fun _ _ h => h)) (fun k e => Nat.lt_of_lt_of_le (h1.lt k e).2 hV.size) (by have := HPL.out; omega)).mono ?_
        rintro e V' ⟨rfl, hb⟩
        exact ⟨rfl, (hk2.trans hV).trans (Keeps.ofFresh hb)⟩
      have HQR : Hid (∀ w', Keeps (fun _ => False) w5 w' → Calls Try.prog 10 #[.agg #[.int .u32 x.f, .int .u64 x.s, .int .u32 x.u, .int .u32 x.g, .int .u32 x.m, .int .u32 x.a, .int .u32 x.t]] w' fun e w'' => e = .returned (.bool r) ∧ Keeps (fun _ => False) w5 w'') := hidden fun w' hk => by
        refine (right_c x HX.out w').mono ?_
        rintro e w'' ⟨rfl, hb⟩
        rw [← HR.out]
        exact ⟨rfl, hk.trans (Keeps.ofFresh hb)⟩
      have HQS : Hid (∀ w', Keeps (fun _ => False) w5 w' → Calls Try.prog 11 #[.agg #[.int .u32 x.f, .int .u64 x.s, .int .u32 x.u, .int .u32 x.g, .int .u32 x.m, .int .u32 x.a, .int .u32 x.t]] w' fun e w'' => e = .returned (.bool r) ∧ Keeps (fun _ => False) w5 w'') := hidden fun w' hk => by
        refine (rright_c x HX.out w').mono ?_
        rintro e w'' ⟨rfl, hb⟩
        rw [← HR.out]
        exact ⟨rfl, hk.trans (Keeps.ofFresh hb)⟩
      have HQT : Hid (∀ w', Keeps (fun _ => False) w5 w' → Calls Try.prog 10 #[.agg #[.int .u32 z.f, .int .u64 z.s, .int .u32 z.u, .int .u32 z.g, .int .u32 z.m, .int .u32 z.a, .int .u32 z.t]] w' fun e w'' => e = .returned (.bool rz) ∧ Keeps (fun _ => False) w5 w'') := hidden fun w' hk => by
        refine (right_c z HZO.out w').mono ?_
        rintro e w'' ⟨rfl, hb⟩
        rw [← HRZ.out]
        exact ⟨rfl, hk.trans (Keeps.ofFresh hb)⟩
      have HQU : Hid (∀ w', Keeps (fun _ => False) w5 w' → Calls Try.prog 11 #[.agg #[.int .u32 z.f, .int .u64 z.s, .int .u32 z.u, .int .u32 z.g, .int .u32 z.m, .int .u32 z.a, .int .u32 z.t]] w' fun e w'' => e = .returned (.bool rz) ∧ Keeps (fun _ => False) w5 w'') := hidden fun w' hk => by
        refine (rright_c z HZO.out w').mono ?_
        rintro e w'' ⟨rfl, hb⟩
        rw [← HRZ.out]
        exact ⟨rfl, hk.trans (Keeps.ofFresh hb)⟩
      have HQM : Hid (∀ w', Keeps (fun _ => False) w5 w' → Calls Try.prog 12 #[.agg #[.int .u32 0, .int .u64 0, .int .u32 0, .int .u32 0, .int .u32 0, .int .u32 0, .int .u32 0], .agg #[.int .u32 x.f, .int .u64 x.s, .int .u32 x.u, .int .u32 x.g, .int .u32 x.m, .int .u32 x.a, .int .u32 x.t]] w' fun e w'' => e = .returned (.agg #[.int .u32 z.f, .int .u64 z.s, .int .u32 z.u, .int .u32 z.g, .int .u32 z.m, .int .u32 z.a, .int .u32 z.t]) ∧ Keeps (fun _ => False) w5 w'') := hidden fun w' hk => by
        refine (merge_c zeroA x zero_ok HX.out w').mono ?_
        rintro e w'' ⟨rfl, hb⟩
        rw [← HZ.out]
        exact ⟨rfl, hk.trans (Keeps.ofFresh hb)⟩
      have HS : Hid (∀ w', Keeps (fun _ => False) w5 w' → (w'.cell? ⟨B, 0, none⟩ = some (.int .u32 x.f) ∧ w'.cell? ⟨B, 1, none⟩ = some (.int .u64 x.s) ∧ w'.cell? ⟨B, 2, none⟩ = some (.int .u32 x.u) ∧ w'.cell? ⟨B, 3, none⟩ = some (.int .u32 x.g) ∧ w'.cell? ⟨B, 4, none⟩ = some (.int .u32 x.m) ∧ w'.cell? ⟨B, 5, none⟩ = some (.int .u32 x.a) ∧ w'.cell? ⟨B, 6, none⟩ = some (.int .u32 x.t)) ∧ (w'.cell? ⟨C, 0, none⟩ = some (.int .u32 z.f) ∧ w'.cell? ⟨C, 1, none⟩ = some (.int .u64 z.s) ∧ w'.cell? ⟨C, 2, none⟩ = some (.int .u32 z.u) ∧ w'.cell? ⟨C, 3, none⟩ = some (.int .u32 z.g) ∧ w'.cell? ⟨C, 4, none⟩ = some (.int .u32 z.m) ∧ w'.cell? ⟨C, 5, none⟩ = some (.int .u32 z.a) ∧ w'.cell? ⟨C, 6, none⟩ = some (.int .u32 z.t)) ∧ Keeps (fun _ => False) w5 w') := hidden fun w' hk => by
        obtain ⟨a0, a1, a2, a3, a4, a5, a6, _⟩ := cells7 (HX5.out.keep hk (fun h => h))
        obtain ⟨b0, b1, b2, b3, b4, b5, b6, _⟩ := cells7 (HZ5.out.keep hk (fun h => h))
        exact ⟨⟨a0, a1, a2, a3, a4, a5, a6⟩, ⟨b0, b1, b2, b3, b4, b5, b6⟩, hk⟩
      have hcM : cvM = Op.convert 27 9 (.tmp 19) := rfl
      have hcN : cvN = Op.convert 27 9 (.tmp 22) := rfl
      go_cut [51] from 18 to 50 (fun tv wx => tv = .bool false ∧ Keeps (fun _ => False) w5 wx)
      case first =>
       rw [show (Op.convert 27 9 (.tmp 19)) = cvM from rfl, show (Op.convert 27 9 (.tmp 22)) = cvN from rfl]
       go_region_held3 (fun w' => (w'.cell? ⟨B, 0, none⟩ = some (.int .u32 x.f) ∧ w'.cell? ⟨B, 1, none⟩ = some (.int .u64 x.s) ∧ w'.cell? ⟨B, 2, none⟩ = some (.int .u32 x.u) ∧ w'.cell? ⟨B, 3, none⟩ = some (.int .u32 x.g) ∧ w'.cell? ⟨B, 4, none⟩ = some (.int .u32 x.m) ∧ w'.cell? ⟨B, 5, none⟩ = some (.int .u32 x.a) ∧ w'.cell? ⟨B, 6, none⟩ = some (.int .u32 x.t)) ∧ (w'.cell? ⟨C, 0, none⟩ = some (.int .u32 z.f) ∧ w'.cell? ⟨C, 1, none⟩ = some (.int .u64 z.s) ∧ w'.cell? ⟨C, 2, none⟩ = some (.int .u32 z.u) ∧ w'.cell? ⟨C, 3, none⟩ = some (.int .u32 z.g) ∧ w'.cell? ⟨C, 4, none⟩ = some (.int .u32 z.m) ∧ w'.cell? ⟨C, 5, none⟩ = some (.int .u32 z.a) ∧ w'.cell? ⟨C, 6, none⟩ = some (.int .u32 z.t)) ∧ Keeps (fun _ => False) w5 w')
         (first | exact HS.out _ hq0 | exact HS.out _ hq7 | exact HS.out _ hq1 | exact HS.out _ hq2 | exact HS.out _ hq3 | exact HS.out _ hq4 | exact HS.out _ hq5 | exact HS.out _ hq6 | exact HS.out _ hq8 | exact HS.out _ (Keeps.refl _ _) | exact HS.out _ (Keeps.refl _ _).drew)
         (first
           | (go_at_call 8; refine (HQP.out _ (pn_keeps (by assumption))).mono ?_; rintro e w11 ⟨v11, rfl, hcv, hq0⟩; have hcv0 := hcv w11 (Keeps.refl _ _); have hcv1 := hcv w11.drew (Keeps.refl _ _).drew)
           | (go_at_call 10; with_reducible refine (HQR.out _ (pn_keeps (by assumption))).mono ?_; rintro e w12 ⟨rfl, hq1⟩)
           | (go_at_call 11; with_reducible refine (HQS.out _ (pn_keeps (by assumption))).mono ?_; rintro e w13 ⟨rfl, hq2⟩)
           | (go_at_call 10; with_reducible refine (HQT.out _ (pn_keeps (by assumption))).mono ?_; rintro e w14 ⟨rfl, hq3⟩)
           | (go_at_call 11; with_reducible refine (HQU.out _ (pn_keeps (by assumption))).mono ?_; rintro e w15 ⟨rfl, hq4⟩)
           | (go_at_call 12; refine (HQM.out _ (pn_keeps (by assumption))).mono ?_; rintro e w16 ⟨rfl, hq5⟩)
           | (go_at_call 9; have hprev := hq5; refine (HQQ.out _ (pn_keeps (by assumption))).mono ?_; rintro e w18 ⟨v18, rfl, _, hsm, _, hq7⟩; have HSM := hidden hsm)
           | (go_at_call 9; refine (HQQ.out _ (pn_keeps (by assumption))).mono ?_; rintro e w17 ⟨v17, rfl, hcw, _, hq9, hq6⟩; have hcw0 := hcw w17 (Keeps.refl _ _); have hcw1 := hcw w17.drew (Keeps.refl _ _).drew; have hcv2 := hcv w17 hq9; have hcv3 := hcv w17.drew hq9.drew)
           | (go_at_call 13; refine (HSM.out _ (by first | exact Keeps.refl _ _ | exact (Keeps.refl _ _).drew | exact (Keeps.refl _ _).drewN _)).mono ?_; rintro e w19 ⟨rfl, hq8⟩)
           | fail)
       all_goals
         go_wp2_with fail
         go_meet
         case rel => exact ⟨rfl, hq8⟩
      case rest =>
      obtain ⟨htv, hk6⟩ := hcut
      subst htv
      have HAL6 := hidden (HAL5.out.keep hk6 (fun h => h))
      have HX6 := hidden (HX5.out.keep hk6 (fun h => h))
      have HBL6 : Hid (Below W.heap.size W wc) := hidden (HBL5.out.trans (hk6.below HBL5.out.size (fun _ e => e.elim)))
      clear hk6 HAL5 HX5 HZ5 HBL5 HQP HQQ HQR HQS HQT HQU HQM HS hcM hcN HR HRZ HP HPL HZO HZ
      go_wp2_with fail
      go_loopw [5, 6] (fun a _ wr2 => ∃ g : Nat, g ≤ 16 ∧ a = .int .u32 (g : Int) ∧ ABox wr2 A al ∧ ABox wr2 B x ∧ Below W.heap.size W wr2) (fun a _ _ => 16 - (intOf a).toNat)
      case atStart => exact ⟨0, by omega, rfl, HAL6.out, HX6.out, HBL6.out⟩
      case round =>
        obtain ⟨g, hg, rfl, hal, hxx, hbl⟩ := hrel
        have HAL7 := hidden hal
        have HX7 := hidden hxx
        have HBL7 := hidden hbl
        clear hal hxx hbl HAL6 HX6 HBL6
        by_cases hg16 : g < 16
        · have i2 : (g : Int) < 16 := by omega
          go_upto_region 14 with fail
          obtain ⟨c, hc0⟩ : ∃ c : At, c = ⟨g, 7, 8, 9, 10, 11, 12⟩ := ⟨_, rfl⟩
          obtain ⟨w7, hw7⟩ : ∃ V, V = wr.alloc (.cells #[.int .u32 g, .int .u64 7, .int .u32 8, .int .u32 9, .int .u32 10, .int .u32 11, .int .u32 12] 25) := ⟨_, rfl⟩
          have HC : Hid (c.Ok) := hidden (by rw [hc0]; exact ⟨by show g ≤ _; omega, by show 7 ≤ _; omega, by show 8 ≤ _; omega, by show 9 ≤ _; omega, by show 10 ≤ _; omega, by show 11 ≤ _; omega, by show 12 ≤ _; omega⟩)
          have HAL8 : Hid (ABox w7 A al) := hidden (by rw [hw7]; exact HAL7.out.alloc _)
          have HX8 : Hid (ABox w7 B x) := hidden (by rw [hw7]; exact HX7.out.alloc _)
          have HC8 : Hid (ABox w7 wr.heap.size c) := hidden (by rw [hw7, hc0]; exact heap_alloc_new wr _)
          have HBL8 : Hid (Below W.heap.size W w7) := hidden (by rw [hw7]; exact HBL7.out.alloc HBL7.out.size _)
          rw [← hw7]
          obtain ⟨D, hD⟩ : ∃ c, c = wr.heap.size := ⟨_, rfl⟩
          rw [← hD] at HC8 ⊢
          clear hw7 hD hc0 HAL7 HX7 HBL7
          obtain ⟨q, hq⟩ : ∃ q, q = mergeA c x := ⟨_, rfl⟩
          have HQ := hidden hq
          clear hq
          have HR1 : Hid (∀ w', Keeps (fun _ => False) w7 w' → Calls Try.prog 12 #[.agg #[.int .u32 c.f, .int .u64 c.s, .int .u32 c.u, .int .u32 c.g, .int .u32 c.m, .int .u32 c.a, .int .u32 c.t], .agg #[.int .u32 x.f, .int .u64 x.s, .int .u32 x.u, .int .u32 x.g, .int .u32 x.m, .int .u32 x.a, .int .u32 x.t]] w' fun e w'' => e = .returned (.agg #[.int .u32 q.f, .int .u64 q.s, .int .u32 q.u, .int .u32 q.g, .int .u32 q.m, .int .u32 q.a, .int .u32 q.t]) ∧ Keeps (fun _ => False) w7 w'') := hidden fun w' hk => by
            refine (merge_c c x HC.out HX.out w').mono ?_
            rintro e w'' ⟨rfl, hb⟩
            rw [← HQ.out]
            exact ⟨rfl, hk.trans (Keeps.ofFresh hb)⟩
          have HR2 : Hid (∀ w', Keeps (fun _ => False) w7 w' → Calls Try.prog 7 #[.agg #[.int .u32 c.f, .int .u64 c.s, .int .u32 c.u, .int .u32 c.g, .int .u32 c.m, .int .u32 c.a, .int .u32 c.t], .agg #[.int .u32 x.f, .int .u64 x.s, .int .u32 x.u, .int .u32 x.g, .int .u32 x.m, .int .u32 x.a, .int .u32 x.t]] w' fun e w'' => e = .returned (.agg #[.int .u32 q.f, .int .u64 q.s, .int .u32 q.u, .int .u32 q.g, .int .u32 q.m, .int .u32 q.a, .int .u32 q.t]) ∧ Keeps (fun _ => False) w7 w'') := hidden fun w' hk => by
            refine (rmerge_c c x HC.out HX.out w').mono ?_
            rintro e w'' ⟨rfl, hb⟩
            rw [← HQ.out]
            exact ⟨rfl, hk.trans (Keeps.ofFresh hb)⟩
          have HS2 : Hid (∀ w', Keeps (fun _ => False) w7 w' → (w'.cell? ⟨D, 0, none⟩ = some (.int .u32 c.f) ∧ w'.cell? ⟨D, 1, none⟩ = some (.int .u64 c.s) ∧ w'.cell? ⟨D, 2, none⟩ = some (.int .u32 c.u) ∧ w'.cell? ⟨D, 3, none⟩ = some (.int .u32 c.g) ∧ w'.cell? ⟨D, 4, none⟩ = some (.int .u32 c.m) ∧ w'.cell? ⟨D, 5, none⟩ = some (.int .u32 c.a) ∧ w'.cell? ⟨D, 6, none⟩ = some (.int .u32 c.t)) ∧ (w'.cell? ⟨B, 0, none⟩ = some (.int .u32 x.f) ∧ w'.cell? ⟨B, 1, none⟩ = some (.int .u64 x.s) ∧ w'.cell? ⟨B, 2, none⟩ = some (.int .u32 x.u) ∧ w'.cell? ⟨B, 3, none⟩ = some (.int .u32 x.g) ∧ w'.cell? ⟨B, 4, none⟩ = some (.int .u32 x.m) ∧ w'.cell? ⟨B, 5, none⟩ = some (.int .u32 x.a) ∧ w'.cell? ⟨B, 6, none⟩ = some (.int .u32 x.t)) ∧ Keeps (fun _ => False) w7 w') := hidden fun w' hk => by
            obtain ⟨a0, a1, a2, a3, a4, a5, a6, _⟩ := cells7 (HC8.out.keep hk (fun h => h))
            obtain ⟨b0, b1, b2, b3, b4, b5, b6, _⟩ := cells7 (HX8.out.keep hk (fun h => h))
            exact ⟨⟨a0, a1, a2, a3, a4, a5, a6⟩, ⟨b0, b1, b2, b3, b4, b5, b6⟩, hk⟩
          go_cut [64] from 58 to 63 (fun tv wx => tv = .bool false ∧ Keeps (fun _ => False) w7 wx)
          case first =>
            go_region_held3 (fun w' => (w'.cell? ⟨D, 0, none⟩ = some (.int .u32 c.f) ∧ w'.cell? ⟨D, 1, none⟩ = some (.int .u64 c.s) ∧ w'.cell? ⟨D, 2, none⟩ = some (.int .u32 c.u) ∧ w'.cell? ⟨D, 3, none⟩ = some (.int .u32 c.g) ∧ w'.cell? ⟨D, 4, none⟩ = some (.int .u32 c.m) ∧ w'.cell? ⟨D, 5, none⟩ = some (.int .u32 c.a) ∧ w'.cell? ⟨D, 6, none⟩ = some (.int .u32 c.t)) ∧ (w'.cell? ⟨B, 0, none⟩ = some (.int .u32 x.f) ∧ w'.cell? ⟨B, 1, none⟩ = some (.int .u64 x.s) ∧ w'.cell? ⟨B, 2, none⟩ = some (.int .u32 x.u) ∧ w'.cell? ⟨B, 3, none⟩ = some (.int .u32 x.g) ∧ w'.cell? ⟨B, 4, none⟩ = some (.int .u32 x.m) ∧ w'.cell? ⟨B, 5, none⟩ = some (.int .u32 x.a) ∧ w'.cell? ⟨B, 6, none⟩ = some (.int .u32 x.t)) ∧ Keeps (fun _ => False) w7 w')
              (first | exact HS2.out _ hr1 | exact HS2.out _ hr2 | exact HS2.out _ (Keeps.refl _ _) | exact HS2.out _ (Keeps.refl _ _).drew)
              (first
                | (go_at_call 12; refine (HR1.out _ (pn_keeps (by assumption))).mono ?_; rintro e w8 ⟨rfl, hr1⟩)
                | (go_at_call 7; refine (HR2.out _ (pn_keeps (by assumption))).mono ?_; rintro e w9 ⟨rfl, hr2⟩)
                | fail)
            all_goals
              go_wp2_with fail
              go_meet
              case rel => exact ⟨rfl, pn_keeps (by assumption)⟩
          case rest =>
          obtain ⟨htv2, hk9⟩ := hcut
          subst htv2
          have HAL9 := hidden (HAL8.out.keep hk9 (fun h => h))
          have HX9 := hidden (HX8.out.keep hk9 (fun h => h))
          have HBL9 : Hid (Below W.heap.size W wc) := hidden (HBL8.out.trans (hk9.below HBL8.out.size (fun _ e => e.elim)))
          clear hk9 HAL8 HX8 HC8 HBL8 HR1 HR2 HS2
          go_wp2_with fail
          go_roundw
          case rel => exact ⟨g + 1, by omega, by go_num, HAL9.out, HX9.out, HBL9.out⟩
          case measure => simp [intOf]; omega
        · have i2 : ¬ (g : Int) < 16 := by omega
          go_wp2_with fail
          exact ⟨⟨f + 1, by omega, by go_num, HAL7.out, HBL7.out⟩, by simp [intOf]; omega⟩
    · have i1 : ¬ (f : Int) < 40 := by omega
      obtain ⟨k0, k1, k2, k3, k4, k5, k6, kf⟩ := cells7 HAL2.out
      have hs0 : W.heap.size ≤ wr.heap.size := HBL2.out.size
      go_wp2_with fail
      refine (put_nil al wr).mono ?_
      rintro e w2 ⟨rfl, hb2⟩
      have HB2 : Hid (Below W.heap.size W w2) := hidden (HBL2.out.trans (hb2.mono hs0))
      clear hb2 HBL2 HAL2 k0 k1 k2 k3 k4 k5 k6 kf hs0
      have HS1 := hidden (same_c (.slice none 0 0) [] w2 (bsl_none w2) (fun k e => by cases e) (by simp))
      go_wp2_with fail
      refine HS1.out.mono ?_
      rintro e w3 ⟨rfl, hb3⟩
      have HB3 : Hid (Below W.heap.size W w3) := hidden (HB2.out.trans (hb3.mono HB2.out.size))
      clear hb3 HB2 HS1
      have HS2 := hidden (lit_same w3 #[.int .u8 255, .int .u8 255, .int .u8 255, .int .u8 255] [255, 255, 255, 255] 4 rfl rfl (by decide))
      go_wp2_with fail
      refine HS2.out.mono ?_
      rintro e w4 ⟨rfl, hb4⟩
      have HB4 : Hid (Below W.heap.size W w4) := hidden (HB3.out.trans (hb4.mono HB3.out.size))
      clear hb4 HB3 HS2
      have HS3 := hidden (lit_same w4 #[.int .u8 0, .int .u8 0, .int .u8 0, .int .u8 16] [0, 0, 0, 16] 4 rfl rfl (by decide))
      go_wp2_with fail
      refine HS3.out.mono ?_
      rintro e w5 ⟨rfl, hb5⟩
      have HB5 : Hid (Below W.heap.size W w5) := hidden (HB4.out.trans (hb5.mono HB4.out.size))
      clear hb5 HB4 HS3
      have HS4 := hidden (lit_same w5 #[.int .u8 0, .int .u8 0, .int .u8 0, .int .u8 15, .int .u8 1] [0, 0, 0, 15, 1] 5 rfl rfl (by decide))
      go_wp2_with fail
      refine HS4.out.mono ?_
      rintro e w6 ⟨rfl, hb6⟩
      have HB6 : Hid (Below W.heap.size W w6) := hidden (HB5.out.trans (hb6.mono HB5.out.size))
      clear hb6 HB5 HS4
      have hs5 := right_c ⟨0, 1, 0, 0, 0, 0, 0⟩ ⟨by decide, by decide, by decide, by decide, by decide, by decide, by decide⟩ w6
      rw [show rightA ⟨0, 1, 0, 0, 0, 0, 0⟩ = false from by decide +kernel] at hs5
      have HS5 := hidden hs5
      clear hs5
      go_wp2_with fail
      refine HS5.out.mono ?_
      rintro e w7 ⟨rfl, hb7⟩
      have HB7 : Hid (Below W.heap.size W w7) := hidden (HB6.out.trans (hb7.mono HB6.out.size))
      clear hb7 HB6 HS5
      have hs6 := right_c ⟨16, 0, 0, 0, 0, 0, 0⟩ ⟨by decide, by decide, by decide, by decide, by decide, by decide, by decide⟩ w7
      rw [show rightA ⟨16, 0, 0, 0, 0, 0, 0⟩ = false from by decide +kernel] at hs6
      have HS6 := hidden hs6
      clear hs6
      go_wp2_with fail
      refine HS6.out.mono ?_
      rintro e w8 ⟨rfl, hb8⟩
      have HB8 : Hid (Below W.heap.size W w8) := hidden (HB7.out.trans (hb8.mono HB7.out.size))
      clear hb8 HB7 HS6
      go_wp2_with fail
      refine (known_c _).mono ?_
      rintro e w9 ⟨rfl, hb9⟩
      go_wp2_with fail
      go_ret
      exact ⟨rfl, HB8.out.trans (hb9.mono HB8.out.size)⟩

end Go.Proofs.Ytkbfgfpdchgjpaa
