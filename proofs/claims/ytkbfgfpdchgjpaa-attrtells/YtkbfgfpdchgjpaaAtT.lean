/- The law AttrTells. -/
import Derived.Test.YtkbfgfpdchgjpaaAtM
import Derived.Test.YtkbfgfpdchgjpaaAtW
namespace Go.Proofs.Ytkbfgfpdchgjpaa
open Go Go.RowKit

theorem pt_keeps {w5 w' : World} {A B C : Prop} (h : A ∧ B ∧ C ∧ Keeps (fun _ => False) w5 w') : Keeps (fun _ => False) w5 w' := h.2.2.2
theorem wpList_append_srcG {P : Program} {ops : Array Oper} {rest : List Oper} {o : Oper} {a : Act} {w : World} {Q : Exit → Act → World → Prop} (hw : Region.wanted o (yielded ops a.tmps) = true) (s xo : Operand) (t tx : TypeId)
    (ho : o.op = .call { callee := .builtin .append, args := #[s, xo], argTypes := #[t, tx] })
    (base : Nat) (e : TypeId) (i : TypeInfo) (z : Value) (bytes : Nat) (ht : P.underlying t = some (.slice e)) (hi : P.info? e = some i) (hz : i.zero = some z)
    (hsize : i.size = 1) (hby : i.bytes = bytes) (hzs : z.cells.size = 1)
    (v : Value) (n : Nat) (xs : List Value) (hsv : a.eval s = v) (hown : w.ownsRow base e 1 v n xs)
    (x : Value) (m : Nat) (news : List Value) (hx : a.eval xo = x) (hs : Src P 1 tx x m news w)
    (h63 : n + m ≤ maxLen) (hbytes : (n + m) * bytes ≤ 140737488355328) (hbase : base ≤ w.heap.size) (H : Nat) (hH : w.heap.size = H)
    (h : ∀ v' w', w'.ownsRow base e 1 v' (n + m) (xs ++ news) → w.grownBy w' v.ownBlock → (v' = .slice none 0 0 ↔ v = .slice none 0 0 ∧ m = 0) → (v'.ownBlock = v.ownBlock ∨ v'.ownBlock = some H) → wpList P ops Q rest (a.put o.dst v') w') : wpList P ops Q (o :: rest) a w :=
  wpList_step fun _ hK => by
    rw [if_pos hw]
    exact wp_append_src w s xo t tx ho base e i z bytes ht hi hz hsize hby hzs v n xs hsv hown x m news hx hs h63 hbytes hbase H hH fun v' w' h2 h3 h4 h5 => hK _ _ (h v' w' h2 h3 h4 h5)
theorem ORow.owns {w : World} {base g cap : Nat} {xs : List UInt8} (h : ORow w base g cap xs) : w.ownsRow base 5 1 (.slice (some ⟨g, 0, none⟩) xs.length cap) xs.length (bcells xs) := by
  obtain ⟨h1, h2, h3, cur, h4, h5, h6⟩ := h
  exact ⟨by simp [bcells_length], .inr ⟨g, cap, cur, rfl, h1, h4, h2, h3, by omega, by simpa using h6⟩⟩
def cvT : Op := Op.convert 27 9 (.tmp 20)

set_option maxHeartbeats 3200000 in
set_option maxRecDepth 100000 in
theorem attrTells_c (x y : At) (hx : x.Ok) (hy : y.Ok) (ao : Option Addr) (n cap : Nat) (zs : List UInt8) (at' : Int) (t : UInt8) (W : World) (hv : BSl W (.slice ao n cap) zs) (hob : ∀ k, (Value.slice ao n cap).ownBlock = some k → k < W.heap.size) :
    Calls Try.prog 4 #[x.v, y.v, .slice ao n cap, .int .i64 at', .int .u8 t.toNat] W fun e w' => e = .returned (.bool true) ∧ Below W.heap.size W w' := by
  obtain ⟨hbx, hby, hb0⟩ := abox_two W x y
  obtain ⟨w1, hw1⟩ : ∃ V, V = (W.alloc (.cells x.cells 25)).alloc (.cells y.cells 25) := ⟨_, rfl⟩
  rw [← hw1] at hbx hby hb0
  have HBX := hidden hbx
  have HBY := hidden hby
  have HB0 := hidden hb0
  have hv1 := hv.fresh hb0
  have HW1 := hidden hw1
  obtain ⟨ao', cap', he⟩ := hv.len
  have hn : n = zs.length := by cases he; rfl
  have HOB : Hid (∀ m k, (Value.slice ao m cap).ownBlock = some k → k < w1.heap.size) := hidden (fun m k e => Nat.lt_of_lt_of_le (hob k (by rw [ownBlock_any ao n cap m cap]; exact e)) hb0.size)
  have HRP := hidden (fun w => rput_c x hx (.slice none 0 0) [] w (bsl_none w) (by simp))
  obtain ⟨A, hA⟩ : ∃ A, A = W.heap.size := ⟨_, rfl⟩
  rw [← hA] at HBX HBY
  have HA := hidden hA
  clear hA hbx hby hb0 hw1 hv he hob
  unfold At.v at *
  unfold At.cells at *
  go_enter Try.func4, Try.ntmps4
  go_upto_if 14 with fail
  rw [← HW1.out, ← HA.out]
  clear HW1
  go_cut [2] from 12 to 16 (fun c wx => wx = w1 ∧ ∃ (m : Nat) (us : List UInt8), c = .slice ao m cap ∧ BSl w1 (.slice ao m cap) us ∧ m = us.length ∧ us.length ≤ 100)
  case first =>
    by_cases h1 : 100 < n
    · have i1 : (100 : Int) < (n : Int) := by omega
      have i2 : (100 : Int) ≤ (cap : Int) := by
        obtain ⟨_, _, e, q1, _⟩ := id hv1
        cases e
        omega
      have i3 : decide ((100 : Int) < (n : Int)) = true := by simpa using i1
      go_wp2_with fail
      go_meet
      case rel => exact ⟨rfl, 100, zs.take 100, rfl, (by rw [hn] at hv1; exact hv1.head' (by omega)), by rw [List.length_take]; omega, by rw [List.length_take]; omega⟩
    · have i3 : decide ((100 : Int) < (n : Int)) = false := by simp; omega
      go_wp2_with fail
      go_meet
      case rel => exact ⟨rfl, n, zs, rfl, hv1, hn, by omega⟩
  case rest =>
  obtain ⟨hwc, m, us, rfl, hus, hm, hus100⟩ := hcut
  subst hwc
  have HUS := hidden hus
  have HUM : Hid (m = us.length ∧ us.length ≤ 100) := hidden ⟨hm, hus100⟩
  have hm100 : m ≤ 100 := by omega
  clear hus hm hus100 hv1 hn
  obtain ⟨k0, k1, k2, k3, k4, k5, k6, kf⟩ := cells7 HBX.out
  go_wp2_with fail
  refine (HRP.out wc).mono ?_
  rintro e w5 ⟨v5, rfl, ho5, hb5⟩
  clear k0 k1 k2 k3 k4 k5 k6 kf HRP
  rw [List.nil_append] at ho5
  have HBX5 := hidden (HBX.out.fresh hb5)
  have HBY5 := hidden (HBY.out.fresh hb5)
  have HUS5 := hidden (HUS.out.fresh hb5)
  have HB5 : Hid (Below W.heap.size W w5) := hidden (HB0.out.trans (hb5.mono HB0.out.size))
  have HOB5 : Hid (∀ k, (Value.slice ao m cap).ownBlock = some k → k < w5.heap.size) := hidden (fun k e => Nat.lt_of_lt_of_le (HOB.out m k e) hb5.size)
  have HPL := hidden (putA_le x)
  have hp4 : 4 ≤ (putA x).length := by unfold putA; simp only [List.length_append, be_length]; omega
  obtain ⟨P, hP⟩ : ∃ P, P = putA x := ⟨_, rfl⟩
  rw [← hP] at ho5 HPL hp4
  have HP := hidden hP
  obtain ⟨G, pc, rfl, HOR⟩ := ORow.ofOwns ho5 (by intro e; rw [e] at hp4; simp at hp4)
  have hbs5 := BSl.ofRow ho5
  have HBS5 := hidden hbs5
  have HOR5 := hidden HOR
  have HGL : Hid (wc.heap.size ≤ G ∧ G < w5.heap.size) := hidden (ho5.lt G rfl)
  obtain ⟨pn, hpn⟩ : ∃ pn, pn = P.length := ⟨_, rfl⟩
  have HPN := hidden hpn
  rw [← hpn] at HBS5 hp4 HPL ⊢
  have HOW : Hid (∀ k, (Value.slice ao m cap).ownBlock = some k → k < wc.heap.size) := hidden (HOB.out m)
  have HWC : Hid (W.heap.size ≤ wc.heap.size) := hidden HB0.out.size
  clear hpn hP hb5 ho5 HOR hbs5 HBX HBY HUS HB0 HOB
  have HOB6 : Hid (∀ k, (Value.slice (some ⟨G, 0, none⟩) pn pc).ownBlock = some k → k < w5.heap.size) := hidden (fun k e => by cases e; exact HGL.out.2)
  obtain ⟨r, hr⟩ : ∃ r, r = rightA x := ⟨_, rfl⟩
  have HR := hidden hr
  obtain ⟨z, hz⟩ : ∃ z, z = mergeA x y := ⟨_, rfl⟩
  have HZ := hidden hz
  clear hr hz
  have HQP : Hid (∀ w', Keeps (fun _ => False) w5 w' → Calls Try.prog 8 #[.agg #[.int .u32 x.f, .int .u64 x.s, .int .u32 x.u, .int .u32 x.g, .int .u32 x.m, .int .u32 x.a, .int .u32 x.t]] w' fun e w'' => ∃ v', e = .returned v' ∧ (convert 27 9 v').run Try.prog w'' = .ok (.string ⟨P.toArray⟩) w'' ∧ (convert 27 9 v').run Try.prog w''.drew = .ok (.string ⟨P.toArray⟩) w''.drew ∧ Keeps (fun _ => False) w5 w'') := hidden fun w' hk => by
    refine (lput_c x hx w').mono ?_
    rintro e w'' ⟨v', rfl, h1, h2⟩
    rw [← HP.out] at h1
    exact ⟨v', rfl, run_string (BSl.ofRow h1), run_string (w := w''.drew) (BSl.ofRow h1), hk.trans (Keeps.ofFresh h2)⟩
  have HQR : Hid (∀ w', Keeps (fun _ => False) w5 w' → Calls Try.prog 10 #[.agg #[.int .u32 x.f, .int .u64 x.s, .int .u32 x.u, .int .u32 x.g, .int .u32 x.m, .int .u32 x.a, .int .u32 x.t]] w' fun e w'' => e = .returned (.bool r) ∧ Keeps (fun _ => False) w5 w'') := hidden fun w' hk => by
    refine (right_c x hx w').mono ?_
    rintro e w'' ⟨rfl, hb⟩
    rw [← HR.out]
    exact ⟨rfl, hk.trans (Keeps.ofFresh hb)⟩
  have HQS : Hid (∀ w', Keeps (fun _ => False) w5 w' → Calls Try.prog 11 #[.agg #[.int .u32 x.f, .int .u64 x.s, .int .u32 x.u, .int .u32 x.g, .int .u32 x.m, .int .u32 x.a, .int .u32 x.t]] w' fun e w'' => e = .returned (.bool r) ∧ Keeps (fun _ => False) w5 w'') := hidden fun w' hk => by
    refine (rright_c x hx w').mono ?_
    rintro e w'' ⟨rfl, hb⟩
    rw [← HR.out]
    exact ⟨rfl, hk.trans (Keeps.ofFresh hb)⟩
  have HQM : Hid (∀ w', Keeps (fun _ => False) w5 w' → Calls Try.prog 12 #[.agg #[.int .u32 x.f, .int .u64 x.s, .int .u32 x.u, .int .u32 x.g, .int .u32 x.m, .int .u32 x.a, .int .u32 x.t], .agg #[.int .u32 y.f, .int .u64 y.s, .int .u32 y.u, .int .u32 y.g, .int .u32 y.m, .int .u32 y.a, .int .u32 y.t]] w' fun e w'' => e = .returned (.agg #[.int .u32 z.f, .int .u64 z.s, .int .u32 z.u, .int .u32 z.g, .int .u32 z.m, .int .u32 z.a, .int .u32 z.t]) ∧ Keeps (fun _ => False) w5 w'') := hidden fun w' hk => by
    refine (merge_c x y hx hy w').mono ?_
    rintro e w'' ⟨rfl, hb⟩
    rw [← HZ.out]
    exact ⟨rfl, hk.trans (Keeps.ofFresh hb)⟩
  have HQN : Hid (∀ w', Keeps (fun _ => False) w5 w' → Calls Try.prog 7 #[.agg #[.int .u32 x.f, .int .u64 x.s, .int .u32 x.u, .int .u32 x.g, .int .u32 x.m, .int .u32 x.a, .int .u32 x.t], .agg #[.int .u32 y.f, .int .u64 y.s, .int .u32 y.u, .int .u32 y.g, .int .u32 y.m, .int .u32 y.a, .int .u32 y.t]] w' fun e w'' => e = .returned (.agg #[.int .u32 z.f, .int .u64 z.s, .int .u32 z.u, .int .u32 z.g, .int .u32 z.m, .int .u32 z.a, .int .u32 z.t]) ∧ Keeps (fun _ => False) w5 w'') := hidden fun w' hk => by
    refine (rmerge_c x y hx hy w').mono ?_
    rintro e w'' ⟨rfl, hb⟩
    rw [← HZ.out]
    exact ⟨rfl, hk.trans (Keeps.ofFresh hb)⟩
  have HQA : Hid (∀ w', Keeps (fun _ => False) w5 w' → Calls Try.prog 13 #[.slice (some ⟨G, 0, none⟩) pn pc] w' fun e w'' => e = .returned (.bool true) ∧ Keeps (fun _ => False) w5 w'') := hidden fun w' hk => by
    refine (same_c _ P w' (HBS5.out.keep hk (fun _ _ h => h)) (fun k e => Nat.lt_of_lt_of_le (HOB6.out k e) hk.size) (by have := HPN.out; have := HPL.out; omega)).mono ?_
    rintro e w'' ⟨rfl, hb⟩
    exact ⟨rfl, hk.trans (Keeps.ofFresh hb)⟩
  have HQB : Hid (∀ w', Keeps (fun _ => False) w5 w' → Calls Try.prog 13 #[.slice ao m cap] w' fun e w'' => e = .returned (.bool true) ∧ Keeps (fun _ => False) w5 w'') := hidden fun w' hk => by
    refine (same_c _ us w' (HUS5.out.keep hk (fun _ _ h => h)) (fun k e => Nat.lt_of_lt_of_le (HOB5.out k e) hk.size) (by have := HUM.out; omega)).mono ?_
    rintro e w'' ⟨rfl, hb⟩
    exact ⟨rfl, hk.trans (Keeps.ofFresh hb)⟩
  have HS : Hid (∀ w', Keeps (fun _ => False) w5 w' → (w'.cell? ⟨A, 0, none⟩ = some (.int .u32 x.f) ∧ w'.cell? ⟨A, 1, none⟩ = some (.int .u64 x.s) ∧ w'.cell? ⟨A, 2, none⟩ = some (.int .u32 x.u) ∧ w'.cell? ⟨A, 3, none⟩ = some (.int .u32 x.g) ∧ w'.cell? ⟨A, 4, none⟩ = some (.int .u32 x.m) ∧ w'.cell? ⟨A, 5, none⟩ = some (.int .u32 x.a) ∧ w'.cell? ⟨A, 6, none⟩ = some (.int .u32 x.t)) ∧ (w'.cell? ⟨A + 1, 0, none⟩ = some (.int .u32 y.f) ∧ w'.cell? ⟨A + 1, 1, none⟩ = some (.int .u64 y.s) ∧ w'.cell? ⟨A + 1, 2, none⟩ = some (.int .u32 y.u) ∧ w'.cell? ⟨A + 1, 3, none⟩ = some (.int .u32 y.g) ∧ w'.cell? ⟨A + 1, 4, none⟩ = some (.int .u32 y.m) ∧ w'.cell? ⟨A + 1, 5, none⟩ = some (.int .u32 y.a) ∧ w'.cell? ⟨A + 1, 6, none⟩ = some (.int .u32 y.t)) ∧ (convert 27 9 (.slice (some ⟨G, 0, none⟩) pn pc)).run Try.prog w' = .ok (.string ⟨P.toArray⟩) w' ∧ Keeps (fun _ => False) w5 w') := hidden fun w' hk => by
    obtain ⟨a0, a1, a2, a3, a4, a5, a6, _⟩ := cells7 (HBX5.out.keep hk (fun h => h))
    obtain ⟨b0, b1, b2, b3, b4, b5, b6, _⟩ := cells7 (HBY5.out.keep hk (fun h => h))
    exact ⟨⟨a0, a1, a2, a3, a4, a5, a6⟩, ⟨b0, b1, b2, b3, b4, b5, b6⟩, run_string (HBS5.out.keep hk (fun _ _ h => h)), hk⟩
  have hcT : cvT = Op.convert 27 9 (.tmp 20) := rfl
  have hPP : (!((⟨P.toArray⟩ : ByteArray).toList == (⟨P.toArray⟩ : ByteArray).toList)) = false := by simp
  have hrr : (r != r) = false := by simp
  go_upto_region 4 with fail
  rw [show (Op.convert 27 9 (.tmp 20)) = cvT from rfl]
  go_region_held3 (fun w' => (w'.cell? ⟨A, 0, none⟩ = some (.int .u32 x.f) ∧ w'.cell? ⟨A, 1, none⟩ = some (.int .u64 x.s) ∧ w'.cell? ⟨A, 2, none⟩ = some (.int .u32 x.u) ∧ w'.cell? ⟨A, 3, none⟩ = some (.int .u32 x.g) ∧ w'.cell? ⟨A, 4, none⟩ = some (.int .u32 x.m) ∧ w'.cell? ⟨A, 5, none⟩ = some (.int .u32 x.a) ∧ w'.cell? ⟨A, 6, none⟩ = some (.int .u32 x.t)) ∧ (w'.cell? ⟨A + 1, 0, none⟩ = some (.int .u32 y.f) ∧ w'.cell? ⟨A + 1, 1, none⟩ = some (.int .u64 y.s) ∧ w'.cell? ⟨A + 1, 2, none⟩ = some (.int .u32 y.u) ∧ w'.cell? ⟨A + 1, 3, none⟩ = some (.int .u32 y.g) ∧ w'.cell? ⟨A + 1, 4, none⟩ = some (.int .u32 y.m) ∧ w'.cell? ⟨A + 1, 5, none⟩ = some (.int .u32 y.a) ∧ w'.cell? ⟨A + 1, 6, none⟩ = some (.int .u32 y.t)) ∧ (convert 27 9 (.slice (some ⟨G, 0, none⟩) pn pc)).run Try.prog w' = .ok (.string ⟨P.toArray⟩) w' ∧ Keeps (fun _ => False) w5 w')
    (first | exact HS.out _ hq0 | exact HS.out _ hq1 | exact HS.out _ hq2 | exact HS.out _ hq3 | exact HS.out _ hq4 | exact HS.out _ hq5 | exact HS.out _ hq6 | exact HS.out _ (Keeps.refl _ _) | exact HS.out _ (Keeps.refl _ _).drew)
    (first
      | (go_at_call 8; refine (HQP.out _ (pt_keeps (by assumption))).mono ?_; rintro e w11 ⟨v11, rfl, hcv, hcw, hq0⟩)
      | (go_at_call 10; refine (HQR.out _ (pt_keeps (by assumption))).mono ?_; rintro e w12 ⟨rfl, hq1⟩)
      | (go_at_call 11; refine (HQS.out _ (pt_keeps (by assumption))).mono ?_; rintro e w13 ⟨rfl, hq2⟩)
      | (go_at_call 12; refine (HQM.out _ (pt_keeps (by assumption))).mono ?_; rintro e w14 ⟨rfl, hq3⟩)
      | (go_at_call 7; refine (HQN.out _ (pt_keeps (by assumption))).mono ?_; rintro e w15 ⟨rfl, hq4⟩)
      | (go_at_call 13; with_reducible refine (HQA.out _ (pt_keeps (by assumption))).mono ?_; rintro e w16 ⟨rfl, hq5⟩)
      | (go_at_call 13; with_reducible refine (HQB.out _ (pt_keeps (by assumption))).mono ?_; rintro e w17 ⟨rfl, hq6⟩)
      | fail)
  have HK := hidden (pt_keeps (by assumption : _ ∧ _ ∧ _ ∧ Keeps (fun _ => False) w5 w17))
  have HOR17 := hidden (HOR5.out.keep HK.out (fun h => h))
  have HUS17 := hidden (HUS5.out.keep HK.out (fun _ _ h => h))
  have HB17 : Hid (Below W.heap.size W w17) := hidden (HB5.out.trans (HK.out.below HB5.out.size (fun _ e => e.elim)))
  have HG17 : Hid (G < w17.heap.size) := hidden (Nat.lt_of_lt_of_le HGL.out.2 HK.out.size)
  have HO17 : Hid (∀ k, (Value.slice ao m cap).ownBlock = some k → k < w17.heap.size) := hidden (fun k e => Nat.lt_of_lt_of_le (HOB5.out k e) HK.out.size)
  obtain ⟨pm, hpm⟩ : ∃ pm, pn = pm + 1 := ⟨pn - 1, by omega⟩
  have hpm1 : (pn : Int) - 1 = (pm : Int) := by omega
  have hpmb : pm ≤ 100 := by have := HPL.out; omega
  have hwl := win_le at' pm
  obtain ⟨k, hk⟩ : ∃ k, k = win at' pm := ⟨_, rfl⟩
  rw [← hk] at hwl
  have HKW := hidden hk
  have HPM := hidden hpm
  have hkp : (k : Int) < (pn : Int) := by omega
  have hkn : k < P.length := by have := HPN.out; omega
  have hcell := HOR17.out.cell k hkn
  have hfro := HOR17.out.frozen k
  have hset := HOR17.out.set k (P.getD k 0 ^^^ t)
  have hxb := xbyte (P.getD k 0) t
  clear hk hpm HBX5 HBY5 HQP HQR HQS HQM HQN HQA HQB HS hcT hPP hrr hq0 hq1 hq2 hq3 hq4 hq5 hq6 HOR5 HUS5 HB5 HOB5 HOB6 HBS5 HK hcv hcw
  generalize P.getD k 0 = b0 at hcell hset hxb
  obtain ⟨Y, hY⟩ : ∃ Y : UInt8, Y = b0 ^^^ t := ⟨_, rfl⟩
  rw [← hY] at hset hxb
  clear hY
  go_wp2_with fail
  refine (within_f at' pm (by have := HPM.out; have := HPL.out; omega) _).mono ?_
  rintro e w18 ⟨rfl, rfl⟩
  rw [← HKW.out]
  go_upto_region 7 with fail
  have hk19 := keeps_set w18 G k (.int .u8 Y.toNat)
  obtain ⟨w19, hw19⟩ : ∃ V, V = w18.setCell ⟨G, k, none⟩ (.int .u8 Y.toNat) := ⟨_, rfl⟩
  rw [← hw19] at hk19 hset ⊢
  have HUS19 := hidden (HUS17.out.keep hk19 (fun q e hs => by have := HOW.out q e; have := HGL.out.1; omega))
  have HB19 : Hid (Below W.heap.size W w19) := hidden (HB17.out.trans (hk19.below HB17.out.size (fun q e => by have := HGL.out.1; have := HWC.out; omega)))
  have HO19 : Hid (∀ k, (Value.slice ao m cap).ownBlock = some k → k < w19.heap.size) := hidden (fun k e => Nat.lt_of_lt_of_le (HO17.out k e) hk19.size)
  have HG19 : Hid (G < w19.heap.size) := hidden (Nat.lt_of_lt_of_le HG17.out hk19.size)
  obtain ⟨Q, hQ⟩ : ∃ Q, Q = P.set k Y := ⟨_, rfl⟩
  have hql : Q.length = pn := by rw [hQ, List.length_set]; exact HPN.out.symm
  rw [← hQ] at hset
  have HQL := hidden hql
  have HOR19 := hidden hset
  clear hQ hql hset hk19 hw19 hcell hfro hxb hkn hkp HUS17 HB17 HG17 HO17 HOR17 HKW HPM hwl hpm1 hpmb
  have HBQ : Hid (BSl w19 (.slice (some ⟨G, 0, none⟩) pn pc) Q) := hidden (by rw [← HQL.out]; exact HOR19.out.bsl)
  go_wp2_with fail
  refine (same_c _ Q w19 HBQ.out (fun q e => by cases e; exact HG19.out) (by have := HQL.out; have := HPL.out; omega)).mono ?_
  rintro e w20 ⟨rfl, hb20⟩
  have HOR20 : Hid (ORow w20 wc.heap.size G pc Q) := hidden (HOR19.out.keep (S := fun _ => False) (Keeps.ofFresh hb20) (fun h => h))
  have hus20 := HUS19.out.fresh hb20
  have HB20 : Hid (Below W.heap.size W w20) := hidden (HB19.out.trans (hb20.mono HB19.out.size))
  have hsz20 : wc.heap.size ≤ w20.heap.size := by have := HG19.out; have := HGL.out.1; have := hb20.size; omega
  have HWL : Hid (W.heap.size ≤ w20.heap.size) := hidden (by have := HWC.out; omega)
  clear hb20 HUS19 HB19 HG19 HOR19 HBQ HO19
  obtain ⟨i0, hi, hz0, hz1, hz2⟩ := info_parts Try.infoU8
  have hown := HOR20.out.owns
  rw [HQL.out] at hown
  have hsrc := hus20.src
  rw [← HUM.out.1] at hsrc
  have hpl := HPL.out
  go_wp2_with (at_builtin; refine wpList_append_srcG (by rfl) (.tmp 65) (.tmp 66) 27 27 rfl wc.heap.size 5 i0 _ 1 Try.underlying27 hi hz0 hz1 hz2 rfl _ _ _ rfl hown _ m (bcells us) rfl hsrc (by unfold maxLen; omega) (by omega) hsz20 w20.heap.size rfl ?_)
  intro v21 w21 hown21 hgrow21 hnil21 hat21
  have hbs21 : BSl w21 v21 (Q ++ us) := BSl.ofRow (by rw [bcells_append]; exact hown21)
  have hlt21 : ∀ k, v21.ownBlock = some k → k < w21.heap.size := fun k e => (hown21.lt k e).2
  have HK21 : Hid (Keeps (fun k => wc.heap.size ≤ k) w20 w21) := hidden (Keeps.ofGrown hgrow21 (fun k e => (hown.lt k e).1))
  have HB21 : Hid (Below W.heap.size W w21) := hidden (HB20.out.trans (HK21.out.below HWL.out (fun k e => Nat.le_trans HWC.out e)))
  obtain ⟨a21, p21, rfl⟩ := ownsRow_shape hown21
  have HBS21 := hidden hbs21
  have HLT21 := hidden hlt21
  clear hbs21 hlt21 hown21 hgrow21 hnil21 hat21 HK21 HB20 hown hsrc hus20 HOR20 hi hz0 hz1 hz2
  go_wp2_with fail
  refine (same_c _ (Q ++ us) w21 HBS21.out HLT21.out (by rw [List.length_append, HQL.out]; have := HPL.out; have := HUM.out; omega)).mono ?_
  rintro e w22 ⟨rfl, hb22⟩
  have HB22 : Hid (Below W.heap.size W w22) := hidden (HB21.out.trans (hb22.mono HB21.out.size))
  clear hb22 HB21
  go_wp2_with fail
  refine (known_c _).mono ?_
  rintro e w23 ⟨rfl, hb23⟩
  go_wp2_with fail
  go_ret
  exact ⟨rfl, HB22.out.trans (hb23.mono HB22.out.size)⟩

end Go.Proofs.Ytkbfgfpdchgjpaa
