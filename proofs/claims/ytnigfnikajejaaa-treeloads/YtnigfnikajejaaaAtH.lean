/- What Get answers: attr's. -/
import Derived.Test.YtnigfnikajejaaaAtG
namespace Go.Proofs.Ytnigfnikajejaaa
open Go Go.RowKit


/-- In the midst of Get: the reader, the attributes so far (at B), the result's place (at R). -/
structure GS (w wx : World) (a B R : Nat) (g : Option Nat) (bs : List UInt8) (r : At × (Nat × Int)) : Prop where
  rd : WR wx a g bs r.2.1 r.2.2
  bx : wx.heap[B]? = some (.cells r.1.cells 40 (0, 0))
  rs : wx.heap[R]? = some (.cells zc 40 (0, 0))
  kp : Keeps (fun k => k = a ∨ w.heap.size ≤ k) w wx
  ba : B ≠ a
  ra : R ≠ a
  rb : R ≠ B
  bw : w.heap.size ≤ B
  gb : bs ≠ [] → ∀ k, g = some k → k ≠ B
theorem GS.took {w wx w' : World} {a B R : Nat} {g : Option Nat} {bs : List UInt8} {r : At × (Nat × Int)} {p : Nat} {y : Int} (h : GS w wx a B R g bs r) (ht : Took a g bs p y wx w') : GS w w' a B R g bs (r.1, (p, y)) :=
  ⟨ht.state, by rw [ht.keeps.block B (lt_of_block h.bx) h.ba]; exact h.bx, by rw [ht.keeps.block R (lt_of_block h.rs) h.ra]; exact h.rs, h.kp.trans (ht.keeps.mono fun _ _ e => .inl e), h.ba, h.ra, h.rb, h.bw, h.gb⟩
theorem GS.set {w wx : World} {a B R : Nat} {g : Option Nat} {bs : List UInt8} {r : At × (Nat × Int)} (h : GS w wx a B R g bs r) (x' : At) (i : Nat) (u : Value) (e : r.1.cells.setIfInBounds i u = x'.cells) : GS w (wx.setCell ⟨B, i, none⟩ u) a B R g bs (x', r.2) := by
  have hk := keeps_set wx B i u
  refine ⟨h.rd.keepE hk (fun e => h.ba e.symm) h.gb, ?_, ?_, h.kp.trans (hk.mono fun k _ e => .inr (by have := h.bw; omega)), h.ba, h.ra, h.rb, h.bw, h.gb⟩
  · rw [heap_setCell_same _ _ _ _ _ _ h.bx, e]
  · rw [hk.block R (lt_of_block h.rs) h.rb]; exact h.rs
theorem GS.same {w wx w' : World} {a B R : Nat} {g : Option Nat} {bs : List UInt8} {r : At × (Nat × Int)} (h : GS w wx a B R g bs r) (hk : Keeps (fun _ => False) wx w') : GS w w' a B R g bs r :=
  ⟨h.rd.same hk, by rw [hk.block B (lt_of_block h.bx) (fun h => h)]; exact h.bx, by rw [hk.block R (lt_of_block h.rs) (fun h => h)]; exact h.rs, h.kp.trans (hk.mono fun _ _ e => e.elim), h.ba, h.ra, h.rb, h.bw, h.gb⟩
theorem gs_u32 {w wx : World} {a B R : Nat} {g : Option Nat} {bs : List UInt8} {r : At × (Nat × Int)} (h : GS w wx a B R g bs r) :
    Calls Try.prog 83 #[.pointer (some ⟨a, 0, none⟩)] wx fun e w' => e = .returned (.int .u32 (val (tk bs r.2.1 r.2.2 4).1)) ∧ GS w w' a B R g bs (r.1, (tk bs r.2.1 r.2.2 4).2) := by
  refine (u32_r wx h.rd).mono ?_
  rintro e w' ⟨rfl, ht⟩
  exact ⟨rfl, h.took ht⟩
theorem gs_u64 {w wx : World} {a B R : Nat} {g : Option Nat} {bs : List UInt8} {r : At × (Nat × Int)} (h : GS w wx a B R g bs r) :
    Calls Try.prog 46 #[.pointer (some ⟨a, 0, none⟩)] wx fun e w' => e = .returned (.int .u64 (val (tk bs r.2.1 r.2.2 8).1)) ∧ GS w w' a B R g bs (r.1, (tk bs r.2.1 r.2.2 8).2) := by
  refine (u64_r wx h.rd).mono ?_
  rintro e w' ⟨rfl, ht⟩
  exact ⟨rfl, h.took ht⟩
theorem GS.cells {w wx : World} {a B R : Nat} {g : Option Nat} {bs : List UInt8} {r : At × (Nat × Int)} (h : GS w wx a B R g bs r) : wx.cell? ⟨B, 0, none⟩ = some (.int .u32 r.1.f) ∧ wx.cell? ⟨B, 1, none⟩ = some (.int .u64 r.1.s) ∧ wx.cell? ⟨B, 2, none⟩ = some (.int .u32 r.1.u) ∧ wx.cell? ⟨B, 3, none⟩ = some (.int .u32 r.1.g) ∧ wx.cell? ⟨B, 4, none⟩ = some (.int .u32 r.1.m) ∧ wx.cell? ⟨B, 5, none⟩ = some (.int .u32 r.1.a) ∧ wx.cell? ⟨B, 6, none⟩ = some (.int .u32 r.1.t) ∧ ∀ j, wx.frozen? ⟨B, j, none⟩ = false := cells7 (v0 := .int .u32 r.1.f) (v1 := .int .u64 r.1.s) (v2 := .int .u32 r.1.u) (v3 := .int .u32 r.1.g) (v4 := .int .u32 r.1.m) (v5 := .int .u32 r.1.a) (v6 := .int .u32 r.1.t) h.bx
set_option maxHeartbeats 400000 in
theorem get_nil (w : World) : Calls Try.prog 67 #[.pointer none] w fun e w' => e = .returned zeroA.v ∧ Below w.heap.size w w' := by
  unfold zeroA At.v At.cells
  go_enter Try.func67, Try.ntmps67
  go_wp2_with fail
  refine bodyPost_ret (results_agg1 rfl _ _ _ w.heap.size _ 40 (0, 0) rfl (heap_alloc_new w _) Try.underlying40 sizeA) rfl ?_
  exact ⟨rfl, (Below.refl _ w).alloc (Nat.le_refl _) _⟩
set_option maxHeartbeats 3200000 in
set_option maxRecDepth 100000 in
theorem get_c (w : World) {a : Nat} {g : Option Nat} {bs : List UInt8} {p : Nat} {why : Int} (h : WR w a g bs p why) :
    Calls Try.prog 67 #[.pointer (some ⟨a, 0, none⟩)] w fun e w' => e = .returned (getA bs p why).1.v ∧ Took a g bs (getA bs p why).2.1 (getA bs p why).2.2 w w' := by
  have hlt := h.lt
  have hR := heap_alloc_new w (.cells zc 40)
  have hK1 : Keeps (fun k => k = a ∨ w.heap.size ≤ k) w (w.alloc (.cells zc 40)) := (Keeps.refl _ _).alloc _
  have h1 : WR (w.alloc (.cells zc 40)) a g bs p why := h.same ((Keeps.refl _ _).alloc _)
  have hRa : w.heap.size ≠ a := by omega
  obtain ⟨R, hRn⟩ : ∃ R, R = w.heap.size := ⟨_, rfl⟩
  rw [← hRn] at hR hRa
  obtain ⟨W1, hW1⟩ : ∃ W1, W1 = w.alloc (.cells zc 40) := ⟨_, rfl⟩
  rw [← hW1] at hR hK1 h1
  have hfv : val (tk bs p why 4).1 ≤ 4294967295 := f_lt bs p why
  have hnm : ∃ rz : At × (Nat × Int), rz = getA bs p why := ⟨_, rfl⟩
  obtain ⟨rz, hrz⟩ := hnm
  rw [← hrz]
  unfold getA at hrz
  have HRN := hidden hRn
  have HGR : Hid (bs ≠ [] → ∀ k, g = some k → k ≠ R) := hidden (h.apartB (by omega))
  unfold zc at hW1
  go_enter Try.func67, Try.ntmps67
  go_wp2_with fail
  rw [← hW1, ← HRN.out]
  clear hRn
  refine (u32_r W1 h1).mono ?_
  rintro e w2 ⟨rfl, ht2⟩
  have hs2 := ht2.keeps.size
  have hR2 : w2.heap[R]? = some (.cells zc 40 (0, 0)) := by rw [ht2.keeps.block R (lt_of_block hR) hRa]; exact hR
  have hlt2 : a < w2.heap.size := ht2.state.lt
  have hR2lt := lt_of_block hR2
  have HG : Hid (GS w (w2.alloc (.cells #[.int .u32 (val (tk bs p why 4).1 : Int), .int .u64 0, .int .u32 0, .int .u32 0, .int .u32 0, .int .u32 0, .int .u32 0] 40)) a w2.heap.size R g bs (⟨val (tk bs p why 4).1, 0, 0, 0, 0, 0, 0⟩, (tk bs p why 4).2)) := by
    refine hidden ⟨ht2.state.same ((Keeps.refl _ _).alloc _), heap_alloc_new w2 _, ?_, (hK1.trans (ht2.keeps.mono fun _ _ e => .inl e)).alloc _, by omega, hRa, by omega, Nat.le_trans hK1.size hs2, ht2.state.apartB (Nat.le_refl _)⟩
    rw [Below.heap_alloc w2 _ R hR2lt]; exact hR2
  clear ht2 hR2 hs2 hlt2 hR2lt h1 hK1 hW1 hR
  obtain ⟨r0, hr0⟩ : ∃ r0, r0 = get0 bs (p, why) := ⟨_, rfl⟩
  have he0 : r0 = (⟨val (tk bs p why 4).1, 0, 0, 0, 0, 0, 0⟩, if 15 < val (tk bs p why 4).1 then ((tk bs p why 4).2.1, 12) else (tk bs p why 4).2) := hr0
  have hw0 : 15 < val (tk bs p why 4).1 → (tk bs p why 4).2.2 = 0 := tk_val
  rw [← hr0] at hrz
  generalize tk bs p why 4 = q0 at HG he0 hw0 hfv ⊢
  generalize val q0.1 = f at HG he0 hw0 hfv ⊢
  obtain ⟨e1, e2, e4, e8, n1, n2, n4, n8⟩ := bits_of f hfv
  clear e1 e2 e4 e8
  have HRZ := hidden hrz
  have HE0 := hidden he0
  have HW0 := hidden hw0
  clear hrz he0 hw0 hr0
  have c15 : (15 < f) = ((15 : Int) < (f : Int)) := by rw [eq_iff_iff]; omega
  go_upto_if 12 with fail
  obtain ⟨W3, hW3⟩ : ∃ W, W = w2.alloc (.cells #[.int .u32 (f : Int), .int .u64 0, .int .u32 0, .int .u32 0, .int .u32 0, .int .u32 0, .int .u32 0] 40) := ⟨_, rfl⟩
  rw [← hW3] at HG ⊢
  generalize w2.heap.size = B at HG ⊢
  clear hW3
  go_cut [] from 10 to 14 (fun wx => GS w wx a B R g bs r0)
  case first =>
    by_cases hf : 15 < f
    · have d1 : decide ((15 : Int) < (f : Int)) = true := by simp; omega
      have e0 := HE0.out
      rw [if_pos hf] at e0
      have hy := HW0.out hf
      rw [d1]
      go_wp2_with fail
      refine (fail_r 12 W3 HG.out.rd).mono ?_
      rintro e w4 ⟨rfl, ht⟩
      have HG4 := hidden (HG.out.took ht)
      go_wp2_with fail
      go_meet
      case rel =>
        have := HG4.out
        simp only [hy, if_true] at this
        rw [e0]; exact this
    · have d1 : decide ((15 : Int) < (f : Int)) = false := by simp; omega
      have e0 := HE0.out
      rw [if_neg hf] at e0
      rw [d1]
      go_wp2_with fail
      go_meet
      case rel => rw [e0]; exact HG.out
  case rest =>
  obtain ⟨w5, hw5⟩ : ∃ W, W = wc := ⟨_, rfl⟩
  rw [← hw5] at hcut ⊢
  have HC0 := hidden hcut
  clear hcut hw5
  obtain ⟨k0, k1, k2, k3, k4, k5, k6, kf⟩ := HC0.out.cells
  have hf0 : r0.1.f = f := by rw [HE0.out]
  rw [hf0] at k0
  clear HG c15
  obtain ⟨r1, hr1⟩ : ∃ r, r = get1 bs r0 := ⟨_, rfl⟩
  have HR1 := hidden hr1
  clear hr1
  go_upto_if 18 with fail
  go_cut [] from 15 to 21 (fun wx => GS w wx a B R g bs r1 ∧ r1.1.f = f)
  case first =>
    cases hb : bt 1 f with
    | false =>
      have e0 : r1 = r0 := by rw [HR1.out, get1, hf0, hb]; rfl
      rw [hb] at n1
      go_wp2_with fail
      go_meet
      case rel => rw [e0]; exact ⟨HC0.out, hf0⟩
    | true =>
      have e0 := HR1.out
      rw [get1, hf0, hb, if_pos rfl] at e0
      rw [hb] at n1
      have HN1 := hidden e0
      clear e0
      go_wp2_with fail
      refine (gs_u64 (HC0.out)).mono ?_
      rintro e wa0 ⟨rfl, hg0⟩
      have HA0 := hidden hg0
      clear hg0 k0 k1 k2 k3 k4 k5 k6 kf
      obtain ⟨v0, hv0⟩ : ∃ v, v = val (tk bs r0.2.1 r0.2.2 8).1 := ⟨_, rfl⟩
      have HV0 := hidden hv0
      rw [← hv0]
      clear hv0
      obtain ⟨k0, k1, k2, k3, k4, k5, k6, kf⟩ := HA0.out.cells
      have HB0 := hidden (HA0.out.set { r0.1 with s := v0 } 1 (.int .u64 v0) rfl)
      go_wp2_with fail
      go_meet
      case rel =>
        have e1 := HN1.out
        rw [← HV0.out] at e1
        exact ⟨by rw [e1]; exact HB0.out, by rw [e1]; exact hf0⟩
  case rest =>
  obtain ⟨w5, hw5⟩ : ∃ W, W = wc := ⟨_, rfl⟩
  rw [← hw5] at hcut ⊢
  have HC1 := hidden hcut.1
  have hf1 := hcut.2
  clear hcut hw5 k0 k1 k2 k3 k4 k5 k6 kf HC0 hf0
  obtain ⟨k0, k1, k2, k3, k4, k5, k6, kf⟩ := HC1.out.cells
  rw [hf1] at k0
  obtain ⟨r2, hr2⟩ : ∃ r, r = get2 bs r1 := ⟨_, rfl⟩
  have HR2 := hidden hr2
  clear hr2
  go_upto_if 25 with fail
  go_cut [] from 22 to 31 (fun wx => GS w wx a B R g bs r2 ∧ r2.1.f = f)
  case first =>
    cases hb : bt 2 f with
    | false =>
      have e0 : r2 = r1 := by rw [HR2.out, get2, hf1, hb]; rfl
      rw [hb] at n2
      go_wp2_with fail
      go_meet
      case rel => rw [e0]; exact ⟨HC1.out, hf1⟩
    | true =>
      have e0 := HR2.out
      rw [get2, hf1, hb, if_pos rfl] at e0
      rw [hb] at n2
      have HN2 := hidden e0
      clear e0
      go_wp2_with fail
      refine (gs_u32 (HC1.out)).mono ?_
      rintro e wa0 ⟨rfl, hg0⟩
      have HA0 := hidden hg0
      clear hg0 k0 k1 k2 k3 k4 k5 k6 kf
      obtain ⟨v0, hv0⟩ : ∃ v, v = val (tk bs r1.2.1 r1.2.2 4).1 := ⟨_, rfl⟩
      have HV0 := hidden hv0
      rw [← hv0]
      clear hv0
      obtain ⟨k0, k1, k2, k3, k4, k5, k6, kf⟩ := HA0.out.cells
      have HB0 := hidden (HA0.out.set { r1.1 with u := v0 } 2 (.int .u32 v0) rfl)
      go_wp2_with fail
      refine (gs_u32 (HB0.out)).mono ?_
      rintro e wa1 ⟨rfl, hg1⟩
      have HA1 := hidden hg1
      clear hg1 k0 k1 k2 k3 k4 k5 k6 kf
      obtain ⟨v1, hv1⟩ : ∃ v, v = val (tk bs (tk bs r1.2.1 r1.2.2 4).2.1 (tk bs r1.2.1 r1.2.2 4).2.2 4).1 := ⟨_, rfl⟩
      have HV1 := hidden hv1
      rw [← hv1]
      clear hv1
      obtain ⟨k0, k1, k2, k3, k4, k5, k6, kf⟩ := HA1.out.cells
      have HB1 := hidden (HA1.out.set { r1.1 with u := v0, g := v1 } 3 (.int .u32 v1) rfl)
      go_wp2_with fail
      go_meet
      case rel =>
        have e1 := HN2.out
        rw [← HV0.out, ← HV1.out] at e1
        exact ⟨by rw [e1]; exact HB1.out, by rw [e1]; exact hf1⟩
  case rest =>
  obtain ⟨w5, hw5⟩ : ∃ W, W = wc := ⟨_, rfl⟩
  rw [← hw5] at hcut ⊢
  have HC2 := hidden hcut.1
  have hf2 := hcut.2
  clear hcut hw5 k0 k1 k2 k3 k4 k5 k6 kf HC1 hf1
  obtain ⟨k0, k1, k2, k3, k4, k5, k6, kf⟩ := HC2.out.cells
  rw [hf2] at k0
  obtain ⟨r4, hr4⟩ : ∃ r, r = get4 bs r2 := ⟨_, rfl⟩
  have HR4 := hidden hr4
  clear hr4
  go_upto_if 35 with fail
  go_cut [] from 32 to 38 (fun wx => GS w wx a B R g bs r4 ∧ r4.1.f = f)
  case first =>
    cases hb : bt 4 f with
    | false =>
      have e0 : r4 = r2 := by rw [HR4.out, get4, hf2, hb]; rfl
      rw [hb] at n4
      go_wp2_with fail
      go_meet
      case rel => rw [e0]; exact ⟨HC2.out, hf2⟩
    | true =>
      have e0 := HR4.out
      rw [get4, hf2, hb, if_pos rfl] at e0
      rw [hb] at n4
      have HN4 := hidden e0
      clear e0
      go_wp2_with fail
      refine (gs_u32 (HC2.out)).mono ?_
      rintro e wa0 ⟨rfl, hg0⟩
      have HA0 := hidden hg0
      clear hg0 k0 k1 k2 k3 k4 k5 k6 kf
      obtain ⟨v0, hv0⟩ : ∃ v, v = val (tk bs r2.2.1 r2.2.2 4).1 := ⟨_, rfl⟩
      have HV0 := hidden hv0
      rw [← hv0]
      clear hv0
      obtain ⟨k0, k1, k2, k3, k4, k5, k6, kf⟩ := HA0.out.cells
      have HB0 := hidden (HA0.out.set { r2.1 with m := v0 } 4 (.int .u32 v0) rfl)
      go_wp2_with fail
      go_meet
      case rel =>
        have e1 := HN4.out
        rw [← HV0.out] at e1
        exact ⟨by rw [e1]; exact HB0.out, by rw [e1]; exact hf2⟩
  case rest =>
  obtain ⟨w5, hw5⟩ : ∃ W, W = wc := ⟨_, rfl⟩
  rw [← hw5] at hcut ⊢
  have HC4 := hidden hcut.1
  have hf4 := hcut.2
  clear hcut hw5 k0 k1 k2 k3 k4 k5 k6 kf HC2 hf2
  obtain ⟨k0, k1, k2, k3, k4, k5, k6, kf⟩ := HC4.out.cells
  rw [hf4] at k0
  obtain ⟨r8, hr8⟩ : ∃ r, r = get8 bs r4 := ⟨_, rfl⟩
  have HR8 := hidden hr8
  clear hr8
  go_upto_if 42 with fail
  go_cut [] from 39 to 48 (fun wx => GS w wx a B R g bs r8 ∧ r8.1.f = f)
  case first =>
    cases hb : bt 8 f with
    | false =>
      have e0 : r8 = r4 := by rw [HR8.out, get8, hf4, hb]; rfl
      rw [hb] at n8
      go_wp2_with fail
      go_meet
      case rel => rw [e0]; exact ⟨HC4.out, hf4⟩
    | true =>
      have e0 := HR8.out
      rw [get8, hf4, hb, if_pos rfl] at e0
      rw [hb] at n8
      have HN8 := hidden e0
      clear e0
      go_wp2_with fail
      refine (gs_u32 (HC4.out)).mono ?_
      rintro e wa0 ⟨rfl, hg0⟩
      have HA0 := hidden hg0
      clear hg0 k0 k1 k2 k3 k4 k5 k6 kf
      obtain ⟨v0, hv0⟩ : ∃ v, v = val (tk bs r4.2.1 r4.2.2 4).1 := ⟨_, rfl⟩
      have HV0 := hidden hv0
      rw [← hv0]
      clear hv0
      obtain ⟨k0, k1, k2, k3, k4, k5, k6, kf⟩ := HA0.out.cells
      have HB0 := hidden (HA0.out.set { r4.1 with a := v0 } 5 (.int .u32 v0) rfl)
      go_wp2_with fail
      refine (gs_u32 (HB0.out)).mono ?_
      rintro e wa1 ⟨rfl, hg1⟩
      have HA1 := hidden hg1
      clear hg1 k0 k1 k2 k3 k4 k5 k6 kf
      obtain ⟨v1, hv1⟩ : ∃ v, v = val (tk bs (tk bs r4.2.1 r4.2.2 4).2.1 (tk bs r4.2.1 r4.2.2 4).2.2 4).1 := ⟨_, rfl⟩
      have HV1 := hidden hv1
      rw [← hv1]
      clear hv1
      obtain ⟨k0, k1, k2, k3, k4, k5, k6, kf⟩ := HA1.out.cells
      have HB1 := hidden (HA1.out.set { r4.1 with a := v0, t := v1 } 6 (.int .u32 v1) rfl)
      go_wp2_with fail
      go_meet
      case rel =>
        have e1 := HN8.out
        rw [← HV0.out, ← HV1.out] at e1
        exact ⟨by rw [e1]; exact HB1.out, by rw [e1]; exact hf4⟩
  case rest =>
  obtain ⟨w5, hw5⟩ : ∃ W, W = wc := ⟨_, rfl⟩
  rw [← hw5] at hcut ⊢
  have HC8 := hidden hcut.1
  have hf8 := hcut.2
  clear hcut hw5 k0 k1 k2 k3 k4 k5 k6 kf HC4 hf4
  obtain ⟨k0, k1, k2, k3, k4, k5, k6, kf⟩ := HC8.out.cells
  rw [hf8] at k0
  go_wp2_with fail
  refine (refused_c w5 HC8.out.rd).mono ?_
  rintro e w6 ⟨rfl, hk6⟩
  have HC9 := hidden (HC8.out.same hk6)
  clear k0 k1 k2 k3 k4 k5 k6 kf hk6
  have HR6 := hidden HC9.out.rs
  obtain ⟨z0, z1, z2, z3, z4, z5, z6, zf⟩ := cells7 HC9.out.rs
  have HKP := hidden HC9.out.kp
  clear hf8
  by_cases hy : r8.2.2 = 0
  · have d1 : decide (r8.2.2 ≠ 0) = false := by simp [hy]
    have e9 : rz = r8 := by rw [HRZ.out]; show get9 (get8 bs (get4 bs (get2 bs (get1 bs r0)))) = r8; rw [← HR1.out, ← HR2.out, ← HR4.out, ← HR8.out, get9, if_pos hy]
    have HY := hidden e9
    obtain ⟨k0, k1, k2, k3, k4, k5, k6, kf⟩ := HC9.out.cells
    rw [d1]
    clear hy d1 e9
    go_wp2_with fail
    have HE : Hid ((sets7 w6 R (.int .u32 r8.1.f) (.int .u64 r8.1.s) (.int .u32 r8.1.u) (.int .u32 r8.1.g) (.int .u32 r8.1.m) (.int .u32 r8.1.a) (.int .u32 r8.1.t)).heap[R]? = some (.cells r8.1.cells 40 (0, 0))) := hidden (sets7_heap HR6.out _ _ _ _ _ _ _)
    have HQ := hidden (sets7_keeps w6 R (.int .u32 r8.1.f) (.int .u64 r8.1.s) (.int .u32 r8.1.u) (.int .u32 r8.1.g) (.int .u32 r8.1.m) (.int .u32 r8.1.a) (.int .u32 r8.1.t))
    change bodyPost _ _ _ _ _ (sets7 w6 R (.int .u32 r8.1.f) (.int .u64 r8.1.s) (.int .u32 r8.1.u) (.int .u32 r8.1.g) (.int .u32 r8.1.m) (.int .u32 r8.1.a) (.int .u32 r8.1.t))
    generalize sets7 w6 R (.int .u32 r8.1.f) (.int .u64 r8.1.s) (.int .u32 r8.1.u) (.int .u32 r8.1.g) (.int .u32 r8.1.m) (.int .u32 r8.1.a) (.int .u32 r8.1.t) = w7 at HE HQ ⊢
    refine bodyPost_ret (results_agg1 rfl _ _ _ R r8.1.cells 40 (0, 0) rfl HE.out Try.underlying40 sizeA) rfl ?_
    rw [HY.out]
    exact ⟨rfl, HC9.out.rd.keepE HQ.out (fun e => hRa e.symm) HGR.out, keeps_out (HKP.out.trans (HQ.out.mono fun k _ e => .inr (by have := HRN.out; omega)))⟩
  · have d1 : decide (r8.2.2 ≠ 0) = true := by simp [hy]
    have e9 : rz = (zeroA, r8.2) := by rw [HRZ.out]; show get9 (get8 bs (get4 bs (get2 bs (get1 bs r0)))) = (zeroA, r8.2); rw [← HR1.out, ← HR2.out, ← HR4.out, ← HR8.out, get9, if_neg hy]
    have HY := hidden e9
    rw [d1]
    clear hy d1 e9
    go_wp2_with fail
    have HE : Hid ((sets7 w6 R (.int .u32 0) (.int .u64 0) (.int .u32 0) (.int .u32 0) (.int .u32 0) (.int .u32 0) (.int .u32 0)).heap[R]? = some (.cells zc 40 (0, 0))) := hidden (sets7_heap HR6.out _ _ _ _ _ _ _)
    have HQ := hidden (sets7_keeps w6 R (.int .u32 0) (.int .u64 0) (.int .u32 0) (.int .u32 0) (.int .u32 0) (.int .u32 0) (.int .u32 0))
    change bodyPost _ _ _ _ _ (sets7 w6 R (.int .u32 0) (.int .u64 0) (.int .u32 0) (.int .u32 0) (.int .u32 0) (.int .u32 0) (.int .u32 0))
    generalize sets7 w6 R (.int .u32 0) (.int .u64 0) (.int .u32 0) (.int .u32 0) (.int .u32 0) (.int .u32 0) (.int .u32 0) = w7 at HE HQ ⊢
    refine bodyPost_ret (results_agg1 rfl _ _ _ R zc 40 (0, 0) rfl HE.out Try.underlying40 sizeA) rfl ?_
    rw [HY.out]
    exact ⟨rfl, HC9.out.rd.keepE HQ.out (fun e => hRa e.symm) HGR.out, keeps_out (HKP.out.trans (HQ.out.mono fun k _ e => .inr (by have := HRN.out; omega)))⟩

end Go.Proofs.Ytnigfnikajejaaa
