/- The inverse: a power, by a loop of products. -/
import Derived.Test.YtdgapijgdbhlfaaDoorCuH
namespace Go.Proofs.YtdgapijgdbhlfaaDoor
open Go Go.RowKit

/-- The power behind k rounds. -/
def ivTo (a : Nat) : Nat → Nat
  | 0 => a
  | k + 1 => if k = 251 ∨ k = 249 then fmul (ivTo a k) (ivTo a k) else fmul (fmul (ivTo a k) (ivTo a k)) a
def inv (a : Nat) : Nat := ivTo a 254

/-- What lies ready: the number, the answer's place, the power. -/
structure VI (w wr : World) (g a p : Nat) : Prop where
  a : N5 wr w.heap.size a
  r : NB .u64 wr (w.heap.size + 1) 40 [0, 0, 0, 0, 0]
  p : N5 wr g p
  e : Ex w wr
  b : w.heap.size + 2 ≤ g
theorem VI.ext {w wr wr' : World} {g a p : Nat} (h : VI w wr g a p) (he : Ex wr wr') : VI w wr' g a p := ⟨h.a.ext he, h.r.fresh he, h.p.ext he, h.e.trans he, h.b⟩
theorem VI.set {w wr wr' : World} {g a p q : Nat} (h : VI w wr g a p) (hk : Keeps (fun k => k = g) wr wr') (hq : N5 wr' g q) : VI w wr' g a q :=
  ⟨h.a.keep hk (by have := h.b; omega), h.r.keep hk (by have := h.b; omega), hq, Below.trans h.e (hk.below (B := w.heap.size) h.e.size (by intro k e; have := h.b; omega)), h.b⟩
theorem ivTo_plain (a j : Nat) (hj : j < 254) (h2 : j ≠ 2) (h4 : j ≠ 4) : ivTo a (254 - j) = fmul (fmul (ivTo a (254 - (j + 1))) (ivTo a (254 - (j + 1)))) a := by
  obtain ⟨k, hk⟩ : ∃ k, 254 - (j + 1) = k := ⟨_, rfl⟩
  rw [show 254 - j = k + 1 by omega, hk, ivTo, if_neg (by omega)]

set_option maxHeartbeats 800000 in
set_option maxRecDepth 100000 in
theorem inverse_c {v : Value} {a : Nat} (h : IsN v a) (w : World) :
    Calls Tryd.prog 30 #[v] w fun e w' => ∃ r, e = .returned r ∧ IsN r (inv a) ∧ Ex w w' := by
  obtain ⟨X, rfl, hX⟩ := h
  have HX := hidden hX
  clear hX
  obtain ⟨A, hA⟩ : ∃ A, A = (ncells .u64 X).toArray := ⟨_, rfl⟩
  have HN1 : Hid (NB .u64 (w.alloc (.cells A 40)) w.heap.size 40 X) := by rw [hA]; exact NB.new w X
  rw [← hA]
  clear hA
  go_enter Tryd.func30, Tryd.ntmps30
  go_upto_region 1 with fail
  change Code.wp _ _ _ _ ((w.alloc (.cells A 40)).alloc (.cells (ncells .u64 [0, 0, 0, 0, 0]).toArray 40))
  have hs1 : (w.alloc (.cells A 40)).heap.size = w.heap.size + 1 := by simp
  have HE1 : Hid (Ex w (w.alloc (.cells A 40))) := Ex.alloc w _
  generalize w.alloc (.cells A 40) = w1 at HN1 HE1 hs1 ⊢
  have HE2 : Hid (Ex w1 (w1.alloc (.cells (ncells .u64 [0, 0, 0, 0, 0]).toArray 40))) := Ex.alloc w1 _
  have HN2 := hidden (NB.new (k := .u64) (t := 40) w1 [0, 0, 0, 0, 0])
  have hs2 : (w1.alloc (.cells (ncells .u64 [0, 0, 0, 0, 0]).toArray 40)).heap.size = w.heap.size + 2 := by simp [hs1]
  generalize w1.alloc (.cells (ncells .u64 [0, 0, 0, 0, 0]).toArray 40) = w2 at HN2 HE2 hs2 ⊢
  rw [hs1] at HN2
  have HS2 := hidden hs2
  have HA2 : Hid (N5 w2 w.heap.size a) := ⟨X, HN1.out.fresh HE2.out, HX.out⟩
  have HE := hidden (HE1.out.trans HE2.out)
  clear hs1 hs2 HN1 HE1 HE2 HX
  go_wp2_with (first
    | (refine wpList_load5 (x := .tmp 1) rfl rfl (by kernel_rfl) HA2.out ?_; intro v5 i5)
    | (refine wpList_new (d := 3) (e := 5) (v := v5) ⟨rfl, rfl⟩ rfl rfl rfl rfl (by kernel_rfl) (by kernel_rfl) i5 (by decide) ?_; intro g3 w3 hx n1 b1))
  have HV : Hid (VI w w3 g3 a (ivTo a (254 - 254))) := ⟨HA2.out.ext hx, HN2.out.fresh hx, n1, HE.out.trans hx, by have := HS2.out; omega⟩
  clear HA2 HN2 HE hx n1 b1 i5 HS2
  go_loopw [4] (fun c wr => ∃ b : Nat, b ≤ 254 ∧ c = .int .i64 ((b : Int) - 1) ∧ VI w wr g3 a (ivTo a (254 - b))) (fun c _ => (intOf c + 1).toNat)
  case atStart => exact ⟨254, by omega, rfl, HV.out⟩
  case round =>
    clear HV
    obtain ⟨b, hb, rfl, hv⟩ := hrel
    have HV := hidden hv
    clear hv
    by_cases hz : b = 0
    · subst hz
      go_wp2_with (first
        | (refine wpList_load5 (x := .tmp 3) rfl rfl (by kernel_rfl) HV.out.p ?_; intro v22 i22; obtain ⟨R, hR, tR⟩ := i22; subst hR; have HT := hidden tR; clear tR; obtain ⟨z1, y1, x1⟩ := row_facts R HT.out.len; have HZ := hidden z1; have HY := hidden y1; have HX := hidden x1; clear z1 y1 x1)
        | (refine wpList_store_row rfl 40 (.tmp 2) (.tmp 22) rfl (w.heap.size + 1) (ncells .u64 R).toArray rfl rfl 40 _ HV.out.r HZ.out HX.out HY.out ?_))
      have HR1 : Hid ((wr.setRow (w.heap.size + 1) (ncells .u64 R).toArray).heap[w.heap.size + 1]? = some (.cells (ncells .u64 R).toArray 40 (0, 0))) := setRow_heap wr (w.heap.size + 1) _ _ _ _ HV.out.r
      have HL1 : Hid (Ex w (wr.setRow (w.heap.size + 1) (ncells .u64 R).toArray)) := below_setRow HV.out.e (by omega) _
      (try simp only [Exit.inBlock, Exit.then])
      refine bodyPost_ret (results_cell1 rfl _ _ _ (w.heap.size + 1) (ncells .u64 R).toArray 40 (0, 0) 5 38 rfl HR1.out Tryd.underlying40 HZ.out) rfl ?_
      exact ⟨_, rfl, ⟨R, rfl, HT.out⟩, HL1.out⟩
    · obtain ⟨j, rfl⟩ : ∃ j, b = j + 1 := ⟨b - 1, by omega⟩
      rw [show ((j + 1 : Nat) : Int) - 1 = (j : Int) by omega]
      have hj0 : (0 : Int) ≤ (j : Int) := by omega
      generalize hp : ivTo a (254 - (j + 1)) = p at HV
      have HP := hidden hp
      clear hp
      have HJ := hidden (show j < 254 by omega)
      by_cases h2 : j = 2
      · subst h2
        go_wp2_with (first
          | (refine wpList_load5d (d := 10) (x := .tmp 3) rfl rfl rfl (by kernel_rfl) HV.out.p ?_; intro v10 i10)
          | (refine wpList_load5d (d := 11) (x := .tmp 3) rfl rfl rfl (by kernel_rfl) HV.out.p ?_; intro v11 i11)
          | (refine wpList_times (x := .tmp 10) (y := .tmp 11) (vx := v10) (vy := v11) rfl rfl (by kernel_rfl) i10 (by kernel_rfl) i11 ?_; intro v12 w4 i12 hx)
          | (refine wpList_over (x := .tmp 3) (y := .tmp 12) (v := v12) rfl rfl rfl (by kernel_rfl) (by kernel_rfl) i12 (HV.out.ext hx).p ?_; intro w5 hk n5))
        go_roundw
        case rel =>
          refine ⟨2, by omega, by go_num, ?_⟩
          rw [show ivTo a (254 - 2) = fmul p p by rw [← HP.out]; rfl]
          exact (HV.out.ext hx).set hk n5
        case measure => simp [intOf]
      · by_cases h4 : j = 4
        · subst h4
          go_wp2_with (first
            | (refine wpList_load5d (d := 10) (x := .tmp 3) rfl rfl rfl (by kernel_rfl) HV.out.p ?_; intro v10 i10)
            | (refine wpList_load5d (d := 11) (x := .tmp 3) rfl rfl rfl (by kernel_rfl) HV.out.p ?_; intro v11 i11)
            | (refine wpList_times (x := .tmp 10) (y := .tmp 11) (vx := v10) (vy := v11) rfl rfl (by kernel_rfl) i10 (by kernel_rfl) i11 ?_; intro v12 w4 i12 hx)
            | (refine wpList_over (x := .tmp 3) (y := .tmp 12) (v := v12) rfl rfl rfl (by kernel_rfl) (by kernel_rfl) i12 (HV.out.ext hx).p ?_; intro w5 hk n5))
          go_roundw
          case rel =>
            refine ⟨4, by omega, by go_num, ?_⟩
            rw [show ivTo a (254 - 4) = fmul p p by rw [← HP.out]; rfl]
            exact (HV.out.ext hx).set hk n5
          case measure => simp [intOf]
        · have hi2 : ((j : Int) != 2) = true := by rw [bne_iff_ne]; omega
          have hi4 : ((j : Int) != 4) = true := by rw [bne_iff_ne]; omega
          have HI := hidden (ivTo_plain a j HJ.out h2 h4)
          clear h2 h4
          go_wp2_with (first
            | (refine wpList_load5d (d := 10) (x := .tmp 3) rfl rfl rfl (by kernel_rfl) HV.out.p ?_; intro v10 i10)
            | (refine wpList_load5d (d := 11) (x := .tmp 3) rfl rfl rfl (by kernel_rfl) HV.out.p ?_; intro v11 i11)
            | (refine wpList_times (x := .tmp 10) (y := .tmp 11) (vx := v10) (vy := v11) rfl rfl (by kernel_rfl) i10 (by kernel_rfl) i11 ?_; intro v12 w4 i12 hx)
            | (refine wpList_over (x := .tmp 3) (y := .tmp 12) (v := v12) rfl rfl rfl (by kernel_rfl) (by kernel_rfl) i12 (HV.out.ext hx).p ?_; intro w5 hk n5; have HV5 := hidden ((HV.out.ext hx).set hk n5); clear HV hx hk n5 i10 i11 i12)
            | (refine wpList_load5d (d := 19) (x := .tmp 3) rfl rfl rfl (by kernel_rfl) HV5.out.p ?_; intro v19 i19)
            | (refine wpList_load5d (d := 20) (x := .tmp 1) rfl rfl rfl (by kernel_rfl) HV5.out.a ?_; intro v20 i20)
            | (refine wpList_times (x := .tmp 19) (y := .tmp 20) (vx := v19) (vy := v20) rfl rfl (by kernel_rfl) i19 (by kernel_rfl) i20 ?_; intro v21 w6 i21 hx)
            | (refine wpList_over (x := .tmp 3) (y := .tmp 21) (v := v21) rfl rfl rfl (by kernel_rfl) (by kernel_rfl) i21 (HV5.out.ext hx).p ?_; intro w7 hk n7))
          go_roundw
          case rel =>
            refine ⟨j, by omega, by go_num, ?_⟩
            rw [HI.out, HP.out]
            exact (HV5.out.ext hx).set hk n7
          case measure => simp [intOf]
end Go.Proofs.YtdgapijgdbhlfaaDoor
