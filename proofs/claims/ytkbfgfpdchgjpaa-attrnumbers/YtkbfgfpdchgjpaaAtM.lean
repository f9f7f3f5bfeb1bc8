/- The law AttrBack. -/
import Derived.Test.YtkbfgfpdchgjpaaAtK
import Derived.Test.YtkbfgfpdchgjpaaAtQ
import Derived.Deep.RegionHeld3
namespace Go.Proofs.Ytkbfgfpdchgjpaa
open Go Go.RowKit

/-- A box with attributes. -/
def ABox (w : World) (B : Nat) (x : At) : Prop := w.heap[B]? = some (.cells #[.int .u32 x.f, .int .u64 x.s, .int .u32 x.u, .int .u32 x.g, .int .u32 x.m, .int .u32 x.a, .int .u32 x.t] 25 (0, 0))
theorem ABox.keep {S : Nat → Prop} {w w' : World} {B : Nat} {x : At} (h : ABox w B x) (hk : Keeps S w w') (hn : ¬ S B) : ABox w' B x := box_keep h hk hn
theorem ABox.fresh {w w' : World} {B : Nat} {x : At} (h : ABox w B x) (hk : Below w.heap.size w w') : ABox w' B x := box_keep h (Keeps.ofFresh (S := fun _ => False) hk) (fun h => h)
theorem ABox.alloc {w : World} {B : Nat} {x : At} (h : ABox w B x) (o : Obj) : ABox (w.alloc o) B x := (Below.heap_alloc w o B (lt_of_block h)).trans h
theorem ABox.new (w : World) (x : At) : ABox (w.alloc (.cells #[.int .u32 x.f, .int .u64 x.s, .int .u32 x.u, .int .u32 x.g, .int .u32 x.m, .int .u32 x.a, .int .u32 x.t] 25)) w.heap.size x := heap_alloc_new w _
theorem ABox.lt {w : World} {B : Nat} {x : At} (h : ABox w B x) : B < w.heap.size := lt_of_block h
theorem abox_two (w : World) (x y : At) : ABox ((w.alloc (.cells x.cells 25)).alloc (.cells y.cells 25)) w.heap.size x ∧ ABox ((w.alloc (.cells x.cells 25)).alloc (.cells y.cells 25)) (w.heap.size + 1) y ∧ Below w.heap.size w ((w.alloc (.cells x.cells 25)).alloc (.cells y.cells 25)) := by
  refine ⟨(ABox.new w x).alloc _, ?_, ((Below.refl _ w).alloc (Nat.le_refl _) _).alloc (by simp) _⟩
  have := ABox.new (w.alloc (.cells x.cells 25)) y
  have e : (w.alloc (.cells x.cells 25)).heap.size = w.heap.size + 1 := by simp
  rw [e] at this
  exact this

theorem ps_keeps {w10 w' : World} {A B C D : Prop} (h : A ∧ B ∧ C ∧ D ∧ Keeps (fun _ => False) w10 w') : Keeps (fun _ => False) w10 w' := h.2.2.2.2

set_option maxHeartbeats 3200000 in
set_option maxRecDepth 100000 in
theorem attrBack_c (x y : At) (hx : x.Ok) (hy : y.Ok) (v : Value) (zs : List UInt8) (W : World) (hv : BSl W v zs) (hl : zs.length ≤ 140737488351232) :
    Calls Try.prog 5 #[x.v, y.v, v] W fun e w' => e = .returned (.bool true) ∧ Below W.heap.size W w' := by
  obtain ⟨hbx, hby, hb0⟩ := abox_two W x y
  obtain ⟨w1, hw1⟩ : ∃ V, V = (W.alloc (.cells x.cells 25)).alloc (.cells y.cells 25) := ⟨_, rfl⟩
  rw [← hw1] at hbx hby hb0
  have HBX := hidden hbx
  have HBY := hidden hby
  have HB0 := hidden hb0
  have HV1 := hidden (hv.fresh hb0)
  have HW1 := hidden hw1
  obtain ⟨ao, cap, rfl⟩ := hv.len
  clear hbx hby hb0 hw1 hv
  have HRX := hidden (fun w => right_c x hx w)
  have HRY := hidden (fun w => right_c y hy w)
  have HLP := hidden (fun w => lput_c x hx w)
  obtain ⟨m, hm⟩ : ∃ m, m = mergeA x y := ⟨_, rfl⟩
  have HM := hidden hm
  have hmg := fun w => merge_c x y hx hy w
  rw [← hm] at hmg
  have HMG := hidden hmg
  clear hm hmg
  have HVX : Hid (x.v = .agg #[.int .u32 x.f, .int .u64 x.s, .int .u32 x.u, .int .u32 x.g, .int .u32 x.m, .int .u32 x.a, .int .u32 x.t]) := hidden rfl
  have HVY : Hid (y.v = .agg #[.int .u32 y.f, .int .u64 y.s, .int .u32 y.u, .int .u32 y.g, .int .u32 y.m, .int .u32 y.a, .int .u32 y.t]) := hidden rfl
  unfold At.v at *
  unfold At.cells at *
  cases hrx : rightA x with
  | false =>
    rw [hrx] at HRX
    go_enter Try.func5, Try.ntmps5
    go_wp2_with fail
    rw [← HW1.out]
    refine (HRX.out w1).mono ?_
    rintro e w2 ⟨rfl, hb2⟩
    go_wp2_with fail
    refine (known_c _).mono ?_
    rintro e w3 ⟨rfl, hb3⟩
    go_wp2_with fail
    go_ret
    exact ⟨rfl, HB0.out.trans ((hb2.mono HB0.out.size).trans (hb3.mono (Nat.le_trans HB0.out.size hb2.size)))⟩
  | true =>
  cases hry : rightA y with
  | false =>
    rw [hrx] at HRX
    rw [hry] at HRY
    go_enter Try.func5, Try.ntmps5
    go_wp2_with fail
    rw [← HW1.out]
    refine (HRX.out w1).mono ?_
    rintro e w2 ⟨rfl, hb2⟩
    have hby2 := HBY.out.fresh hb2
    obtain ⟨k0, k1, k2, k3, k4, k5, k6, kf⟩ := cells7 hby2
    go_wp2_with fail
    refine (HRY.out w2).mono ?_
    rintro e w4 ⟨rfl, hb4⟩
    clear k0 k1 k2 k3 k4 k5 k6 kf
    go_wp2_with fail
    refine (known_c _).mono ?_
    rintro e w3 ⟨rfl, hb3⟩
    go_wp2_with fail
    go_ret
    exact ⟨rfl, HB0.out.trans ((hb2.mono HB0.out.size).trans ((hb4.mono (Nat.le_trans HB0.out.size hb2.size)).trans (hb3.mono (Nat.le_trans HB0.out.size (Nat.le_trans hb2.size hb4.size)))))⟩
  | true =>
  rw [hrx] at HRX
  rw [hry] at HRY
  have HRI := hidden ((right_iff x).1 hrx)
  have HRJ := hidden ((right_iff y).1 hry)
  clear hrx hry
  obtain ⟨i0, hi, hz0, hz1, hz2⟩ := info_parts Try.infoU8
  have HPL := hidden (putA_le x)
  obtain ⟨A, hA⟩ : ∃ A, A = W.heap.size := ⟨_, rfl⟩
  rw [← hA] at HBX HBY
  have HA := hidden hA
  clear hA
  go_enter Try.func5, Try.ntmps5
  go_wp2_with fail
  rw [← HW1.out, ← HA.out]
  clear HW1
  refine (HRX.out w1).mono ?_
  rintro e w2 ⟨rfl, hb2⟩
  have HBX2 := hidden (HBX.out.fresh hb2)
  have HBY2 := hidden (HBY.out.fresh hb2)
  have HV2 := hidden (HV1.out.fresh hb2)
  have HB2 : Hid (Below W.heap.size W w2) := hidden (HB0.out.trans (hb2.mono HB0.out.size))
  clear hb2 HBX HBY HV1 HB0
  obtain ⟨k0, k1, k2, k3, k4, k5, k6, kf⟩ := cells7 HBY2.out
  go_wp2_with fail
  refine (HRY.out w2).mono ?_
  rintro e w3 ⟨rfl, hb3⟩
  have HBX3 := hidden (HBX2.out.fresh hb3)
  have HBY3 := hidden (HBY2.out.fresh hb3)
  have HV3 := hidden (HV2.out.fresh hb3)
  have HB3 : Hid (Below W.heap.size W w3) := hidden (HB2.out.trans (hb3.mono HB2.out.size))
  clear hb3 HBX2 HBY2 HV2 HB2 k0 k1 k2 k3 k4 k5 k6 kf
  obtain ⟨k0, k1, k2, k3, k4, k5, k6, kf⟩ := cells7 HBX3.out
  go_wp2_with fail
  refine (HLP.out w3).mono ?_
  rintro e w4 ⟨v4, rfl, ho4, hb4⟩
  have HBX4 := hidden (HBX3.out.fresh hb4)
  have HBY4 := hidden (HBY3.out.fresh hb4)
  have hv4 := HV3.out.fresh hb4
  have HB4 : Hid (Below W.heap.size W w4) := hidden (HB3.out.trans (hb4.mono HB3.out.size))
  have hlo : W.heap.size ≤ w3.heap.size := HB3.out.size
  have hsrc := hv4.src
  have hpl := HPL.out
  have hs4 := hb4.size
  have HL3 : Hid (A < w3.heap.size ∧ A + 1 < w3.heap.size) := hidden ⟨HBX3.out.lt, HBY3.out.lt⟩
  clear hb4 HBX3 HBY3 HV3 HB3 k0 k1 k2 k3 k4 k5 k6 kf HLP
  obtain ⟨a4, p4, rfl⟩ := ownsRow_shape ho4
  obtain ⟨P, hP⟩ : ∃ P, P = putA x := ⟨_, rfl⟩
  rw [← hP] at ho4 hpl ⊢
  have HP := hidden hP
  have HO4 := hidden ho4
  clear hP HPL
  generalize hzn : zs.length = zn at *
  generalize hpn : P.length = pn at *
  have HZN := hidden hzn
  have HPN := hidden hpn
  clear hzn hpn
  go_wp2_with (at_builtin; refine wpList_append_src _ rfl (.tmp 22) (.tmp 23) 27 27 rfl w3.heap.size 5 i0 _ 1 Try.underlying27 hi hz0 hz1 hz2 rfl _ _ _ rfl ho4 _ zn (bcells zs) rfl hsrc (by unfold maxLen; omega) (by omega) (by omega) w4.heap.size rfl ?_)
  intro v5 w5 hown5 hgrow5 hnil5 hat5
  have hk5 : Keeps (fun k => w3.heap.size ≤ k) w4 w5 := Keeps.ofGrown hgrow5 (fun k e => (HO4.out.lt k e).1)
  have HBX5 := hidden (HBX4.out.keep hk5 (by have := HL3.out.1; omega))
  have HBY5 := hidden (HBY4.out.keep hk5 (by have := HL3.out.2; omega))
  have HB5 : Hid (Below W.heap.size W w5) := hidden (HB4.out.trans (hk5.below HB4.out.size (fun k e => Nat.le_trans hlo e)))
  have hbs5 : BSl w5 v5 (P ++ zs) := BSl.ofRow (by rw [bcells_append]; exact hown5)
  have HL5 : Hid ((P ++ zs).length ≤ 140737488355328) := hidden (by rw [List.length_append, HPN.out, HZN.out]; omega)
  have HGB : Hid (getA (P ++ zs) 0 0 = (x, (pn, 0))) := hidden (by have := get_back x hx HRI.out zs; rw [← HP.out, HPN.out] at this; exact this)
  have HLF : Hid (lft (P ++ zs) pn 0 = zn) := hidden (by unfold lft; rw [if_pos rfl, List.length_append, HPN.out, HZN.out]; omega)
  have HBS5 := hidden hbs5
  obtain ⟨a5, p5, rfl⟩ := ownsRow_shape hown5
  clear hown5 hgrow5 hnil5 hat5 hk5 HBX4 HBY4 HB4 hv4 hsrc ho4 HO4 hbs5
  generalize P ++ zs = bs at HBS5 HL5 HGB HLF
  go_wp2_with fail
  refine (newReader_c _ bs w5 HBS5.out HL5.out).mono ?_
  rintro e w6 ⟨a, g, rfl, h6, ha6, hg6, hb6⟩
  have H6 := hidden h6
  have HBX6 := hidden (HBX5.out.fresh hb6)
  have HBY6 := hidden (HBY5.out.fresh hb6)
  have HB6 : Hid (Below W.heap.size W w6) := hidden (HB5.out.trans (hb6.mono HB5.out.size))
  have HA6 : Hid (W.heap.size ≤ a ∧ a ≠ A ∧ a ≠ A + 1) := hidden ⟨Nat.le_trans HB5.out.size ha6, by have := HBX5.out.lt; omega, by have := HBY5.out.lt; omega⟩
  clear h6 ha6 hg6 hb6 HBX5 HBY5 HB5 HBS5
  go_wp2_with fail
  refine (get_c w6 H6.out).mono ?_
  rintro e w7 ⟨rfl, ht7⟩
  rw [HGB.out] at ht7 ⊢
  have HT7 : Hid (WR w7 a g bs pn 0) := hidden ht7.state
  have HBX7 := hidden (HBX6.out.keep ht7.keeps (by have := HA6.out; omega))
  have HBY7 := hidden (HBY6.out.keep ht7.keeps (by have := HA6.out; omega))
  have HB7 : Hid (Below W.heap.size W w7) := hidden (HB6.out.trans (ht7.keeps.below HB6.out.size (fun k e => by have := HA6.out; omega)))
  clear ht7 H6 HBX6 HBY6 HB6
  unfold At.v At.cells
  go_upto_region 7 with fail
  obtain ⟨w8, hw8⟩ : ∃ V, V = w7.alloc (.cells #[.int .u32 x.f, .int .u64 x.s, .int .u32 x.u, .int .u32 x.g, .int .u32 x.m, .int .u32 x.a, .int .u32 x.t] 25) := ⟨_, rfl⟩
  have HBX8 : Hid (ABox w8 A x) := hidden (by rw [hw8]; exact HBX7.out.alloc _)
  have HBY8 : Hid (ABox w8 (A + 1) y) := hidden (by rw [hw8]; exact HBY7.out.alloc _)
  have HBR8 : Hid (ABox w8 w7.heap.size x) := hidden (by rw [hw8]; exact ABox.new w7 x)
  have HT8 : Hid (WR w8 a g bs pn 0) := hidden (by rw [hw8]; exact HT7.out.same ((Keeps.refl _ _).alloc _))
  have HB8 : Hid (Below W.heap.size W w8) := hidden (by rw [hw8]; exact HB7.out.alloc HB7.out.size _)
  rw [← hw8]
  obtain ⟨R, hR⟩ : ∃ c, c = w7.heap.size := ⟨_, rfl⟩
  rw [← hR] at HBR8 ⊢
  clear hw8 hR HBX7 HBY7 HB7 HT7
  obtain ⟨k0, k1, k2, k3, k4, k5, k6, kf⟩ := cells7 HBX8.out
  obtain ⟨l0, l1, l2, l3, l4, l5, l6, lf⟩ := cells7 HBY8.out
  go_wp2_with fail
  refine (HMG.out w8).mono ?_
  rintro e w9 ⟨rfl, hb9⟩
  clear k0 k1 k2 k3 k4 k5 k6 kf l0 l1 l2 l3 l4 l5 l6 lf
  have HBX9 := hidden (HBX8.out.fresh hb9)
  have HBY9 := hidden (HBY8.out.fresh hb9)
  have HBR9 := hidden (HBR8.out.fresh hb9)
  have HT9 : Hid (WR w9 a g bs pn 0) := hidden (HT8.out.fresh hb9)
  have HB9 : Hid (Below W.heap.size W w9) := hidden (HB8.out.trans (hb9.mono HB8.out.size))
  clear hb9 HBX8 HBY8 HBR8 HT8 HB8
  go_upto_region 8 with fail
  obtain ⟨w10, hw10⟩ : ∃ V, V = w9.alloc (.cells #[.int .u32 m.f, .int .u64 m.s, .int .u32 m.u, .int .u32 m.g, .int .u32 m.m, .int .u32 m.a, .int .u32 m.t] 25) := ⟨_, rfl⟩
  have HBX10 : Hid (ABox w10 A x) := hidden (by rw [hw10]; exact HBX9.out.alloc _)
  have HBY10 : Hid (ABox w10 (A + 1) y) := hidden (by rw [hw10]; exact HBY9.out.alloc _)
  have HBR10 : Hid (ABox w10 R x) := hidden (by rw [hw10]; exact HBR9.out.alloc _)
  have HBM10 : Hid (ABox w10 w9.heap.size m) := hidden (by rw [hw10]; exact ABox.new w9 m)
  have HT10 : Hid (WR w10 a g bs pn 0) := hidden (by rw [hw10]; exact HT9.out.same ((Keeps.refl _ _).alloc _))
  have HB10 : Hid (Below W.heap.size W w10) := hidden (by rw [hw10]; exact HB9.out.alloc HB9.out.size _)
  rw [← hw10]
  obtain ⟨M, hMM⟩ : ∃ c, c = w9.heap.size := ⟨_, rfl⟩
  rw [← hMM] at HBM10 ⊢
  clear hw10 hMM HBX9 HBY9 HBR9 HB9 HT9
  have HQL : Hid (∀ w', Keeps (fun _ => False) w10 w' → Calls Try.prog 19 #[.pointer (some ⟨a, 0, none⟩)] w' fun e w'' => e = .returned (.int .i64 (zn : Int)) ∧ Keeps (fun _ => False) w10 w'') := hidden fun w' hk => by
    refine (left_c w' (HT10.out.same hk)).mono ?_
    rintro e w'' ⟨rfl, hk2⟩
    rw [HLF.out]
    exact ⟨rfl, hk.trans hk2⟩
  have HMO : Hid (m.Ok ∧ Right m) := hidden (by rw [HM.out]; exact ⟨merge_ok x y hx hy, merge_right x y HRI.out HRJ.out⟩)
  have HQR : Hid (∀ w', Keeps (fun _ => False) w10 w' → Calls Try.prog 10 #[.agg #[.int .u32 m.f, .int .u64 m.s, .int .u32 m.u, .int .u32 m.g, .int .u32 m.m, .int .u32 m.a, .int .u32 m.t]] w' fun e w'' => e = .returned (.bool true) ∧ Keeps (fun _ => False) w10 w'') := hidden fun w' hk => by
    refine (right_c m HMO.out.1 w').mono ?_
    rintro e w'' ⟨rfl, hb⟩
    rw [(right_iff m).2 HMO.out.2]
    exact ⟨rfl, hk.trans (Keeps.ofFresh hb)⟩
  have HQ1 : Hid (∀ w', Keeps (fun _ => False) w10 w' → Calls Try.prog 12 #[.agg #[.int .u32 x.f, .int .u64 x.s, .int .u32 x.u, .int .u32 x.g, .int .u32 x.m, .int .u32 x.a, .int .u32 x.t], .agg #[.int .u32 x.f, .int .u64 x.s, .int .u32 x.u, .int .u32 x.g, .int .u32 x.m, .int .u32 x.a, .int .u32 x.t]] w' fun e w'' => e = .returned (.agg #[.int .u32 x.f, .int .u64 x.s, .int .u32 x.u, .int .u32 x.g, .int .u32 x.m, .int .u32 x.a, .int .u32 x.t]) ∧ Keeps (fun _ => False) w10 w'') := hidden fun w' hk => by
    refine (merge_c x x hx hx w').mono ?_
    rintro e w'' ⟨rfl, hb⟩
    rw [show mergeA x x = x from merge_self x]
    exact ⟨rfl, hk.trans (Keeps.ofFresh hb)⟩
  have HQ2 : Hid (∀ w', Keeps (fun _ => False) w10 w' → Calls Try.prog 12 #[.agg #[.int .u32 x.f, .int .u64 x.s, .int .u32 x.u, .int .u32 x.g, .int .u32 x.m, .int .u32 x.a, .int .u32 x.t], .agg #[.int .u32 0, .int .u64 0, .int .u32 0, .int .u32 0, .int .u32 0, .int .u32 0, .int .u32 0]] w' fun e w'' => e = .returned (.agg #[.int .u32 x.f, .int .u64 x.s, .int .u32 x.u, .int .u32 x.g, .int .u32 x.m, .int .u32 x.a, .int .u32 x.t]) ∧ Keeps (fun _ => False) w10 w'') := hidden fun w' hk => by
    refine (merge_c x zeroA hx zero_ok w').mono ?_
    rintro e w'' ⟨rfl, hb⟩
    rw [show mergeA x zeroA = x from merge_zero x]
    exact ⟨rfl, hk.trans (Keeps.ofFresh hb)⟩
  have HQ3 : Hid (∀ w', Keeps (fun _ => False) w10 w' → Calls Try.prog 12 #[.agg #[.int .u32 0, .int .u64 0, .int .u32 0, .int .u32 0, .int .u32 0, .int .u32 0, .int .u32 0], .agg #[.int .u32 x.f, .int .u64 x.s, .int .u32 x.u, .int .u32 x.g, .int .u32 x.m, .int .u32 x.a, .int .u32 x.t]] w' fun e w'' => e = .returned (.agg #[.int .u32 x.f, .int .u64 x.s, .int .u32 x.u, .int .u32 x.g, .int .u32 x.m, .int .u32 x.a, .int .u32 x.t]) ∧ Keeps (fun _ => False) w10 w'') := hidden fun w' hk => by
    refine (merge_c zeroA x zero_ok hx w').mono ?_
    rintro e w'' ⟨rfl, hb⟩
    rw [show mergeA zeroA x = x from zero_merge x HRI.out]
    exact ⟨rfl, hk.trans (Keeps.ofFresh hb)⟩
  have HQ4 : Hid (∀ w', Keeps (fun _ => False) w10 w' → Calls Try.prog 12 #[.agg #[.int .u32 m.f, .int .u64 m.s, .int .u32 m.u, .int .u32 m.g, .int .u32 m.m, .int .u32 m.a, .int .u32 m.t], .agg #[.int .u32 y.f, .int .u64 y.s, .int .u32 y.u, .int .u32 y.g, .int .u32 y.m, .int .u32 y.a, .int .u32 y.t]] w' fun e w'' => e = .returned (.agg #[.int .u32 m.f, .int .u64 m.s, .int .u32 m.u, .int .u32 m.g, .int .u32 m.m, .int .u32 m.a, .int .u32 m.t]) ∧ Keeps (fun _ => False) w10 w'') := hidden fun w' hk => by
    refine (merge_c m y HMO.out.1 hy w').mono ?_
    rintro e w'' ⟨rfl, hb⟩
    rw [show mergeA m y = m from (by rw [HM.out]; exact merge_again x y)]
    exact ⟨rfl, hk.trans (Keeps.ofFresh hb)⟩
  have HS : Hid (∀ w', Keeps (fun _ => False) w10 w' → (w'.cell? ⟨A, 0, none⟩ = some (.int .u32 x.f) ∧ w'.cell? ⟨A, 1, none⟩ = some (.int .u64 x.s) ∧ w'.cell? ⟨A, 2, none⟩ = some (.int .u32 x.u) ∧ w'.cell? ⟨A, 3, none⟩ = some (.int .u32 x.g) ∧ w'.cell? ⟨A, 4, none⟩ = some (.int .u32 x.m) ∧ w'.cell? ⟨A, 5, none⟩ = some (.int .u32 x.a) ∧ w'.cell? ⟨A, 6, none⟩ = some (.int .u32 x.t)) ∧ (w'.cell? ⟨A + 1, 0, none⟩ = some (.int .u32 y.f) ∧ w'.cell? ⟨A + 1, 1, none⟩ = some (.int .u64 y.s) ∧ w'.cell? ⟨A + 1, 2, none⟩ = some (.int .u32 y.u) ∧ w'.cell? ⟨A + 1, 3, none⟩ = some (.int .u32 y.g) ∧ w'.cell? ⟨A + 1, 4, none⟩ = some (.int .u32 y.m) ∧ w'.cell? ⟨A + 1, 5, none⟩ = some (.int .u32 y.a) ∧ w'.cell? ⟨A + 1, 6, none⟩ = some (.int .u32 y.t)) ∧ (w'.cell? ⟨R, 0, none⟩ = some (.int .u32 x.f) ∧ w'.cell? ⟨R, 1, none⟩ = some (.int .u64 x.s) ∧ w'.cell? ⟨R, 2, none⟩ = some (.int .u32 x.u) ∧ w'.cell? ⟨R, 3, none⟩ = some (.int .u32 x.g) ∧ w'.cell? ⟨R, 4, none⟩ = some (.int .u32 x.m) ∧ w'.cell? ⟨R, 5, none⟩ = some (.int .u32 x.a) ∧ w'.cell? ⟨R, 6, none⟩ = some (.int .u32 x.t)) ∧ (w'.cell? ⟨M, 0, none⟩ = some (.int .u32 m.f) ∧ w'.cell? ⟨M, 1, none⟩ = some (.int .u64 m.s) ∧ w'.cell? ⟨M, 2, none⟩ = some (.int .u32 m.u) ∧ w'.cell? ⟨M, 3, none⟩ = some (.int .u32 m.g) ∧ w'.cell? ⟨M, 4, none⟩ = some (.int .u32 m.m) ∧ w'.cell? ⟨M, 5, none⟩ = some (.int .u32 m.a) ∧ w'.cell? ⟨M, 6, none⟩ = some (.int .u32 m.t)) ∧ Keeps (fun _ => False) w10 w') := hidden fun w' hk => by
    obtain ⟨a0, a1, a2, a3, a4, a5, a6, _⟩ := cells7 (HBX10.out.keep hk (fun h => h))
    obtain ⟨b0, b1, b2, b3, b4, b5, b6, _⟩ := cells7 (HBY10.out.keep hk (fun h => h))
    obtain ⟨c0, c1, c2, c3, c4, c5, c6, _⟩ := cells7 (HBR10.out.keep hk (fun h => h))
    obtain ⟨d0, d1, d2, d3, d4, d5, d6, _⟩ := cells7 (HBM10.out.keep hk (fun h => h))
    exact ⟨⟨a0, a1, a2, a3, a4, a5, a6⟩, ⟨b0, b1, b2, b3, b4, b5, b6⟩, ⟨c0, c1, c2, c3, c4, c5, c6⟩, ⟨d0, d1, d2, d3, d4, d5, d6⟩, hk⟩
  have HMS : Hid ((bt 1 y.f = true → ((m.s : Int) == (y.s : Int)) = true) ∧ (bt 1 y.f = false → ((m.s : Int) == (x.s : Int)) = true) ∧ (bt 4 y.f = true → ((m.m : Int) == (y.m : Int)) = true) ∧ (bt 4 y.f = false → ((m.m : Int) == (x.m : Int)) = true)) := hidden (by
    rw [HM.out]
    refine ⟨fun e => ?_, fun e => ?_, fun e => ?_, fun e => ?_⟩ <;> simp [mergeA, e])
  have hor : bits BinOp.or IntKind.u32 (x.f : Int) (y.f : Int) = (m.f : Int) := by rw [HM.out]; exact or_flags x y hx hy
  clear HM HRX HRY HMG HVX HVY
  go_region_held3 (fun w' => (w'.cell? ⟨A, 0, none⟩ = some (.int .u32 x.f) ∧ w'.cell? ⟨A, 1, none⟩ = some (.int .u64 x.s) ∧ w'.cell? ⟨A, 2, none⟩ = some (.int .u32 x.u) ∧ w'.cell? ⟨A, 3, none⟩ = some (.int .u32 x.g) ∧ w'.cell? ⟨A, 4, none⟩ = some (.int .u32 x.m) ∧ w'.cell? ⟨A, 5, none⟩ = some (.int .u32 x.a) ∧ w'.cell? ⟨A, 6, none⟩ = some (.int .u32 x.t)) ∧ (w'.cell? ⟨A + 1, 0, none⟩ = some (.int .u32 y.f) ∧ w'.cell? ⟨A + 1, 1, none⟩ = some (.int .u64 y.s) ∧ w'.cell? ⟨A + 1, 2, none⟩ = some (.int .u32 y.u) ∧ w'.cell? ⟨A + 1, 3, none⟩ = some (.int .u32 y.g) ∧ w'.cell? ⟨A + 1, 4, none⟩ = some (.int .u32 y.m) ∧ w'.cell? ⟨A + 1, 5, none⟩ = some (.int .u32 y.a) ∧ w'.cell? ⟨A + 1, 6, none⟩ = some (.int .u32 y.t)) ∧ (w'.cell? ⟨R, 0, none⟩ = some (.int .u32 x.f) ∧ w'.cell? ⟨R, 1, none⟩ = some (.int .u64 x.s) ∧ w'.cell? ⟨R, 2, none⟩ = some (.int .u32 x.u) ∧ w'.cell? ⟨R, 3, none⟩ = some (.int .u32 x.g) ∧ w'.cell? ⟨R, 4, none⟩ = some (.int .u32 x.m) ∧ w'.cell? ⟨R, 5, none⟩ = some (.int .u32 x.a) ∧ w'.cell? ⟨R, 6, none⟩ = some (.int .u32 x.t)) ∧ (w'.cell? ⟨M, 0, none⟩ = some (.int .u32 m.f) ∧ w'.cell? ⟨M, 1, none⟩ = some (.int .u64 m.s) ∧ w'.cell? ⟨M, 2, none⟩ = some (.int .u32 m.u) ∧ w'.cell? ⟨M, 3, none⟩ = some (.int .u32 m.g) ∧ w'.cell? ⟨M, 4, none⟩ = some (.int .u32 m.m) ∧ w'.cell? ⟨M, 5, none⟩ = some (.int .u32 m.a) ∧ w'.cell? ⟨M, 6, none⟩ = some (.int .u32 m.t)) ∧ Keeps (fun _ => False) w10 w')
    (first | exact HS.out _ hq0 | exact HS.out _ hq1 | exact HS.out _ hq2 | exact HS.out _ hq3 | exact HS.out _ hq4 | exact HS.out _ hq5 | exact HS.out _ (Keeps.refl _ _) | exact HS.out _ (Keeps.refl _ _).drew)
    (first
      | (go_at_call 19; refine (HQL.out _ (ps_keeps (by assumption))).mono ?_; rintro e w11 ⟨rfl, hq0⟩)
      | (go_at_call 10; refine (HQR.out _ (ps_keeps (by assumption))).mono ?_; rintro e w12 ⟨rfl, hq1⟩)
      | (go_at_call 12; with_reducible refine (HQ1.out _ (ps_keeps (by assumption))).mono ?_; rintro e w13 ⟨rfl, hq2⟩)
      | (go_at_call 12; with_reducible refine (HQ2.out _ (ps_keeps (by assumption))).mono ?_; rintro e w14 ⟨rfl, hq3⟩)
      | (go_at_call 12; with_reducible refine (HQ3.out _ (ps_keeps (by assumption))).mono ?_; rintro e w15 ⟨rfl, hq4⟩)
      | (go_at_call 12; with_reducible refine (HQ4.out _ (ps_keeps (by assumption))).mono ?_; rintro e w16 ⟨rfl, hq5⟩)
      | fail)
  have HK := hidden (ps_keeps (by assumption : _ ∧ _ ∧ _ ∧ _ ∧ Keeps (fun _ => False) w10 w16))
  obtain ⟨k0, k1, k2, k3, k4, k5, k6, kf⟩ := cells7 (HBX10.out.keep HK.out (fun h => h))
  obtain ⟨l0, l1, l2, l3, l4, l5, l6, lf⟩ := cells7 (HBY10.out.keep HK.out (fun h => h))
  obtain ⟨q0, q1, q2, q3, q4, q5, q6, qf⟩ := cells7 (HBM10.out.keep HK.out (fun h => h))
  have HB16 : Hid (Below W.heap.size W w16) := hidden (HB10.out.trans (HK.out.below HB10.out.size (fun _ e => e.elim)))
  obtain ⟨_, _, _, _, n1, _, n4, _⟩ := bits_of y.f hy.f
  clear HBX10 HBY10 HBR10 HBM10 HT10 HB10 HQL HQR HQ1 HQ2 HQ3 HQ4 HS hor HK hq0 hq1 hq2 hq3 hq4 hq5
  cases hb1 : bt 1 y.f <;> cases hb4 : bt 4 y.f
  all_goals
    rw [hb1] at n1
    rw [hb4] at n4
    first | (have t1 := HMS.out.1 hb1) | (have t1 := HMS.out.2.1 hb1)
    first | (have t4 := HMS.out.2.2.1 hb4) | (have t4 := HMS.out.2.2.2 hb4)
    clear hb1 hb4
    go_wp2_with fail
    refine (known_c _).mono ?_
    rintro e w17 ⟨rfl, hb17⟩
    go_wp2_with fail
    go_ret
    exact ⟨by simp, HB16.out.trans (hb17.mono HB16.out.size)⟩

end Go.Proofs.Ytkbfgfpdchgjpaa
