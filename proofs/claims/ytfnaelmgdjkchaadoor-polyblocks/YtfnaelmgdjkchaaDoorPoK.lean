/- The walk of the law PolyBlocks. -/
import Derived.Test.YtfnaelmgdjkchaaDoorPoJ
namespace Go.Proofs.YtfnaelmgdjkchaaDoor
open Go Go.RowKit

/-- What lies ready while a copy of the key is turned at g8. -/
structure PI (w : World) (gx g8 c8 b8 : Nat) (S xs : List UInt8) (va : Value) (wr : World) (K : List UInt8) : Prop where
  o : ORow wr b8 g8 c8 K
  x : wr.heap[gx]? = some (.cells (bcells S).toArray 5 (0, 0))
  b : Below w.heap.size w wr
  a : BSl wr va xs
  c : Cl wr
theorem PI.keep {w : World} {gx g8 c8 b8 : Nat} {S xs : List UInt8} {va : Value} {wr wr' : World} {K K' : List UInt8} (h : PI w gx g8 c8 b8 S xs va wr K) (hxg : gx ≠ g8) (hwg : w.heap.size ≤ g8)
    (hA : ∀ {wa wb : World}, Keeps (fun k => k = g8) wa wb → BSl wa va xs → BSl wb va xs) (hC : ∀ {wa wb : World}, Keeps (fun k => k = g8) wa wb → Cl wa → Cl wb)
    (hk : Keeps (fun k => k = g8) wr wr') (ho : ORow wr' b8 g8 c8 K') : PI w gx g8 c8 b8 S xs va wr' K' :=
  ⟨ho, (hk.block gx (lt_of_block h.x) hxg).trans h.x, h.b.trans (hk.below (B := w.heap.size) h.b.size (by intro k e; omega)), hA hk h.a, hC hk h.c⟩

set_option maxHeartbeats 3200000 in
set_option maxRecDepth 100000 in
theorem polyBlocks_c (v0 v1 : Value) (z0 z1 : List UInt8) (at_ : Int) (turn : UInt8) (w : World) (hcl : Cl w) (h0 : BSl w v0 z0) (h1 : BSl w v1 z1) :
    Calls Tryd.prog 7 #[v0, v1, .int .i64 at_, .int .u8 turn.toNat] w fun e w' => e = .returned (.bool true) ∧ Below w.heap.size w w' := by
  have H1 := hidden h1
  have HCL := hidden hcl
  have HS0 := hidden (sized_b 32 (by omega) v0 z0 w h0)
  obtain ⟨a0, n0, rfl⟩ := h0.len
  obtain ⟨a1, n1, rfl⟩ := h1.len
  clear h0 h1 hcl
  go_enter Tryd.func7, Tryd.ntmps7
  go_wp2_with fail
  refine HS0.out.mono ?_
  rintro e w1 ⟨rfl, hk, hb1⟩
  have hkl := sizedL_length z0 32
  generalize sizedL z0 32 = key at hk hkl
  have HK := hidden hk
  have HKL := hidden hkl
  have HB1 := hidden hb1
  clear HS0 hk hkl hb1
  go_wp2_with fail
  refine (cut_c 200 (by omega) _ z1 w1 (H1.out.fresh HB1.out)).mono ?_
  rintro e w1' ⟨va, rfl, ha, _, rfl⟩
  have hal : (z1.take 200).length ≤ 200 := by simp; omega
  generalize z1.take 200 = xs at ha hal
  obtain ⟨ao, ac, rfl⟩ := ha.len
  have HA := hidden ha
  clear ha H1
  go_wp2_with fail
  refine (Sum_c _ _ key xs (by omega) w1' (HCL.out.fresh HB1.out) HK.out HA.out).mono ?_
  rintro e w2 hT
  obtain ⟨hb2, gx, rfl, hgx, hx2⟩ := hT.ok HKL.out
  have HX2 := hidden hx2
  have HB2 := hidden (HB1.out.trans (hb2.mono HB1.out.size))
  have HK2 := hidden (HK.out.fresh hb2)
  have HA2 := hidden (HA.out.fresh hb2)
  have HCL2 := hidden ((HCL.out.fresh HB1.out).fresh hb2)
  clear hT hb2 hx2 hgx HK HA HB1
  obtain ⟨S, hS⟩ : ∃ S, S = polyL key xs := ⟨_, rfl⟩
  have hSl : S.length = 16 := by rw [hS, polyL_length]
  have HSE := hidden hS
  have HSL := hidden hSl
  rw [← hS] at HX2
  clear hS hSl
  go_wp2_with (refine wpList_clone _ rfl (.tmp 32) (.tmp 33) rfl rfl _ key rfl HK2.out (by have := HKL.out; omega) ?_)
  intro v3 w3 ho3 hb3
  have hk3 := BSl.ofRow ho3
  obtain ⟨k3a, k3c, rfl⟩ := hk3.len
  have HK3' := hidden hk3
  have HX3 := hidden ((Keeps.ofFresh (S := fun _ => False) hb3).block gx (lt_of_block HX2.out) (fun h => h) |>.trans HX2.out)
  have HB3 := hidden (HB2.out.trans (hb3.mono HB2.out.size))
  have HK3 := hidden (HK2.out.fresh hb3)
  have HA3 := hidden (HA2.out.fresh hb3)
  have HCL3 := hidden (HCL2.out.fresh hb3)
  clear ho3 hb3 hk3 HK2 HA2 HX2 HB2 HCL2
  go_wp2_with (refine wpList_clone _ rfl (.tmp 35) (.tmp 36) rfl rfl _ xs rfl HA3.out (by omega) ?_)
  intro v4 w4 ho4 hb4
  have hk4 := BSl.ofRow ho4
  obtain ⟨k4a, k4c, rfl⟩ := hk4.len
  have HX4 := hidden ((Keeps.ofFresh (S := fun _ => False) hb4).block gx (lt_of_block HX3.out) (fun h => h) |>.trans HX3.out)
  have HB4 := hidden (HB3.out.trans (hb4.mono HB3.out.size))
  have HK4 := hidden (HK3.out.fresh hb4)
  have HA4 := hidden (HA3.out.fresh hb4)
  have HCL4 := hidden (HCL3.out.fresh hb4)
  have HSC := hidden (Sum_c _ _ key xs (by omega) w4 HCL4.out (HK3'.out.fresh hb4) hk4)
  clear ho4 hb4 hk4 HK3 HA3 HX3 HB3 HCL3 HK3'
  go_wp2_with fail
  refine HSC.out.mono ?_
  rintro e w5 hT
  obtain ⟨hb5, gy, rfl, hgy, hy5⟩ := hT.ok HKL.out
  rw [← HSE.out] at hy5
  have HY5 := hidden hy5
  have HX5 := hidden ((Keeps.ofFresh (S := fun _ => False) hb5).block gx (lt_of_block HX4.out) (fun h => h) |>.trans HX4.out)
  have HB5 := hidden (HB4.out.trans (hb5.mono HB4.out.size))
  have HK5 := hidden (HK4.out.fresh hb5)
  have HA5 := hidden (HA4.out.fresh hb5)
  have HCL5 := hidden (HCL4.out.fresh hb5)
  clear hT hb5 hy5 hgy HK4 HA4 HX4 HB4 HCL4 HSC
  have HSM : Hid (∀ q, Calls Tryd.prog 11 #[.slice (some ⟨gx, 0, none⟩) 16 16, .slice (some ⟨gy, 0, none⟩) 16 16] (w5.drewN q) fun e w' => e = .returned (.bool (decide (S = S))) ∧ ∃ p, w' = (w5.drewN q).drewN p) :=
    fun q => Same_c _ _ S S _ (bsl16 (w := w5.drewN q) HX5.out HSL.out) (bsl16 (w := w5.drewN q) HY5.out HSL.out)
  have HSM2 : Hid (∀ q, Calls Tryd.prog 11 #[.slice (some ⟨gy, 0, none⟩) 16 16, .slice (some ⟨gx, 0, none⟩) 16 16] (w5.drewN q) fun e w' => e = .returned (.bool (decide (S = S))) ∧ ∃ p, w' = (w5.drewN q).drewN p) :=
    fun q => Same_c _ _ S S _ (bsl16 (w := w5.drewN q) HY5.out HSL.out) (bsl16 (w := w5.drewN q) HX5.out HSL.out)
  have hdec : decide (S = S) = true := by simp
  rw [hdec] at HSM HSM2
  clear hdec
  go_wp2_with fail
  refine (HSM.out 0).mono ?_
  rintro e w6 ⟨rfl, p6, rfl⟩
  go_wp2_with fail
  refine (HSM2.out p6).mono ?_
  rintro e w7 ⟨rfl, p7, rfl⟩
  have HX7 : Hid (((w5.drewN p6).drewN p7).heap[gx]? = some (.cells (bcells S).toArray 5 (0, 0))) := HX5.out
  have HK7 := hidden (HK5.out.keep (S := fun _ => False) (((Keeps.refl _ _).drewN p6).drewN p7) (fun _ _ h => h))
  have HA7 := hidden (HA5.out.keep (S := fun _ => False) (((Keeps.refl _ _).drewN p6).drewN p7) (fun _ _ h => h))
  have HB7 := hidden (below_drewN (below_drewN HB5.out p6) p7)
  have HCL7 : Hid (Cl ((w5.drewN p6).drewN p7)) := HCL5.out
  generalize (w5.drewN p6).drewN p7 = w7 at HX7 HK7 HA7 HB7 HCL7 ⊢
  clear HSM HSM2 HY5 HX5 HK5 HA5 HB5 HCL5
  go_wp2_with (refine wpList_clone _ rfl (.tmp 59) (.tmp 60) rfl rfl _ key rfl HK7.out (by have := HKL.out; omega) ?_)
  intro v8 w8 ho8 hb8
  have hne : key ≠ [] := by intro e; have := HKL.out; rw [e] at this; simp at this
  obtain ⟨g8, c8, rfl, hor⟩ := ORow.ofOwns ho8 hne
  rw [HKL.out]
  have HO8 := hidden hor
  have HX8 := hidden ((Keeps.ofFresh (S := fun _ => False) hb8).block gx (lt_of_block HX7.out) (fun h => h) |>.trans HX7.out)
  have HB8 := hidden (HB7.out.trans (hb8.mono HB7.out.size))
  have HA8 := hidden (HA7.out.fresh hb8)
  have HCL8 := hidden (HCL7.out.fresh hb8)
  have hg8 : w7.heap.size ≤ g8 := hor.1
  have hxg : gx ≠ g8 := by have := lt_of_block HX7.out; omega
  have hwg : w.heap.size ≤ g8 := by have := HB7.out.size; omega
  have HA9 : Hid (∀ {wa wb : World}, Keeps (fun k => k = g8) wa wb → BSl wa (.slice ao xs.length ac) xs → BSl wb (.slice ao xs.length ac) xs) := by
    intro wa wb hk hb
    cases hx0 : xs with
    | nil => obtain ⟨ao', cp', e, h1, h2, h3, h4⟩ := hb; cases e; subst hx0; exact ⟨_, _, rfl, h1, h2, h3, fun _ _ h => absurd rfl h⟩
    | cons y ys =>
      rw [← hx0]
      refine hb.keep hk (fun k e => ?_)
      have hl : ∀ k, (Value.slice ao xs.length ac).ownBlock = some k → k < w7.heap.size := by
        have h7 := HA7.out
        rw [hx0] at h7 ⊢
        exact h7.blockLt
      have := hl k e
      omega
  have HCG : Hid (∀ {wa wb : World}, Keeps (fun k => k = g8) wa wb → Cl wa → Cl wb) := by
    intro wa wb hk hc
    have := HCL7.out.1
    exact ⟨Nat.lt_of_lt_of_le hc.1 hk.size, fun i hi => hk.cell (hc.2 i hi) (by show ¬ 0 = g8; omega)⟩
  clear ho8 hb8 hor hne HX7 HK7 HB7 HCL7 HA7
  obtain ⟨b8, hb8e⟩ : ∃ b8, b8 = w7.heap.size := ⟨_, rfl⟩
  have HPI0 : Hid (PI w gx g8 c8 b8 S xs (.slice ao xs.length ac) w8 key) := by rw [hb8e]; exact ⟨HO8.out, HX8.out, HB8.out, HA8.out, HCL8.out⟩
  clear hb8e HO8 HX8 HB8 HA8 HCL8
  go_upto_region 9 with fail
  change Code.wp _ _ _ _ (w8.alloc (.cells (ncells .i64 [3, 7, 11, 15]).toArray 3))
  have HLL := hidden (NB.new (k := .i64) (t := 3) w8 [3, 7, 11, 15])
  have HPI : Hid (PI w gx g8 c8 b8 S xs (.slice ao xs.length ac) (w8.alloc (.cells (ncells .i64 [3, 7, 11, 15]).toArray 3)) key) := by
    have hk : Keeps (fun k => k = g8) w8 (w8.alloc (.cells (ncells .i64 [3, 7, 11, 15]).toArray 3)) := (Keeps.refl _ w8).alloc _
    exact HPI0.out.keep hxg hwg HA9.out HCG.out hk (HPI0.out.o.keep (S := fun _ => False) ((Keeps.refl _ w8).alloc _) (fun h => h))
  have HLg : Hid (¬ w8.heap.size = g8) := by have := HPI0.out.o.lt; show ¬ _; omega
  generalize w8.alloc (.cells (ncells .i64 [3, 7, 11, 15]).toArray 3) = w9 at HLL HPI ⊢
  generalize w8.heap.size = LL at HLL HLg ⊢
  clear HPI0
  go_loopw [64] (fun c wr => ∃ j : Nat, j ≤ 4 ∧ c = .int .i64 (j : Int) ∧ NB .i64 wr LL 3 [3, 7, 11, 15] ∧ PI w gx g8 c8 b8 S xs (.slice ao xs.length ac) wr (xorAt 240 ([3, 7, 11, 15].take j) key)) (fun c _ => 4 - (intOf c).toNat)
  case atStart => exact ⟨0, by omega, rfl, HLL.out, HPI.out⟩
  case round =>
    clear HLL HPI
    obtain ⟨j, hj, rfl, hll, hpi⟩ := hrel
    have HLL := hidden hll
    have HPI := hidden hpi
    clear hll hpi
    by_cases hlt : j < 4
    · rcases (show j = 0 ∨ j = 1 ∨ j = 2 ∨ j = 3 by omega) with rfl | rfl | rfl | rfl
      · obtain ⟨K, hK⟩ : ∃ K, K = xorAt 240 ([3, 7, 11, 15].take 0) key := ⟨_, rfl⟩
        have hKl : K.length = 32 := by rw [hK]; simp only [xorAt_length]; exact HKL.out
        have hKn : xorAt 240 ([3, 7, 11, 15].take (0 + 1)) key = K.set 3 (K.getD 3 0 ^^^ 240) := by
          rw [hK, ← xorAt_snoc]
          rfl
        rw [← hK] at HPI
        have hci : wr.cell? ⟨LL, 0, none⟩ = some (.int .i64 3) := HLL.out.cell 0 (by simp)
        have hck := HPI.out.o.cell 3 (by omega)
        have hfk := HPI.out.o.frozen 3
        have hxb : bits BinOp.xor IntKind.u8 ((K.getD 3 0).toNat : Int) 240 = ((K.getD 3 0 ^^^ 240).toNat : Int) := xbyte (K.getD 3 0) 240
        obtain ⟨y, hy⟩ : ∃ y, y = K.getD 3 0 ^^^ 240 := ⟨_, rfl⟩
        rw [← hy] at hxb hKn
        have HKN := hidden hKn
        generalize (K.getD 3 0).toNat = q0 at hck hxb
        clear hK hKn hy hKl
        rw [show (((0 : Nat)) : Int) = (0 : Int) from rfl]
        go_wp2
        go_roundw
        case rel =>
          have hkp : Keeps (fun k => k = g8) wr (wr.setCell ⟨g8, 3, none⟩ (.int .u8 y.toNat)) := (Keeps.refl (fun k => k = g8) wr).setCell (p := ⟨g8, 3, none⟩) (.inl rfl) _
          refine ⟨0 + 1, by omega, by go_num, HLL.out.keep hkp HLg.out, ?_⟩
          rw [HKN.out]
          exact HPI.out.keep hxg hwg HA9.out HCG.out hkp (HPI.out.o.set 3 y)
        case measure => simp [intOf]
      · obtain ⟨K, hK⟩ : ∃ K, K = xorAt 240 ([3, 7, 11, 15].take 1) key := ⟨_, rfl⟩
        have hKl : K.length = 32 := by rw [hK]; simp only [xorAt_length]; exact HKL.out
        have hKn : xorAt 240 ([3, 7, 11, 15].take (1 + 1)) key = K.set 7 (K.getD 7 0 ^^^ 240) := by
          rw [hK, ← xorAt_snoc]
          rfl
        rw [← hK] at HPI
        have hci : wr.cell? ⟨LL, 1, none⟩ = some (.int .i64 7) := HLL.out.cell 1 (by simp)
        have hck := HPI.out.o.cell 7 (by omega)
        have hfk := HPI.out.o.frozen 7
        have hxb : bits BinOp.xor IntKind.u8 ((K.getD 7 0).toNat : Int) 240 = ((K.getD 7 0 ^^^ 240).toNat : Int) := xbyte (K.getD 7 0) 240
        obtain ⟨y, hy⟩ : ∃ y, y = K.getD 7 0 ^^^ 240 := ⟨_, rfl⟩
        rw [← hy] at hxb hKn
        have HKN := hidden hKn
        generalize (K.getD 7 0).toNat = q0 at hck hxb
        clear hK hKn hy hKl
        rw [show (((1 : Nat)) : Int) = (1 : Int) from rfl]
        go_wp2
        go_roundw
        case rel =>
          have hkp : Keeps (fun k => k = g8) wr (wr.setCell ⟨g8, 7, none⟩ (.int .u8 y.toNat)) := (Keeps.refl (fun k => k = g8) wr).setCell (p := ⟨g8, 7, none⟩) (.inl rfl) _
          refine ⟨1 + 1, by omega, by go_num, HLL.out.keep hkp HLg.out, ?_⟩
          rw [HKN.out]
          exact HPI.out.keep hxg hwg HA9.out HCG.out hkp (HPI.out.o.set 7 y)
        case measure => simp [intOf]
      · obtain ⟨K, hK⟩ : ∃ K, K = xorAt 240 ([3, 7, 11, 15].take 2) key := ⟨_, rfl⟩
        have hKl : K.length = 32 := by rw [hK]; simp only [xorAt_length]; exact HKL.out
        have hKn : xorAt 240 ([3, 7, 11, 15].take (2 + 1)) key = K.set 11 (K.getD 11 0 ^^^ 240) := by
          rw [hK, ← xorAt_snoc]
          rfl
        rw [← hK] at HPI
        have hci : wr.cell? ⟨LL, 2, none⟩ = some (.int .i64 11) := HLL.out.cell 2 (by simp)
        have hck := HPI.out.o.cell 11 (by omega)
        have hfk := HPI.out.o.frozen 11
        have hxb : bits BinOp.xor IntKind.u8 ((K.getD 11 0).toNat : Int) 240 = ((K.getD 11 0 ^^^ 240).toNat : Int) := xbyte (K.getD 11 0) 240
        obtain ⟨y, hy⟩ : ∃ y, y = K.getD 11 0 ^^^ 240 := ⟨_, rfl⟩
        rw [← hy] at hxb hKn
        have HKN := hidden hKn
        generalize (K.getD 11 0).toNat = q0 at hck hxb
        clear hK hKn hy hKl
        rw [show (((2 : Nat)) : Int) = (2 : Int) from rfl]
        go_wp2
        go_roundw
        case rel =>
          have hkp : Keeps (fun k => k = g8) wr (wr.setCell ⟨g8, 11, none⟩ (.int .u8 y.toNat)) := (Keeps.refl (fun k => k = g8) wr).setCell (p := ⟨g8, 11, none⟩) (.inl rfl) _
          refine ⟨2 + 1, by omega, by go_num, HLL.out.keep hkp HLg.out, ?_⟩
          rw [HKN.out]
          exact HPI.out.keep hxg hwg HA9.out HCG.out hkp (HPI.out.o.set 11 y)
        case measure => simp [intOf]
      · obtain ⟨K, hK⟩ : ∃ K, K = xorAt 240 ([3, 7, 11, 15].take 3) key := ⟨_, rfl⟩
        have hKl : K.length = 32 := by rw [hK]; simp only [xorAt_length]; exact HKL.out
        have hKn : xorAt 240 ([3, 7, 11, 15].take (3 + 1)) key = K.set 15 (K.getD 15 0 ^^^ 240) := by
          rw [hK, ← xorAt_snoc]
          rfl
        rw [← hK] at HPI
        have hci : wr.cell? ⟨LL, 3, none⟩ = some (.int .i64 15) := HLL.out.cell 3 (by simp)
        have hck := HPI.out.o.cell 15 (by omega)
        have hfk := HPI.out.o.frozen 15
        have hxb : bits BinOp.xor IntKind.u8 ((K.getD 15 0).toNat : Int) 240 = ((K.getD 15 0 ^^^ 240).toNat : Int) := xbyte (K.getD 15 0) 240
        obtain ⟨y, hy⟩ : ∃ y, y = K.getD 15 0 ^^^ 240 := ⟨_, rfl⟩
        rw [← hy] at hxb hKn
        have HKN := hidden hKn
        generalize (K.getD 15 0).toNat = q0 at hck hxb
        clear hK hKn hy hKl
        rw [show (((3 : Nat)) : Int) = (3 : Int) from rfl]
        go_wp2
        go_roundw
        case rel =>
          have hkp : Keeps (fun k => k = g8) wr (wr.setCell ⟨g8, 15, none⟩ (.int .u8 y.toNat)) := (Keeps.refl (fun k => k = g8) wr).setCell (p := ⟨g8, 15, none⟩) (.inl rfl) _
          refine ⟨3 + 1, by omega, by go_num, HLL.out.keep hkp HLg.out, ?_⟩
          rw [HKN.out]
          exact HPI.out.keep hxg hwg HA9.out HCG.out hkp (HPI.out.o.set 15 y)
        case measure => simp [intOf]
    · have hlt' : ¬ (j : Int) < 4 := by omega
      obtain rfl : j = 4 := by omega
      have HPI2 : Hid (PI w gx g8 c8 b8 S xs (.slice ao xs.length ac) wr (xorAt 240 [3, 7, 11, 15] key)) := HPI.out
      clear HPI HLL
      go_upto_region 14 with fail
      obtain ⟨wo, ewo⟩ : ∃ x, x = wr := ⟨wr, rfl⟩
      rw [← ewo] at HPI2 ⊢
      clear ewo
      change Code.wp _ _ _ _ (wo.alloc (.cells (ncells .i64 [4, 8, 12]).toArray 3))
      have HLL := hidden (NB.new (k := .i64) (t := 3) wo [4, 8, 12])
      obtain ⟨KK, hKK⟩ : ∃ KK, KK = xorAt 240 [3, 7, 11, 15] key := ⟨_, rfl⟩
      have HKK := hidden hKK
      have HKKL : Hid (KK.length = 32) := by rw [hKK]; show _ = _; rw [xorAt_length]; exact HKL.out
      rw [← hKK] at HPI2
      clear hKK
      have HPI : Hid (PI w gx g8 c8 b8 S xs (.slice ao xs.length ac) (wo.alloc (.cells (ncells .i64 [4, 8, 12]).toArray 3)) KK) := by
        have hk : Keeps (fun k => k = g8) wo (wo.alloc (.cells (ncells .i64 [4, 8, 12]).toArray 3)) := (Keeps.refl _ wo).alloc _
        exact HPI2.out.keep hxg hwg HA9.out HCG.out hk (HPI2.out.o.keep (S := fun _ => False) ((Keeps.refl _ wo).alloc _) (fun h => h))
      have HLg2 : Hid (¬ wo.heap.size = g8) := by have := HPI2.out.o.lt; show ¬ _; omega
      clear HLg
      have HLg := HLg2
      clear HLg2
      generalize wo.alloc (.cells (ncells .i64 [4, 8, 12]).toArray 3) = w10 at HLL HPI ⊢
      generalize wo.heap.size = L2 at HLL HLg ⊢
      clear HPI2
      go_loopw [79] (fun c wr => ∃ j : Nat, j ≤ 3 ∧ c = .int .i64 (j : Int) ∧ NB .i64 wr L2 3 [4, 8, 12] ∧ PI w gx g8 c8 b8 S xs (.slice ao xs.length ac) wr (xorAt 3 ([4, 8, 12].take j) KK)) (fun c _ => 3 - (intOf c).toNat)
      case atStart => exact ⟨0, by omega, rfl, HLL.out, HPI.out⟩
      case round =>
        clear HLL HPI
        obtain ⟨j, hj, rfl, hll, hpi⟩ := hrel
        have HLL := hidden hll
        have HPI := hidden hpi
        clear hll hpi
        by_cases hlt : j < 3
        · rcases (show j = 0 ∨ j = 1 ∨ j = 2 by omega) with rfl | rfl | rfl
          · obtain ⟨K, hK⟩ : ∃ K, K = xorAt 3 ([4, 8, 12].take 0) KK := ⟨_, rfl⟩
            have hKl : K.length = 32 := by rw [hK]; simp only [xorAt_length]; exact HKKL.out
            have hKn : xorAt 3 ([4, 8, 12].take (0 + 1)) KK = K.set 4 (K.getD 4 0 ^^^ 3) := by
              rw [hK, ← xorAt_snoc]
              rfl
            rw [← hK] at HPI
            have hci : wr.cell? ⟨L2, 0, none⟩ = some (.int .i64 4) := HLL.out.cell 0 (by simp)
            have hck := HPI.out.o.cell 4 (by omega)
            have hfk := HPI.out.o.frozen 4
            have hxb : bits BinOp.xor IntKind.u8 ((K.getD 4 0).toNat : Int) 3 = ((K.getD 4 0 ^^^ 3).toNat : Int) := xbyte (K.getD 4 0) 3
            obtain ⟨y, hy⟩ : ∃ y, y = K.getD 4 0 ^^^ 3 := ⟨_, rfl⟩
            rw [← hy] at hxb hKn
            have HKN := hidden hKn
            generalize (K.getD 4 0).toNat = q0 at hck hxb
            clear hK hKn hy hKl
            rw [show (((0 : Nat)) : Int) = (0 : Int) from rfl]
            go_wp2
            go_roundw
            case rel =>
              have hkp : Keeps (fun k => k = g8) wr (wr.setCell ⟨g8, 4, none⟩ (.int .u8 y.toNat)) := (Keeps.refl (fun k => k = g8) wr).setCell (p := ⟨g8, 4, none⟩) (.inl rfl) _
              refine ⟨0 + 1, by omega, by go_num, HLL.out.keep hkp HLg.out, ?_⟩
              rw [HKN.out]
              exact HPI.out.keep hxg hwg HA9.out HCG.out hkp (HPI.out.o.set 4 y)
            case measure => simp [intOf]
          · obtain ⟨K, hK⟩ : ∃ K, K = xorAt 3 ([4, 8, 12].take 1) KK := ⟨_, rfl⟩
            have hKl : K.length = 32 := by rw [hK]; simp only [xorAt_length]; exact HKKL.out
            have hKn : xorAt 3 ([4, 8, 12].take (1 + 1)) KK = K.set 8 (K.getD 8 0 ^^^ 3) := by
              rw [hK, ← xorAt_snoc]
              rfl
            rw [← hK] at HPI
            have hci : wr.cell? ⟨L2, 1, none⟩ = some (.int .i64 8) := HLL.out.cell 1 (by simp)
            have hck := HPI.out.o.cell 8 (by omega)
            have hfk := HPI.out.o.frozen 8
            have hxb : bits BinOp.xor IntKind.u8 ((K.getD 8 0).toNat : Int) 3 = ((K.getD 8 0 ^^^ 3).toNat : Int) := xbyte (K.getD 8 0) 3
            obtain ⟨y, hy⟩ : ∃ y, y = K.getD 8 0 ^^^ 3 := ⟨_, rfl⟩
            rw [← hy] at hxb hKn
            have HKN := hidden hKn
            generalize (K.getD 8 0).toNat = q0 at hck hxb
            clear hK hKn hy hKl
            rw [show (((1 : Nat)) : Int) = (1 : Int) from rfl]
            go_wp2
            go_roundw
            case rel =>
              have hkp : Keeps (fun k => k = g8) wr (wr.setCell ⟨g8, 8, none⟩ (.int .u8 y.toNat)) := (Keeps.refl (fun k => k = g8) wr).setCell (p := ⟨g8, 8, none⟩) (.inl rfl) _
              refine ⟨1 + 1, by omega, by go_num, HLL.out.keep hkp HLg.out, ?_⟩
              rw [HKN.out]
              exact HPI.out.keep hxg hwg HA9.out HCG.out hkp (HPI.out.o.set 8 y)
            case measure => simp [intOf]
          · obtain ⟨K, hK⟩ : ∃ K, K = xorAt 3 ([4, 8, 12].take 2) KK := ⟨_, rfl⟩
            have hKl : K.length = 32 := by rw [hK]; simp only [xorAt_length]; exact HKKL.out
            have hKn : xorAt 3 ([4, 8, 12].take (2 + 1)) KK = K.set 12 (K.getD 12 0 ^^^ 3) := by
              rw [hK, ← xorAt_snoc]
              rfl
            rw [← hK] at HPI
            have hci : wr.cell? ⟨L2, 2, none⟩ = some (.int .i64 12) := HLL.out.cell 2 (by simp)
            have hck := HPI.out.o.cell 12 (by omega)
            have hfk := HPI.out.o.frozen 12
            have hxb : bits BinOp.xor IntKind.u8 ((K.getD 12 0).toNat : Int) 3 = ((K.getD 12 0 ^^^ 3).toNat : Int) := xbyte (K.getD 12 0) 3
            obtain ⟨y, hy⟩ : ∃ y, y = K.getD 12 0 ^^^ 3 := ⟨_, rfl⟩
            rw [← hy] at hxb hKn
            have HKN := hidden hKn
            generalize (K.getD 12 0).toNat = q0 at hck hxb
            clear hK hKn hy hKl
            rw [show (((2 : Nat)) : Int) = (2 : Int) from rfl]
            go_wp2
            go_roundw
            case rel =>
              have hkp : Keeps (fun k => k = g8) wr (wr.setCell ⟨g8, 12, none⟩ (.int .u8 y.toNat)) := (Keeps.refl (fun k => k = g8) wr).setCell (p := ⟨g8, 12, none⟩) (.inl rfl) _
              refine ⟨2 + 1, by omega, by go_num, HLL.out.keep hkp HLg.out, ?_⟩
              rw [HKN.out]
              exact HPI.out.keep hxg hwg HA9.out HCG.out hkp (HPI.out.o.set 12 y)
            case measure => simp [intOf]
        · have hlt' : ¬ (j : Int) < 3 := by omega
          obtain rfl : j = 3 := by omega
          have HPI2 : Hid (PI w gx g8 c8 b8 S xs (.slice ao xs.length ac) wr (xorAt 3 [4, 8, 12] KK)) := HPI.out
          clear HPI HLL
          have HT2 : Hid (PI w gx g8 c8 b8 S xs (.slice ao xs.length ac) wr (turned key)) := by rw [turned, ← HKK.out]; exact HPI2.out
          clear HPI2 HKK HKKL
          have hbs := HT2.out.o.bsl
          rw [turned_length, HKL.out] at hbs
          have HSC := hidden (Sum_c _ _ (turned key) xs (by omega) wr HT2.out.c hbs HT2.out.a)
          rw [show SumTold wr (turned key) xs = fun e w' => SumTold wr (turned key) xs e w' from rfl] at HSC
          clear hbs
          go_wp2_with fail
          refine HSC.out.mono ?_
          rintro e w11 hT
          obtain ⟨hb11, gz, rfl, hgz, hz11⟩ := hT.ok (by rw [turned_length]; exact HKL.out)
          rw [turned_same HKL.out, ← HSE.out] at hz11
          have HX11 := hidden ((Keeps.ofFresh (S := fun _ => False) hb11).block gx (lt_of_block HT2.out.x) (fun h => h) |>.trans HT2.out.x)
          have HB11 := hidden (HT2.out.b.trans (hb11.mono HT2.out.b.size))
          have HCL11 := hidden (HT2.out.c.fresh hb11)
          have HSM := hidden (Same_c _ _ S S w11 (bsl16 HX11.out HSL.out) (bsl16 hz11 HSL.out))
          rw [decide_eq_true (show S = S from rfl)] at HSM
          clear hT hb11 hgz hz11 HT2 HSC
          go_wp2_with fail
          refine HSM.out.mono ?_
          rintro e w12 ⟨rfl, p12, rfl⟩
          have HX12 : Hid ((w11.drewN p12).heap[gx]? = some (.cells (bcells S).toArray 5 (0, 0))) := HX11.out
          have HB12 := hidden (below_drewN HB11.out p12)
          have HCL12 : Hid (Cl (w11.drewN p12)) := HCL11.out
          generalize w11.drewN p12 = w12 at HX12 HB12 HCL12 ⊢
          clear HX11 HB11 HCL11 HSM
          go_wp2_with (refine wpList_clone _ rfl (.tmp 106) (.tmp 107) rfl rfl _ S rfl (bsl16 HX12.out HSL.out) (by have := HSL.out; omega) ?_)
          intro v13 w13 ho13 hb13
          have hne : S ≠ [] := by intro e; have := HSL.out; rw [e] at this; simp at this
          obtain ⟨g13, c13, rfl, hor⟩ := ORow.ofOwns ho13 hne
          rw [HSL.out]
          have HO13 := hidden hor
          have HX13 := hidden ((Keeps.ofFresh (S := fun _ => False) hb13).block gx (lt_of_block HX12.out) (fun h => h) |>.trans HX12.out)
          have HB13 := hidden (HB12.out.trans (hb13.mono HB12.out.size))
          have HCL13 := hidden (HCL12.out.fresh hb13)
          have HG13 : Hid (w12.heap.size ≤ g13) := hor.1
          have HXG : Hid (gx ≠ g13) := by have := lt_of_block HX12.out; have := hor.1; show ¬ _; omega
          have HWG : Hid (w.heap.size ≤ g13 ∧ 0 < g13) := by have := HB12.out.size; have := hor.1; have := HCL12.out.1; exact ⟨by omega, by omega⟩
          clear ho13 hb13 hor hne HX12 HB12 HCL12
          go_wp2_with fail
          refine (within_c at_ 15 (by omega) w13).mono ?_
          rintro e w13' ⟨n, rfl, hn, rfl⟩
          have hn16 : (n : Int) < 16 := by omega
          have hcn := HO13.out.cell n (by have := HSL.out; omega)
          have hfn := HO13.out.frozen n
          obtain ⟨y, hy⟩ : ∃ y, y = S.getD n 0 ^^^ turn := ⟨_, rfl⟩
          have hxb : bits BinOp.xor IntKind.u8 ((S.getD n 0).toNat : Int) (turn.toNat : Int) = (y.toNat : Int) := by rw [xbyte, hy]
          have HYY := hidden hy
          clear hy
          generalize (S.getD n 0).toNat = u0 at hcn hxb
          go_wp2_with fail
          have ho14 := HO13.out.set n y
          have hk14 : Keeps (fun k => k = g13) w13' (w13'.setCell ⟨g13, n, none⟩ (.int .u8 y.toNat)) := (Keeps.refl (fun k => k = g13) w13').setCell (p := ⟨g13, n, none⟩) (.inl rfl) _
          have hx14 := (hk14.block gx (lt_of_block HX13.out) HXG.out).trans HX13.out
          have hb14 := HB13.out.trans (hk14.below (B := w.heap.size) HB13.out.size (by intro k e; have := HWG.out.1; omega))
          have hc14 : Cl (w13'.setCell ⟨g13, n, none⟩ (.int .u8 y.toNat)) := ⟨Nat.lt_of_lt_of_le HCL13.out.1 hk14.size, fun i hi => hk14.cell (HCL13.out.2 i hi) (by show ¬ 0 = g13; have := HWG.out.2; omega)⟩
          have hbs := ho14.bsl
          rw [List.length_set, HSL.out] at hbs
          refine (Same_c _ _ _ S _ hbs (bsl16 hx14 HSL.out)).mono ?_
          rintro e w15 ⟨rfl, p15, rfl⟩
          have hdec : decide (S.set n y = S) = ((turn.toNat : Int) == 0) := by
            rw [show ((turn.toNat : Int) == 0) = decide ((turn.toNat : Int) = 0) from rfl]
            apply decide_eq_decide.2
            rw [HYY.out, set_same_iff (by have := HSL.out; omega)]
            constructor
            · intro h; rw [h]; rfl
            · intro h; exact UInt8.toNat_inj.1 (by simpa using h)
          rw [hdec]
          have HB15 := hidden (below_drewN hb14 p15)
          have HC15 : Hid (Cl ((w13'.setCell ⟨g13, n, none⟩ (.int .u8 y.toNat)).drewN p15)) := hc14
          generalize (w13'.setCell ⟨g13, n, none⟩ (.int .u8 y.toNat)).drewN p15 = w15 at HB15 HC15 ⊢
          clear ho14 hk14 hx14 hb14 hc14 hbs hdec hcn hfn hxb
          have hbt := Bool.eq_false_or_eq_true ((turn.toNat : Int) == 0)
          rcases hbt with hbt | hbt
          all_goals
            rw [hbt]
            go_wp2_with fail
            refine (known_c _ HC15.out).mono ?_
            rintro e w16 ⟨rfl, hb16⟩
            go_wp2
            go_ret
            exact ⟨rfl, HB15.out.trans (hb16.mono HB15.out.size)⟩
end Go.Proofs.YtfnaelmgdjkchaaDoor
