/- KexKeys. -/
import Derived.Test.YtookapglookphaaDoorKxM
namespace Go.Proofs.YtookapglookphaaDoor
open Go Go.RowKit

theorem bare_noughts (q : Nat) (k : List UInt8) : bare (List.replicate q 0 ++ k) = bare k := by
  induction q with
  | zero => rfl
  | succ q ih => rw [List.replicate_succ, List.cons_append, bare, if_pos rfl, ih]
theorem mp_noughts (q : Nat) (k : List UInt8) : mpBytes (List.replicate q 0 ++ k) = mpBytes k := by
  unfold mpBytes
  rw [bare_noughts]
theorem derive_noughts (q : Nat) (k h : List UInt8) (letter : UInt8) (id : List UInt8) (n : Nat) : deriveL (List.replicate q 0 ++ k) h letter id n = deriveL k h letter id n := by
  unfold deriveL
  rw [mp_noughts]
theorem Own.zeros (w : World) (n : Nat) (hn : n ≤ 1000) : Own w (w.alloc (.cells (bcells (List.replicate n 0)).toArray 5)) (.slice (some ⟨w.heap.size, 0, none⟩) n n) (List.replicate n 0) := by
  refine ⟨?_, (Below.refl _ w).alloc (Nat.le_refl _) _⟩
  have h := World.ownsRow_lit (e := 5) (size := 1) w (bcells (List.replicate n 0)).toArray n (Nat.le_refl _) (by unfold maxLen; omega) (by simp [bcells])
  rw [List.length_replicate]
  simpa using h
theorem Own.empty (w : World) : Own w (w.alloc (.cells #[] 5)) (.slice (some ⟨w.heap.size, 0, none⟩) 0 0) [] := ⟨own_empty w, (Below.refl _ w).alloc (Nat.le_refl _) _⟩
set_option maxHeartbeats 1600000 in
set_option maxRecDepth 100000 in
theorem kexKeys_c (v0 v1 v2 : Value) (n : Int) (k0 h0 id0 : List UInt8) (w : World) (hr : Rw w) (htp : Tp w) (hv0 : BSl w v0 k0) (hv1 : BSl w v1 h0) (hv2 : BSl w v2 id0) :
    Calls Tryd.prog 5 #[v0, v1, v2, .int .i64 n] w fun e w' => e = .returned (.bool true) ∧ Below w.heap.size w w' := by
  have HR := hidden hr
  have HT := hidden htp
  have H0 := hidden hv0
  have H1 := hidden hv1
  have H2 := hidden hv2
  clear hr htp hv0 hv1 hv2
  go_enter Tryd.func5, Tryd.ntmps5
  go_wp2_with fail
  refine (cut_c 40 (by omega) _ k0 w H0.out).mono ?_
  rintro e w1 ⟨u0, rfl, hu0, _, rfl⟩
  have HU0 := hidden hu0
  obtain ⟨a0, c0, rfl⟩ := hu0.len
  have hk : (k0.take 40).length ≤ 40 := by rw [List.length_take]; omega
  clear hu0 H0
  generalize k0.take 40 = k at HU0 hk ⊢
  go_wp2_with fail
  refine (cut_c 40 (by omega) _ h0 w1 H1.out).mono ?_
  rintro e w ⟨u1, rfl, hu1, _, rfl⟩
  have HU1 := hidden hu1
  obtain ⟨a1, c1, rfl⟩ := hu1.len
  have hh : (h0.take 40).length ≤ 40 := by rw [List.length_take]; omega
  clear hu1 H1
  generalize h0.take 40 = h at HU1 hh ⊢
  go_wp2_with fail
  refine (cut_c 40 (by omega) _ id0 w H2.out).mono ?_
  rintro e w1 ⟨u2, rfl, hu2, _, rfl⟩
  have HU2 := hidden hu2
  obtain ⟨a2, c2, rfl⟩ := hu2.len
  have hi : (id0.take 40).length ≤ 40 := by rw [List.length_take]; omega
  clear hu2 H2
  generalize id0.take 40 = id at HU2 hi ⊢
  have HKc : Hid (∀ (wx : World) (vk vh vi : Value) (K H : List UInt8), K.length ≤ 100 → H.length ≤ 100 → Below w1.heap.size w1 wx → BSl wx vk K → BSl wx vh H → BSl wx vi id → Calls Tryd.prog 18 #[.agg #[vk, vh], vi] wx fun e w' => Below wx.heap.size wx w' ∧ ∃ v1 v2, e = .returned (.tuple #[v1, v2]) ∧ BSl w' v1 (deriveL K H 67 id 32) ∧ BSl w' v2 (deriveL K H 68 id 32)) := fun wx vk vh vi K H hk hh hb h1 h2 h3 => Keys_c vk vh vi K H id (by omega) (by omega) (by omega) wx (HR.out.fresh hb) h1 h2 h3
  have HKl := hidden hk
  have HHl := hidden hh
  have HIl := hidden hi
  go_wp2_with fail
  refine (HKc.out w1 _ _ _ k h (by omega) (by omega) (Below.refl _ _) HU0.out HU1.out HU2.out).mono ?_
  rintro e w2 ⟨hb2, x1, x2, rfl, hx1, hx2⟩
  have HB2 := hidden hb2
  have HX1 := hidden hx1
  have HX2 := hidden hx2
  have HV0 := hidden (HU0.out.fresh hb2)
  have HV1 := hidden (HU1.out.fresh hb2)
  have HV2 := hidden (HU2.out.fresh hb2)
  obtain ⟨b1, d1, rfl⟩ := hx1.len
  obtain ⟨b2, d2, rfl⟩ := hx2.len
  rw [deriveL_length, deriveL_length]
  rw [deriveL_length] at HX1 HX2
  clear hb2 hx1 hx2 HU0 HU1 HU2
  go_wp2_with fail
  refine (within_c n 9 (by omega) w2).mono ?_
  rintro e w3 ⟨q, rfl, hq, rfl⟩
  have HM := made_run q (by omega) w3
  have HZ := hidden (Own.zeros w3 q (by omega))
  generalize w3.alloc (.cells (bcells (List.replicate q 0)).toArray 5) = w4 at HM HZ
  go_wp2_with (at_builtin; (refine wpList_own _ rfl (.tmp 34) (.tmp 35) 22 rfl w3 _ (List.replicate q 0) rfl HZ.out _ k rfl (HV0.out.fresh HZ.out.b).src (by rw [List.length_replicate]; omega) ?_))
  intro v5 w5 o5 _ _
  obtain ⟨a5, c5, rfl⟩ := o5.shape
  have HO5 := hidden o5.bsl
  have HB5 := hidden o5.b
  have HX5 : Hid ((List.replicate q 0 ++ k).length ≤ 60) := by show _ ≤ _; rw [List.length_append, List.length_replicate]; omega
  have HD1 := hidden (derive_noughts q k h 67 id 32)
  have HD2 := hidden (derive_noughts q k h 68 id 32)
  clear o5
  generalize List.replicate q 0 ++ k = qk at HO5 HX5 HD1 HD2 ⊢
  generalize qk.length = lqk at HO5 HX5 ⊢
  clear HM HZ
  go_wp2_with (at_builtin; (refine wpList_own _ rfl (.tmp 37) (.tmp 38) 22 rfl w5 _ [] rfl (Own.empty w5) _ h rfl ((HV1.out.fresh HB5.out).fresh (Own.empty w5).b).src (by simp; omega) ?_))
  intro v6 w6 o6 _ _
  obtain ⟨a6, c6, rfl⟩ := o6.shape
  have HO6 := hidden o6.bsl
  have HP6 := hidden (HO5.out.fresh o6.b)
  have HB6 : Hid (Below w3.heap.size w3 w6) := HB5.out.trans (o6.b.mono HB5.out.size)
  clear o6 HO5 HB5
  go_wp2_with (at_builtin; (refine wpList_own _ rfl (.tmp 41) (.tmp 42) 22 rfl w6 _ [] rfl (Own.empty w6) _ id rfl ((HV2.out.fresh HB6.out).fresh (Own.empty w6).b).src (by simp; omega) ?_))
  intro v7 w7 o7 _ _
  obtain ⟨a7, c7, rfl⟩ := o7.shape
  have HO7 := hidden o7.bsl
  have HP7 := hidden (HP6.out.fresh o7.b)
  have HQ7 := hidden (HO6.out.fresh o7.b)
  have HB7 : Hid (Below w3.heap.size w3 w7) := HB6.out.trans (o7.b.mono HB6.out.size)
  have HB17 : Hid (Below w1.heap.size w1 w7) := HB2.out.trans (HB7.out.mono HB2.out.size)
  clear o7 HP6 HO6 HB6
  go_wp2_with fail
  refine (HKc.out w7 _ _ _ qk h (by have h1 := HP7.out.capLe; have h2 := HX5.out; omega) (by omega) HB17.out HP7.out HQ7.out HO7.out).mono ?_
  rintro e w8 ⟨hb8, y1, y2, rfl, hy1, hy2⟩
  rw [HD1.out] at hy1
  rw [HD2.out] at hy2
  have HY1 := hidden hy1
  have HY2 := hidden hy2
  obtain ⟨b3, d3, rfl⟩ := hy1.len
  obtain ⟨b4, d4, rfl⟩ := hy2.len
  rw [deriveL_length, deriveL_length]
  rw [deriveL_length] at HY1 HY2
  have hb38 := HB7.out.trans (hb8.mono HB7.out.size)
  have HB8 := hidden (HB2.out.trans (hb38.mono HB2.out.size))
  have HX18 := hidden (HX1.out.fresh hb38)
  have HX28 := hidden (HX2.out.fresh hb38)
  have HV08 := hidden (HV0.out.fresh hb38)
  have HV18 := hidden (HV1.out.fresh hb38)
  have HV28 := hidden (HV2.out.fresh hb38)
  clear hy1 hy2 hb8 hb38 HP7 HQ7 HO7 HB7 HB17 HX1 HX2 HV0 HV1 HV2 HB2
  go_wp2_with fail
  refine (Derive_c _ _ _ k h id 67 32 (by omega) (by omega) (by omega) w8 (HR.out.fresh HB8.out) HV08.out HV18.out HV28.out).mono ?_
  rintro e w9 ⟨hb9, ht9⟩
  obtain ⟨v9, rfl, hv9⟩ : ∃ v, e = .returned (.tuple #[v, .int .i64 0]) ∧ BSl w9 v (deriveL k h 67 id 32) := by
    rcases ht9 with ⟨_, _, v, h1, h2⟩ | ⟨h, _⟩
    · exact ⟨v, h1, h2⟩
    · omega
  obtain ⟨b9, d9, rfl⟩ := hv9.len
  have HV9 := hidden hv9
  rw [deriveL_length] at HV9 ⊢
  have HB9 := hidden (HB8.out.trans (hb9.mono HB8.out.size))
  have HP9 := hidden hb9
  clear ht9 hv9 hb9
  go_wp2_with fail
  refine (Derive_c _ _ _ k h id 68 32 (by omega) (by omega) (by omega) w9 (HR.out.fresh HB9.out) (HV08.out.fresh HP9.out) (HV18.out.fresh HP9.out) (HV28.out.fresh HP9.out)).mono ?_
  rintro e wz ⟨hbz, htz⟩
  obtain ⟨vz, rfl, hvz⟩ : ∃ v, e = .returned (.tuple #[v, .int .i64 0]) ∧ BSl wz v (deriveL k h 68 id 32) := by
    rcases htz with ⟨_, _, v, h1, h2⟩ | ⟨h, _⟩
    · exact ⟨v, h1, h2⟩
    · omega
  obtain ⟨bz, dz, rfl⟩ := hvz.len
  rw [deriveL_length] at hvz ⊢
  obtain ⟨S1, hS1⟩ : ∃ S : ByteArray, S = ⟨(deriveL k h 67 id 32).toArray⟩ := ⟨_, rfl⟩
  obtain ⟨S2, hS2⟩ : ∃ S : ByteArray, S = ⟨(deriveL k h 68 id 32).toArray⟩ := ⟨_, rfl⟩
  have hb8z := HP9.out.trans (hbz.mono HP9.out.size)
  have e1 := run_str (HX18.out.fresh hb8z) hS1
  have e2 := run_str (HX28.out.fresh hb8z) hS2
  have e3 := run_str (HY1.out.fresh hb8z) hS1
  have e4 := run_str (HY2.out.fresh hb8z) hS2
  have e5 := run_str (HV9.out.fresh hbz) hS1
  have e6 := run_str hvz hS2
  have HBz := hidden (HB9.out.trans (hbz.mono HB9.out.size))
  clear htz hvz hbz hb8z hS1 hS2 HX18 HX28 HY1 HY2 HV9 HP9 HV08 HV18 HV28 HB8 HB9
  go_wp2_with fail
  refine (known_c wz (HR.out.fresh HBz.out) (HT.out.fresh HBz.out)).mono ?_
  rintro e we ⟨rfl, hbe⟩
  have HBe := hidden (HBz.out.trans (hbe.mono HBz.out.size))
  clear hbe e1 e2 e3 e4 e5 e6
  go_wp2_with fail
  go_ret
  exact ⟨rfl, HBe.out⟩
end Go.Proofs.YtookapglookphaaDoor
