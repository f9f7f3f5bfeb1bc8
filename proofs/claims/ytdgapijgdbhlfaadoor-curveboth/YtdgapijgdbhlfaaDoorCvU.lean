/- The walk of the law CurveThree. -/
import Derived.Test.YtdgapijgdbhlfaaDoorEdD
import Derived.Test.YtdgapijgdbhlfaaDoorOrdG
namespace Go.Proofs.YtdgapijgdbhlfaaDoor
open Go Go.RowKit

theorem strM : ∀ s d, [((22 : TypeId), (9 : TypeId))].contains (s, d) = true → ∀ v, MonoS Tryd.prog (convert s d v) := by
  intro s d h v
  simp at h
  obtain ⟨rfl, rfl⟩ := h
  exact monoS_bytes Tryd.underlying22 Tryd.underlying5 Tryd.underlying9 v
/-- Mul of right sizes, its answer as bytes. -/
theorem Mul_y (v1 v2 : Value) (k p : List UInt8) (hk : k.length = 32) (hp : p.length = 32) (w : World) (htp : Tp w) (h1 : BSl w v1 k) (h2 : BSl w v2 p) :
    Calls Tryd.prog 8 #[v1, v2] w fun e w' => ∃ g, e = .returned (.tuple #[.slice (some ⟨g, 0, none⟩) 32 32, .int .i64 0]) ∧ w.heap.size ≤ g ∧ w'.heap[g]? = some (.cells (bcells (mulL k p)).toArray 5 (0, 0)) ∧ BSl w' (.slice (some ⟨g, 0, none⟩) 32 32) (mulL k p) ∧ Below w.heap.size w w' :=
  (Mul_c v1 v2 k p w htp h1 h2).mono fun e w' h => by
    obtain ⟨g, h1, h2, h3⟩ := h.y ⟨hk, hp⟩
    have := BSl.ofBlock h3 (by rw [mulL_length]; omega)
    rw [mulL_length] at this
    exact ⟨g, h1, h2, h3, this, h.b⟩
theorem Base_y (v1 : Value) (k : List UInt8) (hk : k.length = 32) (w : World) (htp : Tp w) (h1 : BSl w v1 k) :
    Calls Tryd.prog 10 #[v1] w fun e w' => ∃ g, e = .returned (.tuple #[.slice (some ⟨g, 0, none⟩) 32 32, .int .i64 0]) ∧ w.heap.size ≤ g ∧ w'.heap[g]? = some (.cells (bcells (mulL k nineL)).toArray 5 (0, 0)) ∧ BSl w' (.slice (some ⟨g, 0, none⟩) 32 32) (mulL k nineL) ∧ Below w.heap.size w w' :=
  (Base_c v1 k w htp h1).mono fun e w' h => by
    obtain ⟨g, h1, h2, h3⟩ := h.y hk
    have := BSl.ofBlock h3 (by rw [mulL_length]; omega)
    rw [mulL_length] at this
    exact ⟨g, h1, h2, h3, this, h.b⟩

set_option maxHeartbeats 1600000 in
set_option maxRecDepth 100000 in
theorem curveThree_c (v0 v1 v2 : Value) (z0 z1 z2 : List UInt8) (w : World) (htp : Tp w) (h0 : BSl w v0 z0) (h1 : BSl w v1 z1) (h2 : BSl w v2 z2) :
    Calls Tryd.prog 6 #[v0, v1, v2] w fun e w' => e = .returned (.bool true) ∧ Below w.heap.size w w' := by
  have HTP := hidden htp
  have HS0 := hidden (sized_b 32 (by omega) v0 z0 w h0)
  have HQ1 := hidden h1
  have HQ2 := hidden h2
  obtain ⟨a0, n0, rfl⟩ := h0.len
  obtain ⟨a1, n1, rfl⟩ := h1.len
  obtain ⟨a2, n2, rfl⟩ := h2.len
  clear h0 h1 h2 htp
  go_enter Tryd.func6, Tryd.ntmps6
  go_wp2_with fail
  refine HS0.out.mono ?_
  rintro e w1 ⟨rfl, hk, hb⟩
  have hkl := sizedL_length z0 32
  generalize sizedL z0 32 = A at hk hkl
  have HLA := hidden hkl
  replace HQ1 := hidden (HQ1.out.fresh hb)
  replace HQ2 := hidden (HQ2.out.fresh hb)
  replace HTP := hidden (HTP.out.fresh hb)
  have HA := hidden hk
  have HX : Hid (Ex w w1) := hb
  have HS1 := hidden (sized_b 32 (by omega) _ z1 w1 HQ1.out)
  clear HS0 hk hkl hb
  go_wp2_with fail
  refine HS1.out.mono ?_
  rintro e w2 ⟨rfl, hk, hb⟩
  have hkl := sizedL_length z1 32
  generalize sizedL z1 32 = B at hk hkl
  have HLB := hidden hkl
  replace HA := hidden (HA.out.fresh hb)
  replace HQ2 := hidden (HQ2.out.fresh hb)
  replace HTP := hidden (HTP.out.fresh hb)
  have HB := hidden hk
  replace HX := hidden (Ex.trans HX.out hb)
  have HS2 := hidden (sized_b 32 (by omega) _ z2 w2 HQ2.out)
  clear HS1 hk hkl hb HQ1
  generalize w1.heap.size = g1 at HB ⊢
  go_wp2_with fail
  refine HS2.out.mono ?_
  rintro e w3 ⟨rfl, hk, hb⟩
  have hkl := sizedL_length z2 32
  generalize sizedL z2 32 = C at hk hkl
  have HLC := hidden hkl
  replace HA := hidden (HA.out.fresh hb)
  replace HB := hidden (HB.out.fresh hb)
  replace HTP := hidden (HTP.out.fresh hb)
  have HC := hidden hk
  replace HX := hidden (Ex.trans HX.out hb)
  clear HS2 hk hkl hb HQ2
  generalize w2.heap.size = g2 at HC ⊢
  have HK := hidden (Base_y _ A HLA.out w3 HTP.out HA.out)
  go_wp2_with fail
  refine HK.out.mono ?_
  rintro e w4 ⟨gP, rfl, _, _, hr, hb⟩
  obtain ⟨P, hP⟩ : ∃ x, x = mulL A nineL := ⟨_, rfl⟩
  rw [← hP] at hr
  have HLP : Hid (P.length = 32) := by show _ = _; rw [hP]; exact mulL_length _ _
  have HEP := hidden hP
  clear HK
  replace HA := hidden (HA.out.fresh hb)
  replace HB := hidden (HB.out.fresh hb)
  replace HC := hidden (HC.out.fresh hb)
  replace HTP := hidden (HTP.out.fresh hb)
  have HP := hidden hr
  replace HX := hidden (Ex.trans HX.out hb)
  clear hr hb hP
  have HK := hidden (Mul_y _ _ B P HLB.out HLP.out w4 HTP.out HB.out HP.out)
  go_wp2_with fail
  refine HK.out.mono ?_
  rintro e w5 ⟨gQ, rfl, _, _, hr, hb⟩
  obtain ⟨Q, hQ⟩ : ∃ x, x = mulL B P := ⟨_, rfl⟩
  rw [← hQ] at hr
  have HLQ : Hid (Q.length = 32) := by show _ = _; rw [hQ]; exact mulL_length _ _
  have HEQ := hidden hQ
  clear HK
  replace HA := hidden (HA.out.fresh hb)
  replace HB := hidden (HB.out.fresh hb)
  replace HC := hidden (HC.out.fresh hb)
  replace HP := hidden (HP.out.fresh hb)
  replace HTP := hidden (HTP.out.fresh hb)
  have HQ := hidden hr
  replace HX := hidden (Ex.trans HX.out hb)
  clear hr hb hQ
  have HK := hidden (Mul_y _ _ C Q HLC.out HLQ.out w5 HTP.out HC.out HQ.out)
  go_wp2_with fail
  refine HK.out.mono ?_
  rintro e w6 ⟨gR, rfl, _, _, hr, hb⟩
  obtain ⟨R, hR⟩ : ∃ x, x = mulL C Q := ⟨_, rfl⟩
  rw [← hR] at hr
  have HLR : Hid (R.length = 32) := by show _ = _; rw [hR]; exact mulL_length _ _
  have HER := hidden hR
  clear HK
  replace HA := hidden (HA.out.fresh hb)
  replace HB := hidden (HB.out.fresh hb)
  replace HC := hidden (HC.out.fresh hb)
  replace HP := hidden (HP.out.fresh hb)
  replace HQ := hidden (HQ.out.fresh hb)
  replace HTP := hidden (HTP.out.fresh hb)
  have HR := hidden hr
  replace HX := hidden (Ex.trans HX.out hb)
  clear hr hb hR
  have HK := hidden (Base_y _ C HLC.out w6 HTP.out HC.out)
  go_wp2_with fail
  refine HK.out.mono ?_
  rintro e w7 ⟨gU, rfl, _, _, hr, hb⟩
  obtain ⟨U, hU⟩ : ∃ x, x = mulL C nineL := ⟨_, rfl⟩
  rw [← hU] at hr
  have HLU : Hid (U.length = 32) := by show _ = _; rw [hU]; exact mulL_length _ _
  have HEU := hidden hU
  clear HK
  replace HA := hidden (HA.out.fresh hb)
  replace HB := hidden (HB.out.fresh hb)
  replace HC := hidden (HC.out.fresh hb)
  replace HP := hidden (HP.out.fresh hb)
  replace HQ := hidden (HQ.out.fresh hb)
  replace HR := hidden (HR.out.fresh hb)
  replace HTP := hidden (HTP.out.fresh hb)
  have HU := hidden hr
  replace HX := hidden (Ex.trans HX.out hb)
  clear hr hb hU
  have HK := hidden (Mul_y _ _ A U HLA.out HLU.out w7 HTP.out HA.out HU.out)
  go_wp2_with fail
  refine HK.out.mono ?_
  rintro e w8 ⟨gV, rfl, _, _, hr, hb⟩
  obtain ⟨V, hV⟩ : ∃ x, x = mulL A U := ⟨_, rfl⟩
  rw [← hV] at hr
  have HLV : Hid (V.length = 32) := by show _ = _; rw [hV]; exact mulL_length _ _
  have HEV := hidden hV
  clear HK
  replace HA := hidden (HA.out.fresh hb)
  replace HB := hidden (HB.out.fresh hb)
  replace HC := hidden (HC.out.fresh hb)
  replace HP := hidden (HP.out.fresh hb)
  replace HQ := hidden (HQ.out.fresh hb)
  replace HR := hidden (HR.out.fresh hb)
  replace HU := hidden (HU.out.fresh hb)
  replace HTP := hidden (HTP.out.fresh hb)
  have HV := hidden hr
  replace HX := hidden (Ex.trans HX.out hb)
  clear hr hb hV
  have HK := hidden (Mul_y _ _ B V HLB.out HLV.out w8 HTP.out HB.out HV.out)
  go_wp2_with fail
  refine HK.out.mono ?_
  rintro e w9 ⟨gW, rfl, _, _, hr, hb⟩
  obtain ⟨W, hW⟩ : ∃ x, x = mulL B V := ⟨_, rfl⟩
  rw [← hW] at hr
  have HLW : Hid (W.length = 32) := by show _ = _; rw [hW]; exact mulL_length _ _
  have HEW := hidden hW
  clear HK
  replace HA := hidden (HA.out.fresh hb)
  replace HB := hidden (HB.out.fresh hb)
  replace HC := hidden (HC.out.fresh hb)
  replace HP := hidden (HP.out.fresh hb)
  replace HQ := hidden (HQ.out.fresh hb)
  replace HR := hidden (HR.out.fresh hb)
  replace HU := hidden (HU.out.fresh hb)
  replace HV := hidden (HV.out.fresh hb)
  replace HTP := hidden (HTP.out.fresh hb)
  have HW := hidden hr
  replace HX := hidden (Ex.trans HX.out hb)
  clear hr hb hW
  have HMK := made_run 32 (by omega) w9
  rw [show ((32 : Nat) : Int) = 32 from rfl] at HMK
  have HZ := hidden (BSl.zeros w9 32 (by omega))
  have hb : Ex w9 (w9.alloc (.cells (bcells (List.replicate 32 0)).toArray 5)) := Ex.alloc w9 _
  generalize hza : w9.alloc (.cells (bcells (List.replicate 32 0)).toArray 5) = wz at HMK HZ hb
  clear hza
  replace HA := hidden (HA.out.fresh hb)
  replace HB := hidden (HB.out.fresh hb)
  replace HC := hidden (HC.out.fresh hb)
  replace HP := hidden (HP.out.fresh hb)
  replace HQ := hidden (HQ.out.fresh hb)
  replace HR := hidden (HR.out.fresh hb)
  replace HU := hidden (HU.out.fresh hb)
  replace HV := hidden (HV.out.fresh hb)
  replace HW := hidden (HW.out.fresh hb)
  replace HTP := hidden (HTP.out.fresh hb)
  replace HX := hidden (Ex.trans HX.out hb)
  clear hb
  have HK := hidden (Mul_y _ _ A (List.replicate 32 0) HLA.out (by decide +kernel) wz HTP.out HA.out HZ.out)
  rw [mul_zero A HLA.out] at HK
  go_wp2_with fail
  refine HK.out.mono ?_
  rintro e wl ⟨gn, rfl, _, _, hn, hb⟩
  have e1 : W = R := by rw [HEW.out, HEV.out, HEU.out, HER.out, HEQ.out, HEP.out]; exact (mul_three A B C HLA.out HLB.out HLC.out).symm
  have hr := HR.out.fresh hb
  have hw := HW.out.fresh hb
  rw [e1] at hw
  replace HTP := hidden (HTP.out.fresh hb)
  replace HX := hidden (Ex.trans HX.out hb)
  have HN := hidden hn
  have HHR := hidden hr
  have HHW := hidden hw
  clear hb hr hw hn HK HC HMK HZ HR HW HA HB HP HQ HU HV e1 HEP HEQ HER HEU HEV HEW HLA HLB HLC HLP HLQ HLR HLU HLV HLW
  have hd : Below wl.heap.size wl wl.drew := (Below.refl _ wl).drew
  have s1 := run_string (HHR.out.fresh hd)
  have s2 := run_string (HHW.out.fresh hd)
  have s3 := run_string (HN.out.fresh hd)
  have hmk := made_run 32 (by omega) wl.drew
  rw [show ((32 : Nat) : Int) = 32 from rfl] at hmk
  have s4 := run_string (BSl.zeros wl.drew 32 (by omega))
  rw [show wl.drew.heap.size = wl.heap.size from rfl] at hmk s4
  have hx : Ex wl.drew (wl.drew.alloc (.cells (bcells (List.replicate 32 0)).toArray 5)) := Ex.alloc _ _
  generalize (⟨R.toArray⟩ : ByteArray) = SR at s1 s2
  generalize (⟨(List.replicate 32 (0 : UInt8)).toArray⟩ : ByteArray) = SZ at s3 s4
  generalize wl.drew.alloc (.cells (bcells (List.replicate 32 0)).toArray 5) = wm at hmk s4 hx
  replace HTP := hidden ((HTP.out.fresh hd).fresh hx)
  replace HX := hidden (Ex.trans (Ex.trans HX.out hd) hx)
  clear hd hx HHR HHW HN
  have HKN := hidden (known_c wm HTP.out)
  go_wp2_with fail
  refine region_ordG (commOkG [(22, 9)] _) (mayG strM (by kernel_rfl)) [0, 1, 2, 3, 4, 5, 6, 7, 8, 9, 10, 11, 12, 13, 14, 15, 16, 17, 18, 19, 20, 21, 22, 23, 24, 25, 26, 27, 28, 29, 30, 31, 32, 33, 34, 35, 36, 37, 38, 39, 40, 41, 42, 43] (by kernel_rfl) (by kernel_rfl) fun N9 H9 => ?_
  simp only [List.filterMap_cons, List.filterMap_nil, List.getElem?_toArray, List.getElem?_cons_succ, List.getElem?_cons_zero]
  go_wp2_with (go_at_call 13; refine HKN.out.mono ?_; rintro e wk ⟨rfl, hbk⟩)
  go_ret
  exact ⟨rfl, Ex.trans HX.out hbk⟩
end Go.Proofs.YtdgapijgdbhlfaaDoor
