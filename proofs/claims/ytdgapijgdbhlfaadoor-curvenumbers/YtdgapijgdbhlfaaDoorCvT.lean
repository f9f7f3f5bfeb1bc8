/- The walk of the law CurveTells. -/
import Derived.Test.YtdgapijgdbhlfaaDoorCrM
namespace Go.Proofs.YtdgapijgdbhlfaaDoor
open Go Go.RowKit

theorem bsl_noneC (w : World) : BSl w (.slice none 0 0) [] := ⟨none, 0, rfl, by simp, by simp [maxLen], fun _ => ⟨rfl, rfl⟩, fun _ _ h => absurd rfl h⟩
/-- What either one tells: bytes and a number. -/
def CTold (w : World) (er : Nat) (x : List UInt8) (e : Ending) (w' : World) : Prop :=
  Below w.heap.size w w' ∧ ∃ ao n cap, e = .returned (.tuple #[.slice ao n cap, .int .i64 (er : Int)]) ∧ BSl w' (.slice ao n cap) x
open Classical in
theorem Told.p {w w' : World} {ok : Prop} {x : List UInt8} {e : Ending} (hl : x.length = 32) (h : Told w ok x e w') : CTold w (if ok then 0 else 1) (if ok then x else []) e w' := by
  refine ⟨h.b, ?_⟩
  by_cases hk : ok
  · obtain ⟨g, he, h2⟩ := h.bsl hk hl
    rw [if_pos hk, if_pos hk]
    exact ⟨_, _, _, he, h2⟩
  · rw [if_neg hk, if_neg hk]
    exact ⟨_, _, _, h.n hk, bsl_noneC _⟩
open Classical in
theorem RTold.p {w w' : World} {ok : Prop} {x : List UInt8} {e : Ending} (h : RTold w ok x e w') : CTold w (if ok then 0 else 1) (if ok then x else []) e w' := by
  refine ⟨h.b, ?_⟩
  by_cases hk : ok
  · obtain ⟨ao, cap, he, h2⟩ := h.y hk
    rw [if_pos hk, if_pos hk]
    exact ⟨_, _, _, he, h2⟩
  · rw [if_neg hk, if_neg hk]
    exact ⟨_, _, _, h.n hk, bsl_noneC _⟩
/-- Both tell the same. -/
theorem mul_both (k p : List UInt8) : ∃ er x, (∀ v1 v2 w, Tp w → BSl w v1 k → BSl w v2 p → Calls Tryd.prog 8 #[v1, v2] w (CTold w er x)) ∧ (∀ v1 v2 w, BSl w v1 k → BSl w v2 p → Calls Tryd.prog 12 #[v1, v2] w (CTold w er x)) :=
  ⟨_, _, fun v1 v2 w ht h1 h2 => (Mul_c v1 v2 k p w ht h1 h2).mono fun _ _ h => h.p (mulL_length _ _), fun v1 v2 w h1 h2 => (rMul_t v1 v2 k p w h1 h2).mono fun _ _ h => h.p⟩
theorem base_both (k : List UInt8) : ∃ er x, (∀ v1 w, Tp w → BSl w v1 k → Calls Tryd.prog 10 #[v1] w (CTold w er x)) ∧ (∀ v1 w, BSl w v1 k → Calls Tryd.prog 15 #[v1] w (CTold w er x)) :=
  ⟨_, _, fun v1 w ht h1 => (Base_c v1 k w ht h1).mono fun _ _ h => h.p (mulL_length _ _), fun v1 w h1 => (rBase_c v1 k w h1).mono fun _ _ h => h.p⟩

set_option maxHeartbeats 800000 in
set_option maxRecDepth 100000 in
theorem curveTells_c (v0 v1 : Value) (z0 z1 : List UInt8) (wh : Bool) (w : World) (htp : Tp w) (h0 : BSl w v0 z0) (h1 : BSl w v1 z1) :
    Calls Tryd.prog 4 #[v0, v1, .bool wh] w fun e w' => e = .returned (.bool true) ∧ Below w.heap.size w w' := by
  have HTP := hidden htp
  have HC0 := hidden (cut_c 40 (by omega) v0 z0 w h0)
  have HC1 := hidden (cut_c 40 (by omega) v1 z1 w h1)
  obtain ⟨a0, n0, rfl⟩ := h0.len
  obtain ⟨a1, n1, rfl⟩ := h1.len
  clear h0 h1 htp
  go_enter Tryd.func4, Tryd.ntmps4
  go_wp2_with fail
  refine HC0.out.mono ?_
  rintro e w2 ⟨v2, rfl, h2, _, rfl⟩
  go_wp2_with fail
  refine HC1.out.mono ?_
  rintro e w3 ⟨v3, rfl, h3, _, rfl⟩
  generalize z0.take 40 = K at h2
  generalize z1.take 40 = P at h3
  have H2 := hidden h2
  have H3 := hidden h3
  obtain ⟨a2, c2, rfl⟩ := h2.len
  obtain ⟨a3, c3, rfl⟩ := h3.len
  clear HC0 HC1 h2 h3
  cases wh with
  | false =>
    obtain ⟨wz, hwz⟩ : ∃ x, x = w3 := ⟨w3, rfl⟩
    subst hwz
    have HE : Hid (Ex wz wz) := Ex.refl wz
    obtain ⟨er, X, hm1, hm2⟩ := mul_both K P
    obtain ⟨eb, Y, hm3, hm4⟩ := base_both K
    have HM1 := hidden (hm1 _ _ wz HTP.out H2.out H3.out)
    have HM2 := hidden hm2
    have HM3 := hidden hm3
    have HM4 := hidden hm4
    clear hm1 hm2 hm3 hm4
    go_wp2_with fail
    refine HM1.out.mono ?_
    rintro e w5 ⟨hb5, ao5, n5, c5, rfl, h5⟩
    have HX5 := hidden h5
    have H2a := hidden (H2.out.fresh hb5)
    have H3a := hidden (H3.out.fresh hb5)
    have HTPa := hidden (HTP.out.fresh hb5)
    have HEa := hidden (Ex.trans HE.out hb5)
    clear h5 hb5 HM1 H2 H3 HTP HE
    go_wp2_with fail
    refine (HM2.out _ _ w5 H2a.out H3a.out).mono ?_
    rintro e w6 ⟨hb6, ao6, n6, c6, rfl, h6⟩
    have HX6 := hidden (HX5.out.fresh hb6)
    have HY6 := hidden h6
    have H2b := hidden (H2a.out.fresh hb6)
    have HTPb := hidden (HTPa.out.fresh hb6)
    have HEb := hidden (Ex.trans HEa.out hb6)
    clear h6 hb6 HM2 H2a H3a HTPa HEa HX5
    go_wp2_with fail
    refine (HM3.out _ w6 HTPb.out H2b.out).mono ?_
    rintro e w7 ⟨hb7, ao7, n7, c7, rfl, h7⟩
    have HX7 := hidden (HX6.out.fresh hb7)
    have HY7 := hidden (HY6.out.fresh hb7)
    have HZ7 := hidden h7
    have H2c := hidden (H2b.out.fresh hb7)
    have HTPc := hidden (HTPb.out.fresh hb7)
    have HEc := hidden (Ex.trans HEb.out hb7)
    clear h7 hb7 HM3 H2b HTPb HEb HX6 HY6
    go_wp2_with fail
    refine (HM4.out _ w7 H2c.out).mono ?_
    rintro e w8 ⟨hb8, ao8, n8, c8, rfl, h8⟩
    have hs1 := run_string (HX7.out.fresh hb8)
    have hs2 := run_string (HY7.out.fresh hb8)
    have hs3 := run_string (HZ7.out.fresh hb8)
    have hs4 := run_string h8
    have HTPd := hidden (HTPc.out.fresh hb8)
    have HEd := hidden (Ex.trans HEc.out hb8)
    clear h8 hb8 HM4 H2c HTPc HEc HX7 HY7 HZ7
    generalize (⟨X.toArray⟩ : ByteArray) = XS at hs1 hs2
    generalize (⟨Y.toArray⟩ : ByteArray) = YS at hs3 hs4
    have HKN := hidden (known_c w8 HTPd.out)
    clear HTPd
    go_wp2_with fail
    refine HKN.out.mono ?_
    rintro e w9 ⟨rfl, hb9⟩
    have HE9 := hidden (Ex.trans HEd.out hb9)
    clear hb9 HKN HEd hs1 hs2 hs3 hs4
    go_wp2
    go_ret
    exact ⟨rfl, HE9.out⟩
  | true =>
    have HS0 := hidden (sized_b 32 (by omega) _ K w3 H2.out)
    obtain ⟨K', hK'⟩ : ∃ x, x = sizedL K 32 := ⟨_, rfl⟩
    have hl1 : K'.length = 32 := by rw [hK']; exact sizedL_length _ _
    rw [← hK'] at HS0
    go_wp2_with fail
    refine HS0.out.mono ?_
    rintro e w4 ⟨rfl, h4, hb4⟩
    clear hK' H2 HS0
    have H2 := hidden h4
    have hb4' := hidden hb4
    have HS1 := hidden (sized_b 32 (by omega) _ P w4 (H3.out.fresh hb4))
    obtain ⟨P', hP'⟩ : ∃ x, x = sizedL P 32 := ⟨_, rfl⟩
    rw [← hP'] at HS1
    clear h4 hb4
    go_wp2_with fail
    refine HS1.out.mono ?_
    rintro e wz ⟨rfl, h5, hb5⟩
    have HE : Hid (Ex w3 wz) := Ex.trans hb4'.out hb5
    have HTPz := hidden (HTP.out.fresh HE.out)
    have H2z := hidden (H2.out.fresh hb5)
    clear hP' HS1 H3 HTP H2 hb5 hb4'
    have H3 := hidden h5
    have H2 := H2z
    have HTP := HTPz
    clear h5 H2z HTPz
    generalize w3.heap.size = g3 at H2 ⊢
    generalize w4.heap.size = g4 at H3 ⊢
    obtain ⟨er, X, hm1, hm2⟩ := mul_both K' P'
    obtain ⟨eb, Y, hm3, hm4⟩ := base_both K'
    have HM1 := hidden (hm1 _ _ wz HTP.out H2.out H3.out)
    have HM2 := hidden hm2
    have HM3 := hidden hm3
    have HM4 := hidden hm4
    clear hm1 hm2 hm3 hm4
    go_wp2_with fail
    refine HM1.out.mono ?_
    rintro e w5 ⟨hb5, ao5, n5, c5, rfl, h5⟩
    have HX5 := hidden h5
    have H2a := hidden (H2.out.fresh hb5)
    have H3a := hidden (H3.out.fresh hb5)
    have HTPa := hidden (HTP.out.fresh hb5)
    have HEa := hidden (Ex.trans HE.out hb5)
    clear h5 hb5 HM1 H2 H3 HTP HE
    go_wp2_with fail
    refine (HM2.out _ _ w5 H2a.out H3a.out).mono ?_
    rintro e w6 ⟨hb6, ao6, n6, c6, rfl, h6⟩
    have HX6 := hidden (HX5.out.fresh hb6)
    have HY6 := hidden h6
    have H2b := hidden (H2a.out.fresh hb6)
    have HTPb := hidden (HTPa.out.fresh hb6)
    have HEb := hidden (Ex.trans HEa.out hb6)
    clear h6 hb6 HM2 H2a H3a HTPa HEa HX5
    go_wp2_with fail
    refine (HM3.out _ w6 HTPb.out H2b.out).mono ?_
    rintro e w7 ⟨hb7, ao7, n7, c7, rfl, h7⟩
    have HX7 := hidden (HX6.out.fresh hb7)
    have HY7 := hidden (HY6.out.fresh hb7)
    have HZ7 := hidden h7
    have H2c := hidden (H2b.out.fresh hb7)
    have HTPc := hidden (HTPb.out.fresh hb7)
    have HEc := hidden (Ex.trans HEb.out hb7)
    clear h7 hb7 HM3 H2b HTPb HEb HX6 HY6
    go_wp2_with fail
    refine (HM4.out _ w7 H2c.out).mono ?_
    rintro e w8 ⟨hb8, ao8, n8, c8, rfl, h8⟩
    have hs1 := run_string (HX7.out.fresh hb8)
    have hs2 := run_string (HY7.out.fresh hb8)
    have hs3 := run_string (HZ7.out.fresh hb8)
    have hs4 := run_string h8
    have HTPd := hidden (HTPc.out.fresh hb8)
    have HEd := hidden (Ex.trans HEc.out hb8)
    clear h8 hb8 HM4 H2c HTPc HEc HX7 HY7 HZ7
    generalize (⟨X.toArray⟩ : ByteArray) = XS at hs1 hs2
    generalize (⟨Y.toArray⟩ : ByteArray) = YS at hs3 hs4
    have HKN := hidden (known_c w8 HTPd.out)
    clear HTPd
    go_wp2_with fail
    refine HKN.out.mono ?_
    rintro e w9 ⟨rfl, hb9⟩
    have HE9 := hidden (Ex.trans HEd.out hb9)
    clear hb9 HKN HEd hs1 hs2 hs3 hs4
    go_wp2
    go_ret
    exact ⟨rfl, HE9.out⟩
end Go.Proofs.YtdgapijgdbhlfaaDoor
