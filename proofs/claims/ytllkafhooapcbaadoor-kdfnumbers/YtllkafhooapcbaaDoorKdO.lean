/- What Mac and Print answer. -/
import Derived.Test.YtllkafhooapcbaaDoorKdN
namespace Go.Proofs.YtllkafhooapcbaaDoor
open Go Go.RowKit

/-- HMAC-SHA-256. -/
def macL (key b : List UInt8) : List UInt8 := sumL (padL key 92 ++ sumL (padL key 54 ++ b))
theorem macL_length (key b : List UInt8) : (macL key b).length = 32 := sumL_length _
/-- Two slices in a row of their own. -/
theorem pair_cells (w : World) (v0 v1 : Value) : (w.alloc (.cells #[v0, v1] 22)).cell? ⟨w.heap.size, 0, none⟩ = some v0 ∧ (w.alloc (.cells #[v0, v1] 22)).cell? ⟨w.heap.size, 1, none⟩ = some v1 := by
  constructor <;> simp
/-- slices.Concat of two slices, handed over in a row made for it. -/
theorem concat_p (v0 v1 : Value) (xs ys : List UInt8) (hx : xs.length ≤ 400000000) (hy : ys.length ≤ 400000000) (w : World) (h0 : BSl w v0 xs) (h1 : BSl w v1 ys) :
    Calls Tryd.prog 36 #[.slice (some ⟨w.heap.size, 0, none⟩) 2 2] (w.alloc (.cells #[v0, v1] 22)) fun e w' => Fresh w (xs ++ ys) e w' := by
  have hb : Below w.heap.size w (w.alloc (.cells #[v0, v1] 22)) := (Below.refl _ w).alloc (by omega) _
  exact (concat_c w.heap.size v0 v1 xs ys hx hy _ (pair_cells w v0 v1).1 (pair_cells w v0 v1).2 (h0.fresh hb) (h1.fresh hb)).mono fun e w' h => Fresh.next hb h

set_option maxHeartbeats 800000 in
set_option maxRecDepth 100000 in
theorem Mac_c (v1 v2 : Value) (key b : List UInt8) (hk : key.length ≤ 1000000) (hb : b.length ≤ 1000000) (w : World) (hr : Rw w) (h1 : BSl w v1 key) (h2 : BSl w v2 b) :
    Calls Tryd.prog 11 #[v1, v2] w fun e w' => Fresh w (macL key b) e w' := by
  have HR := hidden hr
  have H1 := hidden h1
  have H2 := hidden h2
  obtain ⟨a1, c1, rfl⟩ := h1.len
  obtain ⟨a2, c2, rfl⟩ := h2.len
  clear hr h1 h2
  go_enter Tryd.func11, Tryd.ntmps11
  go_wp2_with fail
  refine (padded_c _ key 54 (by omega) w HR.out H1.out).mono ?_
  rintro e w1 ⟨v3, rfl, ho3, hb3⟩
  have HV3 := hidden (BSl.ofRow ho3)
  obtain ⟨a3, c3, rfl⟩ := ownsRow_shape ho3
  have HB3 := hidden hb3
  rw [padL_length] at HV3 ⊢
  clear ho3 hb3
  go_wp2_with fail
  refine (concat_p _ _ (padL key 54) b (by rw [padL_length]; omega) (by omega) w1 HV3.out (H2.out.fresh HB3.out)).mono ?_
  rintro e w2 hf
  obtain ⟨v4, rfl, ho4, hb4⟩ := Fresh.next HB3.out hf
  have HV4 := hidden (BSl.ofRow ho4)
  have HB4 := hidden hb4
  clear ho4 hb4 hf HV3 HB3
  go_wp2_with fail
  refine (Sum_c _ _ (by rw [List.length_append, padL_length]; omega) _ (HR.out.fresh HB4.out) HV4.out).mono ?_
  rintro e w3 hf
  obtain ⟨v5, rfl, ho5, hb5⟩ := Fresh.next HB4.out hf
  have HV5 := hidden (BSl.ofRow ho5)
  have HB5 := hidden hb5
  obtain ⟨a5, c5, rfl⟩ := ownsRow_shape ho5
  rw [sumL_length] at HV5 ⊢
  clear ho5 hb5 hf HV4 HB4
  go_wp2_with fail
  refine (padded_c _ key 92 (by omega) w3 (HR.out.fresh HB5.out) (H1.out.fresh HB5.out)).mono ?_
  rintro e w4 ⟨v6, rfl, ho6, hb6⟩
  have HV6 := hidden (BSl.ofRow ho6)
  have HV7 := hidden (HV5.out.fresh hb6)
  have HB6 := hidden (HB5.out.trans (hb6.mono HB5.out.size))
  obtain ⟨a6, c6, rfl⟩ := ownsRow_shape ho6
  rw [padL_length] at HV6 ⊢
  clear ho6 hb6 HV5 HB5
  go_wp2_with fail
  refine (concat_p _ _ (padL key 92) (sumL (padL key 54 ++ b)) (by rw [padL_length]; omega) (by rw [sumL_length]; omega) w4 HV6.out HV7.out).mono ?_
  rintro e w5 hf
  obtain ⟨v8, rfl, ho8, hb8⟩ := Fresh.next HB6.out hf
  have HV8 := hidden (BSl.ofRow ho8)
  have HB8 := hidden hb8
  clear ho8 hb8 hf HV6 HV7 HB6
  go_wp2_with fail
  refine (Sum_c _ _ (by rw [List.length_append, padL_length, sumL_length]; omega) _ (HR.out.fresh HB8.out) HV8.out).mono ?_
  rintro e w6 hf
  obtain ⟨v9, rfl, ho9, hb9⟩ := Fresh.next HB8.out hf
  have HO9 := hidden ho9
  have HB9 := hidden hb9
  clear ho9 hb9 hf HV8 HB8
  go_wp2
  go_ret
  exact ⟨v9, rfl, HO9.out, HB9.out⟩

set_option maxHeartbeats 400000 in
theorem Print_c (v1 : Value) (key : List UInt8) (hk : key.length ≤ 1000000) (w : World) (hr : Rw w) (h1 : BSl w v1 key) :
    Calls Tryd.prog 13 #[v1] w fun e w' => Fresh w (sumL key) e w' := by
  have HR := hidden hr
  have H1 := hidden h1
  obtain ⟨a1, c1, rfl⟩ := h1.len
  clear hr h1
  go_enter Tryd.func13, Tryd.ntmps13
  go_wp2_with fail
  refine (Sum_c _ key (by omega) w HR.out H1.out).mono ?_
  rintro e w6 ⟨v9, rfl, ho9, hb9⟩
  have HO9 := hidden ho9
  have HB9 := hidden hb9
  clear ho9 hb9
  go_wp2
  go_ret
  exact ⟨v9, rfl, HO9.out, HB9.out⟩
end Go.Proofs.YtllkafhooapcbaaDoor
