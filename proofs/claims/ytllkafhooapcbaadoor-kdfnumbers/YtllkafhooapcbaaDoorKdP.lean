/- The walk of the law KdfMacs. -/
import Derived.Test.YtllkafhooapcbaaDoorKdO
import Derived.Test.YtllkafhooapcbaaDoorFreD
namespace Go.Proofs.YtllkafhooapcbaaDoor
open Go Go.RowKit

/-- What Within answers. -/
def wn (n : Int) (h : Nat) : Nat := if n.tmod ((h : Int) + 1) < 0 then (n.tmod ((h : Int) + 1) + h + 1).toNat else (n.tmod ((h : Int) + 1)).toNat
theorem wn_le (n : Int) (h : Nat) : wn n h ≤ h := by
  have hr1 : n.tmod ((h : Int) + 1) ≤ h := by
    have := Int.tmod_lt_of_pos n (show (0 : Int) < (h : Int) + 1 by omega); omega
  unfold wn
  split <;> omega
set_option maxHeartbeats 400000 in
theorem within_x (n : Int) (h : Nat) (hh : h ≤ 1000000000) (w : World) :
    Calls Tryd.prog 23 #[.int .i64 n, .int .i64 0, .int .i64 h] w fun e w' => e = .returned (.int .i64 (wn n h : Nat)) ∧ w' = w := by
  have hr0 : -(h : Int) ≤ n.tmod ((h : Int) + 1) := by
    by_cases hn : 0 ≤ n
    · have := Int.tmod_nonneg ((h : Int) + 1) hn; omega
    · have h1 := Int.lt_tmod_of_pos n (show (0 : Int) < (h : Int) + 1 by omega); omega
  have hr1 : n.tmod ((h : Int) + 1) ≤ h := by
    have := Int.tmod_lt_of_pos n (show (0 : Int) < (h : Int) + 1 by omega); omega
  by_cases hneg : n.tmod ((h : Int) + 1) < 0
  · have HE : Hid (((wn n h : Nat) : Int) = n.tmod ((h : Int) + 1) + h + 1) := by
      show _ = _
      unfold wn
      rw [if_pos hneg, Int.toNat_of_nonneg (by omega)]
    go_enter Tryd.func23, Tryd.ntmps23
    go_wp2
    go_ret
    exact ⟨by rw [HE.out]; rfl, rfl⟩
  · have HE : Hid (((wn n h : Nat) : Int) = n.tmod ((h : Int) + 1)) := by
      show _ = _
      unfold wn
      rw [if_neg hneg, Int.toNat_of_nonneg (by omega)]
    go_enter Tryd.func23, Tryd.ntmps23
    go_wp2
    go_ret
    exact ⟨by rw [HE.out]; rfl, rfl⟩
theorem mac_long (key b : List UInt8) (h : 64 < key.length) : macL (sumL key) b = macL key b := by
  have e : keyL (sumL key) = keyL key := by
    unfold keyL shortK
    rw [if_pos h, if_neg (by rw [sumL_length]; omega)]
  unfold macL padL
  rw [e]
theorem mac_noughts (key b : List UInt8) (k : Nat) (h : key.length + k ≤ 64) : macL (key ++ List.replicate k 0) b = macL key b := by
  have e : keyL (key ++ List.replicate k 0) = keyL key := by
    unfold keyL shortK
    rw [if_neg (by rw [List.length_append, List.length_replicate]; omega), if_neg (by omega), List.length_append, List.length_replicate, List.append_assoc, List.replicate_append_replicate]
    congr 2
    omega
  unfold macL padL
  rw [e]

set_option maxHeartbeats 3200000 in
set_option maxRecDepth 100000 in
theorem kdfMacs_c (v0 v1 : Value) (z0 z1 : List UInt8) (n : Int) (w : World) (hr : Rw w) (h0 : BSl w v0 z0) (h1 : BSl w v1 z1) :
    Calls Tryd.prog 6 #[v0, v1, .int .i64 n] w fun e w' => e = .returned (.bool true) ∧ Below w.heap.size w w' := by
  have HR0 := hidden hr
  have H0 := hidden h0
  have H1 := hidden h1
  obtain ⟨a0, n0, rfl⟩ := h0.len
  obtain ⟨a1, n1, rfl⟩ := h1.len
  clear h0 h1 hr
  go_enter Tryd.func6, Tryd.ntmps6
  go_wp2_with fail
  refine (cut_c 150 (by omega) _ z0 w H0.out).mono ?_
  rintro e w' ⟨va, rfl, hk, _, rfl⟩
  have hkl : (z0.take 150).length ≤ 150 := by simp; omega
  generalize z0.take 150 = K at hk hkl
  obtain ⟨ak, ck, rfl⟩ := hk.len
  have HK0 := hidden hk
  clear hk H0
  go_wp2_with fail
  refine (cut_c 300 (by omega) _ z1 w' H1.out).mono ?_
  rintro e w ⟨vb, rfl, hb, _, rfl⟩
  have hbl : (z1.take 300).length ≤ 300 := by simp; omega
  generalize z1.take 300 = B at hb hbl
  obtain ⟨ab, cb, rfl⟩ := hb.len
  have HB0 := hidden hb
  clear hb H1
  go_wp2_with fail
  refine (Mac_c _ _ K B (by omega) (by omega) w HR0.out HK0.out HB0.out).mono ?_
  rintro e w1 ⟨vm, rfl, hom, hbm⟩
  have HK := hidden (HK0.out.fresh hbm)
  have HB := hidden (HB0.out.fresh hbm)
  have HR := hidden (HR0.out.fresh hbm)
  have hm := BSl.ofRow hom
  rw [macL_length] at hom
  obtain ⟨am, cm, rfl⟩ := ownsRow_shape hom
  have HM := hidden hm
  have HX := hidden hbm
  clear hom hbm hm HK0 HB0 HR0
  go_wp2_with fail
  refine region_free [(.val (.slice am 32 cm)), (.val (.int .i64 32)), (.val (.bool false)), (.val (.bool false)), (.val (.slice ab B.length cb)), (.bsl (sumL B)), (.val (.int .i64 32)), (.val (.bool false)), (.val (.bool false)), (.val (.bool false)), (.val (.slice ak K.length ck)), (.bsl (sumL K)), (.val (.string ⟨(List.toArray (sumL K))⟩)), (.val (.slice ak K.length ck)), (.bsl (sumL K)), (.val (.string ⟨(List.toArray (sumL K))⟩)), (.val (.bool false)), (.val (.bool false))] (by kernel_rfl) ?_ ?_
  · refine req_cons (.val (.slice am 32 cm)) (by kernel_rfl) (fun vs w1 he hd => StepG.plain (by kernel_rfl) (gives_move (x := (.tmp 7)) (v := (.slice am 32 cm)) (by kernel_rfl) (by kernel_rfl) ⟨Ex.refl _, rfl⟩)) ?_
    refine req_cons (.val (.int .i64 32)) (by kernel_rfl) (fun vs w1 he hd => StepG.plain (by kernel_rfl) (gives_len (ty := 22) (x := (.tmp 15)) (n := 32) (by kernel_rfl) (Eq.trans (b := vs 0) (by kernel_rfl) (hd 0 (.val (.slice am 32 cm)) (by kernel_rfl) (by kernel_rfl))) ⟨_, Tryd.underlying22⟩ ⟨Ex.refl _, rfl⟩)) ?_
    refine req_cons (.val (.bool false)) (by kernel_rfl) (fun vs w1 he hd => StepG.plain (by kernel_rfl) (gives_neI (t := 3) (k := .i64) (a := 32) (b := 32) (x := (.tmp 16)) (y := (.const (.int .i64 32))) (r := false) (by kernel_rfl) (Eq.trans (b := vs 1) (by kernel_rfl) (hd 1 (.val (.int .i64 32)) (by kernel_rfl) (by kernel_rfl))) (by kernel_rfl) (by simp) ⟨Ex.refl _, rfl⟩)) ?_
    refine req_cons (.val (.bool false)) (by kernel_rfl) (fun vs w1 he hd => StepG.plain (by kernel_rfl) (gives_move (x := (.tmp 17)) (v := (.bool false)) (by kernel_rfl) (Eq.trans (b := vs 2) (by kernel_rfl) (hd 2 (.val (.bool false)) (by kernel_rfl) (by kernel_rfl))) ⟨Ex.refl _, rfl⟩)) ?_
    refine req_cons (.val (.slice ab B.length cb)) (by kernel_rfl) (fun vs w1 he hd => StepG.on (g := 3) (d := 18) (x := false) (v := vs 3) (by kernel_rfl) (by kernel_rfl) (by kernel_rfl) (hd 3 (.val (.bool false)) (by kernel_rfl) (by kernel_rfl)) (gives_move (x := (.tmp 1)) (v := (.slice ab B.length cb)) (by kernel_rfl) (by kernel_rfl) ⟨Ex.refl _, rfl⟩)) ?_
    refine req_cons (.bsl (sumL B)) (by kernel_rfl) (fun vs w1 he hd => StepG.on (g := 3) (d := 18) (x := false) (v := vs 3) (by kernel_rfl) (by kernel_rfl) (by kernel_rfl) (hd 3 (.val (.bool false)) (by kernel_rfl) (by kernel_rfl)) (gives_call (f := 9) (xs := #[(.tmp 19)]) (ts := #[22]) (vs := #[(vs 4)]) (by kernel_rfl) (by kernel_rfl) (by kernel_rfl) Tryd.func9 (by kernel_rfl) (by kernel_rfl) (told_bytes (Sum_c _ B (by omega) _ (HR.out.fresh he) (by rw [show vs 4 = (.slice ab B.length cb) from (hd 4 (.val (.slice ab B.length cb)) (by kernel_rfl) (by kernel_rfl))]; exact (HB.out.fresh he)))))) ?_
    refine req_cons (.val (.int .i64 32)) (by kernel_rfl) (fun vs w1 he hd => StepG.on (g := 3) (d := 18) (x := false) (v := vs 3) (by kernel_rfl) (by kernel_rfl) (by kernel_rfl) (hd 3 (.val (.bool false)) (by kernel_rfl) (by kernel_rfl)) (gives_lenB (x := (.tmp 20)) (v := (vs 5)) (xs := (sumL B)) (n := 32) (by kernel_rfl) (by kernel_rfl) (hd 5 (.bsl (sumL B)) (by kernel_rfl) (by kernel_rfl)) (sumL_length _) ⟨Ex.refl _, rfl⟩)) ?_
    refine req_cons (.val (.bool false)) (by kernel_rfl) (fun vs w1 he hd => StepG.on (g := 3) (d := 18) (x := false) (v := vs 3) (by kernel_rfl) (by kernel_rfl) (by kernel_rfl) (hd 3 (.val (.bool false)) (by kernel_rfl) (by kernel_rfl)) (gives_neI (t := 3) (k := .i64) (a := 32) (b := 32) (x := (.tmp 21)) (y := (.const (.int .i64 32))) (r := false) (by kernel_rfl) (Eq.trans (b := vs 6) (by kernel_rfl) (hd 6 (.val (.int .i64 32)) (by kernel_rfl) (by kernel_rfl))) (by kernel_rfl) (by simp) ⟨Ex.refl _, rfl⟩)) ?_
    refine req_cons (.val (.bool false)) (by kernel_rfl) (fun vs w1 he hd => StepG.plain (by kernel_rfl) (gives_pick_f (x := (.tmp 18)) (y := (.const (.bool true))) (z := (.tmp 22)) (v := (.bool false)) (by kernel_rfl) (Eq.trans (b := vs 3) (by kernel_rfl) (hd 3 (.val (.bool false)) (by kernel_rfl) (by kernel_rfl))) (Eq.trans (b := vs 7) (by kernel_rfl) (hd 7 (.val (.bool false)) (by kernel_rfl) (by kernel_rfl))) ⟨Ex.refl _, rfl⟩)) ?_
    refine req_cons (.val (.bool false)) (by kernel_rfl) (fun vs w1 he hd => StepG.plain (by kernel_rfl) (gives_move (x := (.tmp 23)) (v := (.bool false)) (by kernel_rfl) (Eq.trans (b := vs 8) (by kernel_rfl) (hd 8 (.val (.bool false)) (by kernel_rfl) (by kernel_rfl))) ⟨Ex.refl _, rfl⟩)) ?_
    refine req_cons (.val (.slice ak K.length ck)) (by kernel_rfl) (fun vs w1 he hd => StepG.on (g := 9) (d := 24) (x := false) (v := vs 9) (by kernel_rfl) (by kernel_rfl) (by kernel_rfl) (hd 9 (.val (.bool false)) (by kernel_rfl) (by kernel_rfl)) (gives_move (x := (.tmp 0)) (v := (.slice ak K.length ck)) (by kernel_rfl) (by kernel_rfl) ⟨Ex.refl _, rfl⟩)) ?_
    refine req_cons (.bsl (sumL K)) (by kernel_rfl) (fun vs w1 he hd => StepG.on (g := 9) (d := 24) (x := false) (v := vs 9) (by kernel_rfl) (by kernel_rfl) (by kernel_rfl) (hd 9 (.val (.bool false)) (by kernel_rfl) (by kernel_rfl)) (gives_call (f := 13) (xs := #[(.tmp 25)]) (ts := #[22]) (vs := #[(vs 10)]) (by kernel_rfl) (by kernel_rfl) (by kernel_rfl) Tryd.func13 (by kernel_rfl) (by kernel_rfl) (told_bytes (Print_c _ K (by omega) _ (HR.out.fresh he) (by rw [show vs 10 = (.slice ak K.length ck) from (hd 10 (.val (.slice ak K.length ck)) (by kernel_rfl) (by kernel_rfl))]; exact (HK.out.fresh he)))))) ?_
    refine req_cons (.val (.string ⟨(List.toArray (sumL K))⟩)) (by kernel_rfl) (fun vs w1 he hd => StepG.on (g := 9) (d := 24) (x := false) (v := vs 9) (by kernel_rfl) (by kernel_rfl) (by kernel_rfl) (hd 9 (.val (.bool false)) (by kernel_rfl) (by kernel_rfl)) (gives_str (x := (.tmp 26)) (v := (vs 11)) (xs := (sumL K)) (by kernel_rfl) (by kernel_rfl) ((hd 11 (.bsl (sumL K)) (by kernel_rfl) (by kernel_rfl))) ⟨Ex.refl _, rfl⟩)) ?_
    refine req_cons (.val (.slice ak K.length ck)) (by kernel_rfl) (fun vs w1 he hd => StepG.on (g := 9) (d := 24) (x := false) (v := vs 9) (by kernel_rfl) (by kernel_rfl) (by kernel_rfl) (hd 9 (.val (.bool false)) (by kernel_rfl) (by kernel_rfl)) (gives_move (x := (.tmp 0)) (v := (.slice ak K.length ck)) (by kernel_rfl) (by kernel_rfl) ⟨Ex.refl _, rfl⟩)) ?_
    refine req_cons (.bsl (sumL K)) (by kernel_rfl) (fun vs w1 he hd => StepG.on (g := 9) (d := 24) (x := false) (v := vs 9) (by kernel_rfl) (by kernel_rfl) (by kernel_rfl) (hd 9 (.val (.bool false)) (by kernel_rfl) (by kernel_rfl)) (gives_call (f := 9) (xs := #[(.tmp 28)]) (ts := #[22]) (vs := #[(vs 13)]) (by kernel_rfl) (by kernel_rfl) (by kernel_rfl) Tryd.func9 (by kernel_rfl) (by kernel_rfl) (told_bytes (Sum_c _ K (by omega) _ (HR.out.fresh he) (by rw [show vs 13 = (.slice ak K.length ck) from (hd 13 (.val (.slice ak K.length ck)) (by kernel_rfl) (by kernel_rfl))]; exact (HK.out.fresh he)))))) ?_
    refine req_cons (.val (.string ⟨(List.toArray (sumL K))⟩)) (by kernel_rfl) (fun vs w1 he hd => StepG.on (g := 9) (d := 24) (x := false) (v := vs 9) (by kernel_rfl) (by kernel_rfl) (by kernel_rfl) (hd 9 (.val (.bool false)) (by kernel_rfl) (by kernel_rfl)) (gives_str (x := (.tmp 29)) (v := (vs 14)) (xs := (sumL K)) (by kernel_rfl) (by kernel_rfl) ((hd 14 (.bsl (sumL K)) (by kernel_rfl) (by kernel_rfl))) ⟨Ex.refl _, rfl⟩)) ?_
    refine req_cons (.val (.bool false)) (by kernel_rfl) (fun vs w1 he hd => StepG.on (g := 9) (d := 24) (x := false) (v := vs 9) (by kernel_rfl) (by kernel_rfl) (by kernel_rfl) (hd 9 (.val (.bool false)) (by kernel_rfl) (by kernel_rfl)) (gives_neS (x := (.tmp 27)) (y := (.tmp 30)) (xs := (sumL K)) (ys := (sumL K)) (r := false) (by kernel_rfl) (Eq.trans (b := vs 12) (by kernel_rfl) (hd 12 (.val (.string ⟨(List.toArray (sumL K))⟩)) (by kernel_rfl) (by kernel_rfl))) (Eq.trans (b := vs 15) (by kernel_rfl) (hd 15 (.val (.string ⟨(List.toArray (sumL K))⟩)) (by kernel_rfl) (by kernel_rfl))) (by simp) ⟨Ex.refl _, rfl⟩)) ?_
    refine req_cons (.val (.bool false)) (by kernel_rfl) (fun vs w1 he hd => StepG.plain (by kernel_rfl) (gives_pick_f (x := (.tmp 24)) (y := (.const (.bool true))) (z := (.tmp 31)) (v := (.bool false)) (by kernel_rfl) (Eq.trans (b := vs 9) (by kernel_rfl) (hd 9 (.val (.bool false)) (by kernel_rfl) (by kernel_rfl))) (Eq.trans (b := vs 16) (by kernel_rfl) (hd 16 (.val (.bool false)) (by kernel_rfl) (by kernel_rfl))) ⟨Ex.refl _, rfl⟩)) ?_
    exact req_nil
  intro vs w2 hx hF
  have e0 : vs 0 = (.slice am 32 cm) := told_at hF 0 (.val (.slice am 32 cm)) (by decide) (by kernel_rfl)
  have e1 : vs 1 = (.int .i64 32) := told_at hF 1 (.val (.int .i64 32)) (by decide) (by kernel_rfl)
  have e2 : vs 2 = (.bool false) := told_at hF 2 (.val (.bool false)) (by decide) (by kernel_rfl)
  have e3 : vs 3 = (.bool false) := told_at hF 3 (.val (.bool false)) (by decide) (by kernel_rfl)
  have e4 : vs 4 = (.slice ab B.length cb) := told_at hF 4 (.val (.slice ab B.length cb)) (by decide) (by kernel_rfl)
  have e6 : vs 6 = (.int .i64 32) := told_at hF 6 (.val (.int .i64 32)) (by decide) (by kernel_rfl)
  have e7 : vs 7 = (.bool false) := told_at hF 7 (.val (.bool false)) (by decide) (by kernel_rfl)
  have e8 : vs 8 = (.bool false) := told_at hF 8 (.val (.bool false)) (by decide) (by kernel_rfl)
  have e9 : vs 9 = (.bool false) := told_at hF 9 (.val (.bool false)) (by decide) (by kernel_rfl)
  have e10 : vs 10 = (.slice ak K.length ck) := told_at hF 10 (.val (.slice ak K.length ck)) (by decide) (by kernel_rfl)
  have e12 : vs 12 = (.string ⟨(List.toArray (sumL K))⟩) := told_at hF 12 (.val (.string ⟨(List.toArray (sumL K))⟩)) (by decide) (by kernel_rfl)
  have e13 : vs 13 = (.slice ak K.length ck) := told_at hF 13 (.val (.slice ak K.length ck)) (by decide) (by kernel_rfl)
  have e15 : vs 15 = (.string ⟨(List.toArray (sumL K))⟩) := told_at hF 15 (.val (.string ⟨(List.toArray (sumL K))⟩)) (by decide) (by kernel_rfl)
  have e16 : vs 16 = (.bool false) := told_at hF 16 (.val (.bool false)) (by decide) (by kernel_rfl)
  have e17 : vs 17 = (.bool false) := told_at hF 17 (.val (.bool false)) (by decide) (by kernel_rfl)
  simp only [List.length_cons, List.length_nil, actsTo, if_true, dstOf, List.getElem?_toArray, List.getElem?_cons_succ, List.getElem?_cons_zero, Option.bind_some, Act.put, List.setIfInBounds_toArray, List.set_cons_zero, List.set_cons_succ]
  simp only [e0, e1, e2, e3, e4, e6, e7, e8, e9, e10, e12, e13, e15, e16, e17]
  generalize vs 5 = y5
  generalize vs 11 = y11
  generalize vs 14 = y14
  clear hF e0 e1 e2 e3 e4 e6 e7 e8 e9 e10 e12 e13 e15 e16 e17 vs
  have HK2 := hidden (HK.out.fresh hx)
  have HB2 := hidden (HB.out.fresh hx)
  have HR2 := hidden (HR.out.fresh hx)
  have HM2 := hidden (HM.out.fresh hx)
  have HX2 := hidden (HX.out.trans (hx.mono HX.out.size))
  clear HK HB HR HM HX hx
  by_cases h64 : 64 < K.length
  · have h64' : (64 : Int) < (K.length : Int) := by omega
    have HEq := hidden (mac_long K B h64)
    go_wp2_with fail
    have HK := HK2
    have HB := HB2
    have HR := HR2
    have HM := HM2
    refine region_free [(.val (.slice am 32 cm)), (.val (.string ⟨(List.toArray (macL K B))⟩)), (.val (.slice ak K.length ck)), (.bsl (sumL K)), (.val (.slice ab B.length cb)), (.bsl (macL (sumL K) B)), (.val (.string ⟨(List.toArray (macL (sumL K) B))⟩)), (.val (.bool true)), (.val (.bool true)), (.val (.bool true)), (.val (.bool true)), (.val (.bool true))] (by kernel_rfl) ?_ ?_
    · refine req_cons (.val (.slice am 32 cm)) (by kernel_rfl) (fun vs w1 he hd => StepG.plain (by kernel_rfl) (gives_move (x := (.tmp 7)) (v := (.slice am 32 cm)) (by kernel_rfl) (by kernel_rfl) ⟨Ex.refl _, rfl⟩)) ?_
      refine req_cons (.val (.string ⟨(List.toArray (macL K B))⟩)) (by kernel_rfl) (fun vs w1 he hd => StepG.plain (by kernel_rfl) (gives_str (x := (.tmp 36)) (v := (.slice am 32 cm)) (xs := (macL K B)) (by kernel_rfl) (Eq.trans (b := vs 0) (by kernel_rfl) (hd 0 (.val (.slice am 32 cm)) (by kernel_rfl) (by kernel_rfl))) ((HM.out.fresh he)) ⟨Ex.refl _, rfl⟩)) ?_
      refine req_cons (.val (.slice ak K.length ck)) (by kernel_rfl) (fun vs w1 he hd => StepG.plain (by kernel_rfl) (gives_move (x := (.tmp 0)) (v := (.slice ak K.length ck)) (by kernel_rfl) (by kernel_rfl) ⟨Ex.refl _, rfl⟩)) ?_
      refine req_cons (.bsl (sumL K)) (by kernel_rfl) (fun vs w1 he hd => StepG.plain (by kernel_rfl) (gives_call (f := 9) (xs := #[(.tmp 38)]) (ts := #[22]) (vs := #[(vs 2)]) (by kernel_rfl) (by kernel_rfl) (by kernel_rfl) Tryd.func9 (by kernel_rfl) (by kernel_rfl) (told_bytes (Sum_c _ K (by omega) _ (HR.out.fresh he) (by rw [show vs 2 = (.slice ak K.length ck) from (hd 2 (.val (.slice ak K.length ck)) (by kernel_rfl) (by kernel_rfl))]; exact (HK.out.fresh he)))))) ?_
      refine req_cons (.val (.slice ab B.length cb)) (by kernel_rfl) (fun vs w1 he hd => StepG.plain (by kernel_rfl) (gives_move (x := (.tmp 1)) (v := (.slice ab B.length cb)) (by kernel_rfl) (by kernel_rfl) ⟨Ex.refl _, rfl⟩)) ?_
      refine req_cons (.bsl (macL (sumL K) B)) (by kernel_rfl) (fun vs w1 he hd => StepG.plain (by kernel_rfl) (gives_call (f := 11) (xs := #[(.tmp 39), (.tmp 40)]) (ts := #[22, 22]) (vs := #[(vs 3), (vs 4)]) (by kernel_rfl) (by kernel_rfl) (by kernel_rfl) Tryd.func11 (by kernel_rfl) (by kernel_rfl) (told_bytes (Mac_c _ _ (sumL K) B (by rw [sumL_length]; omega) (by omega) _ (HR.out.fresh he) (hd 3 (.bsl (sumL K)) (by kernel_rfl) (by kernel_rfl)) (by rw [show vs 4 = (.slice ab B.length cb) from (hd 4 (.val (.slice ab B.length cb)) (by kernel_rfl) (by kernel_rfl))]; exact (HB.out.fresh he)))))) ?_
      refine req_cons (.val (.string ⟨(List.toArray (macL (sumL K) B))⟩)) (by kernel_rfl) (fun vs w1 he hd => StepG.plain (by kernel_rfl) (gives_str (x := (.tmp 41)) (v := (vs 5)) (xs := (macL (sumL K) B)) (by kernel_rfl) (by kernel_rfl) ((hd 5 (.bsl (macL (sumL K) B)) (by kernel_rfl) (by kernel_rfl))) ⟨Ex.refl _, rfl⟩)) ?_
      refine req_cons (.val (.bool true)) (by kernel_rfl) (fun vs w1 he hd => StepG.plain (by kernel_rfl) (gives_eqS (x := (.tmp 37)) (y := (.tmp 42)) (xs := (macL K B)) (ys := (macL (sumL K) B)) (r := true) (by kernel_rfl) (Eq.trans (b := vs 1) (by kernel_rfl) (hd 1 (.val (.string ⟨(List.toArray (macL K B))⟩)) (by kernel_rfl) (by kernel_rfl))) (Eq.trans (b := vs 6) (by kernel_rfl) (hd 6 (.val (.string ⟨(List.toArray (macL (sumL K) B))⟩)) (by kernel_rfl) (by kernel_rfl))) (by rw [HEq.out]; simp) ⟨Ex.refl _, rfl⟩)) ?_
      refine req_cons (.val (.bool true)) (by kernel_rfl) (fun vs w1 he hd => StepG.plain (by kernel_rfl) (gives_move (x := (.tmp 43)) (v := (.bool true)) (by kernel_rfl) (Eq.trans (b := vs 7) (by kernel_rfl) (hd 7 (.val (.bool true)) (by kernel_rfl) (by kernel_rfl))) ⟨Ex.refl _, rfl⟩)) ?_
      refine req_cons (.val (.bool true)) (by kernel_rfl) (fun vs w1 he hd => StepG.on (g := 8) (d := 44) (x := true) (v := vs 8) (by kernel_rfl) (by kernel_rfl) (by kernel_rfl) (hd 8 (.val (.bool true)) (by kernel_rfl) (by kernel_rfl)) (gives_call (f := 15) (xs := #[]) (ts := #[]) (vs := #[]) (by kernel_rfl) (by kernel_rfl) (by kernel_rfl) Tryd.func15 (by kernel_rfl) (by kernel_rfl) (told_true (known_c _ (HR.out.fresh he))))) ?_
      refine req_cons (.val (.bool true)) (by kernel_rfl) (fun vs w1 he hd => StepG.plain (by kernel_rfl) (gives_pick_t (x := (.tmp 44)) (y := (.tmp 45)) (z := (.const (.bool false))) (v := (.bool true)) (by kernel_rfl) (Eq.trans (b := vs 8) (by kernel_rfl) (hd 8 (.val (.bool true)) (by kernel_rfl) (by kernel_rfl))) (Eq.trans (b := vs 9) (by kernel_rfl) (hd 9 (.val (.bool true)) (by kernel_rfl) (by kernel_rfl))) ⟨Ex.refl _, rfl⟩)) ?_
      refine req_cons (.val (.bool true)) (by kernel_rfl) (fun vs w1 he hd => StepG.plain (by kernel_rfl) (gives_assign (x := (.tmp 46)) (v := (.bool true)) (by kernel_rfl) (Eq.trans (b := vs 10) (by kernel_rfl) (hd 10 (.val (.bool true)) (by kernel_rfl) (by kernel_rfl))) ⟨Ex.refl _, rfl⟩)) ?_
      exact req_nil
    intro vs w3 hx hF
    have e0 : vs 0 = (.slice am 32 cm) := told_at hF 0 (.val (.slice am 32 cm)) (by decide) (by kernel_rfl)
    have e1 : vs 1 = (.string ⟨(List.toArray (macL K B))⟩) := told_at hF 1 (.val (.string ⟨(List.toArray (macL K B))⟩)) (by decide) (by kernel_rfl)
    have e2 : vs 2 = (.slice ak K.length ck) := told_at hF 2 (.val (.slice ak K.length ck)) (by decide) (by kernel_rfl)
    have e4 : vs 4 = (.slice ab B.length cb) := told_at hF 4 (.val (.slice ab B.length cb)) (by decide) (by kernel_rfl)
    have e6 : vs 6 = (.string ⟨(List.toArray (macL (sumL K) B))⟩) := told_at hF 6 (.val (.string ⟨(List.toArray (macL (sumL K) B))⟩)) (by decide) (by kernel_rfl)
    have e7 : vs 7 = (.bool true) := told_at hF 7 (.val (.bool true)) (by decide) (by kernel_rfl)
    have e8 : vs 8 = (.bool true) := told_at hF 8 (.val (.bool true)) (by decide) (by kernel_rfl)
    have e9 : vs 9 = (.bool true) := told_at hF 9 (.val (.bool true)) (by decide) (by kernel_rfl)
    have e10 : vs 10 = (.bool true) := told_at hF 10 (.val (.bool true)) (by decide) (by kernel_rfl)
    have e11 : vs 11 = (.bool true) := told_at hF 11 (.val (.bool true)) (by decide) (by kernel_rfl)
    simp only [List.length_cons, List.length_nil, actsTo, if_true, dstOf, List.getElem?_toArray, List.getElem?_cons_succ, List.getElem?_cons_zero, Option.bind_some, Act.put, List.setIfInBounds_toArray, List.set_cons_zero, List.set_cons_succ]
    simp only [e0, e1, e2, e4, e6, e7, e8, e9, e10, e11]
    generalize vs 3 = y3
    generalize vs 5 = y5
    clear hF e0 e1 e2 e4 e6 e7 e8 e9 e10 e11 vs
    go_wp2
    go_ret
    exact ⟨rfl, HX2.out.trans (hx.mono HX2.out.size)⟩
  · have h64' : ¬ (64 : Int) < (K.length : Int) := by omega
    have HEq := hidden (mac_noughts K B (wn n (64 - K.length)) (by have := wn_le n (64 - K.length); omega))
    have hkz := wn_le n (64 - K.length)
    have HW : Hid (∀ w', Calls Tryd.prog 23 #[.int .i64 n, .int .i64 0, .int .i64 ((64 - K.length : Nat) : Int)] w' fun e w'' => e = .returned (.int .i64 (wn n (64 - K.length) : Nat)) ∧ Below w'.heap.size w' w'') :=
      fun w' => (within_x n (64 - K.length) (by omega) w').mono fun e w'' ⟨h1, h2⟩ => ⟨h1, by rw [h2]; exact Below.refl _ _⟩
    generalize wn n (64 - K.length) = kz at HEq HW hkz
    go_wp2_with fail
    have HK := HK2
    have HB := HB2
    have HR := HR2
    have HM := HM2
    refine region_rows [(.val (.slice am 32 cm)), (.val (.string ⟨(List.toArray (macL K B))⟩)), (.own w2.heap.size []), (.val (.slice ak K.length ck)), (.own w2.heap.size K), (.val (.int .i64 n)), (.val (.slice ak K.length ck)), (.val (.int .i64 (K.length : Nat))), (.val (.int .i64 ((64 - K.length : Nat) : Int))), (.val (.int .i64 (kz : Nat))), (.own w2.heap.size (K ++ List.replicate kz 0)), (.val (.slice ab B.length cb)), (.bsl (macL (K ++ List.replicate kz 0) B)), (.val (.string ⟨(List.toArray (macL (K ++ List.replicate kz 0) B))⟩)), (.val (.bool true)), (.val (.bool true)), (.val (.bool true)), (.val (.bool true)), (.val (.bool true))] [100, 101, 1, 103, 1, 105, 106, 107, 108, 109, 1, 111, 112, 113, 114, 115, 116, 117, 118] [none, none, some 4, none, some 10, none, none, none, none, none, none, none, none, none, none, none, none, none, none] (by kernel_rfl) ?_ ?_
    · refine rows_cons (.val (.slice am 32 cm)) (by kernel_rfl) (fun vs w1 he hd => StepG.plain (by kernel_rfl) (gives_move (x := (.tmp 7)) (v := (.slice am 32 cm)) (by kernel_rfl) (by kernel_rfl) same_val)) ?_
      refine rows_cons (.val (.string ⟨(List.toArray (macL K B))⟩)) (by kernel_rfl) (fun vs w1 he hd => StepG.plain (by kernel_rfl) (gives_str (x := (.tmp 47)) (v := (.slice am 32 cm)) (xs := (macL K B)) (by kernel_rfl) (Eq.trans (b := vs 0) (by kernel_rfl) (hd 0 (.val (.slice am 32 cm)) (by kernel_rfl) (by kernel_rfl) (by kernel_rfl))) ((HM.out.fresh he)) same_val)) ?_
      refine rows_cons (.own w2.heap.size []) (by kernel_rfl) (fun vs w1 he hd => StepG.plain (by kernel_rfl) (gives_build0 (by kernel_rfl) he)) ?_
      refine rows_cons (.val (.slice ak K.length ck)) (by kernel_rfl) (fun vs w1 he hd => StepG.plain (by kernel_rfl) (gives_move (x := (.tmp 0)) (v := (.slice ak K.length ck)) (by kernel_rfl) (by kernel_rfl) same_val)) ?_
      refine rows_app 2 [] K (by kernel_rfl) (by kernel_rfl) (by kernel_rfl) (by kernel_rfl) (by kernel_rfl) (by kernel_rfl) (fun vs w1 he hd => StepG.plain (by kernel_rfl) (gives_appO (tx := 22) (vy := vs 3) (x := .tmp 49) (y := .tmp 50) (vx := vs 2) (xs := []) (news := K) (by kernel_rfl) (by kernel_rfl) (by kernel_rfl) he (hd 2 (.own w2.heap.size []) (by kernel_rfl) (by kernel_rfl) (by kernel_rfl)) (by rw [show vs 3 = .slice ak K.length ck from hd 3 (.val (.slice ak K.length ck)) (by kernel_rfl) (by kernel_rfl) (by kernel_rfl)]; exact (HK.out.fresh he).src) (by simp; omega))) ?_
      refine rows_cons (.val (.int .i64 n)) (by kernel_rfl) (fun vs w1 he hd => StepG.plain (by kernel_rfl) (gives_move (x := (.tmp 2)) (v := (.int .i64 n)) (by kernel_rfl) (by kernel_rfl) same_val)) ?_
      refine rows_cons (.val (.slice ak K.length ck)) (by kernel_rfl) (fun vs w1 he hd => StepG.plain (by kernel_rfl) (gives_move (x := (.tmp 0)) (v := (.slice ak K.length ck)) (by kernel_rfl) (by kernel_rfl) same_val)) ?_
      refine rows_cons (.val (.int .i64 (K.length : Nat))) (by kernel_rfl) (fun vs w1 he hd => StepG.plain (by kernel_rfl) (gives_len (ty := 22) (x := (.tmp 53)) (n := K.length) (by kernel_rfl) (Eq.trans (b := vs 6) (by kernel_rfl) (hd 6 (.val (.slice ak K.length ck)) (by kernel_rfl) (by kernel_rfl) (by kernel_rfl))) ⟨_, Tryd.underlying22⟩ same_val)) ?_
      refine rows_cons (.val (.int .i64 ((64 - K.length : Nat) : Int))) (by kernel_rfl) (fun vs w1 he hd => StepG.plain (by kernel_rfl) (gives_subI (t := 3) (x := .const (.int .i64 64)) (y := .tmp 54) (a := 64) (b := (K.length : Nat)) (by kernel_rfl) (by kernel_rfl) (Eq.trans (b := vs 7) (by kernel_rfl) (hd 7 (.val (.int .i64 (K.length : Nat))) (by kernel_rfl) (by kernel_rfl) (by kernel_rfl))) (by rw [IntKind.wrap_i64]; omega) same_val)) ?_
      refine rows_cons (.val (.int .i64 (kz : Nat))) (by kernel_rfl) (fun vs w1 he hd => StepG.plain (by kernel_rfl) (gives_call (f := 23) (xs := #[(.tmp 52), (.const (.int .i64 0)), (.tmp 55)]) (ts := #[3, 3, 3]) (vs := #[(vs 5), (.int .i64 0), (vs 8)]) (by kernel_rfl) (by kernel_rfl) (by kernel_rfl) Tryd.func23 (by kernel_rfl) (by kernel_rfl) (by rw [show vs 5 = (.int .i64 n) from (hd 5 (.val (.int .i64 n)) (by kernel_rfl) (by kernel_rfl) (by kernel_rfl)), show vs 8 = (.int .i64 ((64 - K.length : Nat) : Int)) from (hd 8 (.val (.int .i64 ((64 - K.length : Nat) : Int))) (by kernel_rfl) (by kernel_rfl) (by kernel_rfl))]; exact toldR_val (HW.out _)))) ?_
      refine rows_app 4 K (K ++ List.replicate kz 0) (by kernel_rfl) (by kernel_rfl) (by kernel_rfl) (by kernel_rfl) (by kernel_rfl) (by kernel_rfl) (fun vs w1 he hd => StepG.plain (by kernel_rfl) (gives_zerosO (x := .tmp 51) (y := .tmp 56) (vx := vs 4) (xs := K) (m := kz) (by kernel_rfl) (by kernel_rfl) (Eq.trans (b := vs 9) (by kernel_rfl) (hd 9 (.val (.int .i64 (kz : Nat))) (by kernel_rfl) (by kernel_rfl) (by kernel_rfl))) he (hd 4 (.own w2.heap.size K) (by kernel_rfl) (by kernel_rfl) (by kernel_rfl)) (by omega))) ?_
      refine rows_cons (.val (.slice ab B.length cb)) (by kernel_rfl) (fun vs w1 he hd => StepG.plain (by kernel_rfl) (gives_move (x := (.tmp 1)) (v := (.slice ab B.length cb)) (by kernel_rfl) (by kernel_rfl) same_val)) ?_
      refine rows_cons (.bsl (macL (K ++ List.replicate kz 0) B)) (by kernel_rfl) (fun vs w1 he hd => StepG.plain (by kernel_rfl) (gives_call (f := 11) (xs := #[(.tmp 57), (.tmp 58)]) (ts := #[22, 22]) (vs := #[(vs 10), (vs 11)]) (by kernel_rfl) (by kernel_rfl) (by kernel_rfl) Tryd.func11 (by kernel_rfl) (by kernel_rfl) (toldR_bytes (Mac_c _ _ (K ++ List.replicate kz 0) B (by rw [List.length_append, List.length_replicate]; omega) (by omega) _ (HR.out.fresh he) (BSl.ofRow (hd 10 (.own w2.heap.size (K ++ List.replicate kz 0)) (by kernel_rfl) (by kernel_rfl) (by kernel_rfl)).2) (by rw [show vs 11 = (.slice ab B.length cb) from (hd 11 (.val (.slice ab B.length cb)) (by kernel_rfl) (by kernel_rfl) (by kernel_rfl))]; exact (HB.out.fresh he)))))) ?_
      refine rows_cons (.val (.string ⟨(List.toArray (macL (K ++ List.replicate kz 0) B))⟩)) (by kernel_rfl) (fun vs w1 he hd => StepG.plain (by kernel_rfl) (gives_str (x := (.tmp 59)) (v := (vs 12)) (xs := (macL (K ++ List.replicate kz 0) B)) (by kernel_rfl) (by kernel_rfl) ((hd 12 (.bsl (macL (K ++ List.replicate kz 0) B)) (by kernel_rfl) (by kernel_rfl) (by kernel_rfl))) same_val)) ?_
      refine rows_cons (.val (.bool true)) (by kernel_rfl) (fun vs w1 he hd => StepG.plain (by kernel_rfl) (gives_eqS (x := (.tmp 48)) (y := (.tmp 60)) (xs := (macL K B)) (ys := (macL (K ++ List.replicate kz 0) B)) (r := true) (by kernel_rfl) (Eq.trans (b := vs 1) (by kernel_rfl) (hd 1 (.val (.string ⟨(List.toArray (macL K B))⟩)) (by kernel_rfl) (by kernel_rfl) (by kernel_rfl))) (Eq.trans (b := vs 13) (by kernel_rfl) (hd 13 (.val (.string ⟨(List.toArray (macL (K ++ List.replicate kz 0) B))⟩)) (by kernel_rfl) (by kernel_rfl) (by kernel_rfl))) (by rw [HEq.out]; simp) same_val)) ?_
      refine rows_cons (.val (.bool true)) (by kernel_rfl) (fun vs w1 he hd => StepG.plain (by kernel_rfl) (gives_move (x := (.tmp 61)) (v := (.bool true)) (by kernel_rfl) (Eq.trans (b := vs 14) (by kernel_rfl) (hd 14 (.val (.bool true)) (by kernel_rfl) (by kernel_rfl) (by kernel_rfl))) same_val)) ?_
      refine rows_cons (.val (.bool true)) (by kernel_rfl) (fun vs w1 he hd => StepG.on (g := 15) (d := 62) (x := true) (v := vs 15) (by kernel_rfl) (by kernel_rfl) (by kernel_rfl) (hd 15 (.val (.bool true)) (by kernel_rfl) (by kernel_rfl) (by kernel_rfl)) (gives_call (f := 15) (xs := #[]) (ts := #[]) (vs := #[]) (by kernel_rfl) (by kernel_rfl) (by kernel_rfl) Tryd.func15 (by kernel_rfl) (by kernel_rfl) (toldR_val (known_c _ (HR.out.fresh he))))) ?_
      refine rows_cons (.val (.bool true)) (by kernel_rfl) (fun vs w1 he hd => StepG.plain (by kernel_rfl) (gives_pick_t (x := (.tmp 62)) (y := (.tmp 63)) (z := (.const (.bool false))) (v := (.bool true)) (by kernel_rfl) (Eq.trans (b := vs 15) (by kernel_rfl) (hd 15 (.val (.bool true)) (by kernel_rfl) (by kernel_rfl) (by kernel_rfl))) (Eq.trans (b := vs 16) (by kernel_rfl) (hd 16 (.val (.bool true)) (by kernel_rfl) (by kernel_rfl) (by kernel_rfl))) same_val)) ?_
      refine rows_cons (.val (.bool true)) (by kernel_rfl) (fun vs w1 he hd => StepG.plain (by kernel_rfl) (gives_assign (x := (.tmp 64)) (v := (.bool true)) (by kernel_rfl) (Eq.trans (b := vs 17) (by kernel_rfl) (hd 17 (.val (.bool true)) (by kernel_rfl) (by kernel_rfl) (by kernel_rfl))) same_val)) ?_
      exact rows_nil
    intro vs w3 hx hF
    have e0 : vs 0 = (.slice am 32 cm) := toldR_at hF 0 (.val (.slice am 32 cm)) (by decide) (by kernel_rfl) (by kernel_rfl)
    have e1 : vs 1 = (.string ⟨(List.toArray (macL K B))⟩) := toldR_at hF 1 (.val (.string ⟨(List.toArray (macL K B))⟩)) (by decide) (by kernel_rfl) (by kernel_rfl)
    have e3 : vs 3 = (.slice ak K.length ck) := toldR_at hF 3 (.val (.slice ak K.length ck)) (by decide) (by kernel_rfl) (by kernel_rfl)
    have e5 : vs 5 = (.int .i64 n) := toldR_at hF 5 (.val (.int .i64 n)) (by decide) (by kernel_rfl) (by kernel_rfl)
    have e6 : vs 6 = (.slice ak K.length ck) := toldR_at hF 6 (.val (.slice ak K.length ck)) (by decide) (by kernel_rfl) (by kernel_rfl)
    have e7 : vs 7 = (.int .i64 (K.length : Nat)) := toldR_at hF 7 (.val (.int .i64 (K.length : Nat))) (by decide) (by kernel_rfl) (by kernel_rfl)
    have e8 : vs 8 = (.int .i64 ((64 - K.length : Nat) : Int)) := toldR_at hF 8 (.val (.int .i64 ((64 - K.length : Nat) : Int))) (by decide) (by kernel_rfl) (by kernel_rfl)
    have e9 : vs 9 = (.int .i64 (kz : Nat)) := toldR_at hF 9 (.val (.int .i64 (kz : Nat))) (by decide) (by kernel_rfl) (by kernel_rfl)
    have e11 : vs 11 = (.slice ab B.length cb) := toldR_at hF 11 (.val (.slice ab B.length cb)) (by decide) (by kernel_rfl) (by kernel_rfl)
    have e13 : vs 13 = (.string ⟨(List.toArray (macL (K ++ List.replicate kz 0) B))⟩) := toldR_at hF 13 (.val (.string ⟨(List.toArray (macL (K ++ List.replicate kz 0) B))⟩)) (by decide) (by kernel_rfl) (by kernel_rfl)
    have e14 : vs 14 = (.bool true) := toldR_at hF 14 (.val (.bool true)) (by decide) (by kernel_rfl) (by kernel_rfl)
    have e15 : vs 15 = (.bool true) := toldR_at hF 15 (.val (.bool true)) (by decide) (by kernel_rfl) (by kernel_rfl)
    have e16 : vs 16 = (.bool true) := toldR_at hF 16 (.val (.bool true)) (by decide) (by kernel_rfl) (by kernel_rfl)
    have e17 : vs 17 = (.bool true) := toldR_at hF 17 (.val (.bool true)) (by decide) (by kernel_rfl) (by kernel_rfl)
    have e18 : vs 18 = (.bool true) := toldR_at hF 18 (.val (.bool true)) (by decide) (by kernel_rfl) (by kernel_rfl)
    simp only [List.length_cons, List.length_nil, actsTo, if_true, dstOf, List.getElem?_toArray, List.getElem?_cons_succ, List.getElem?_cons_zero, Option.bind_some, Act.put, List.setIfInBounds_toArray, List.set_cons_zero, List.set_cons_succ]
    simp only [e0, e1, e3, e5, e6, e7, e8, e9, e11, e13, e14, e15, e16, e17, e18]
    generalize vs 2 = y2
    generalize vs 4 = y4
    generalize vs 10 = y10
    generalize vs 12 = y12
    clear hF e0 e1 e3 e5 e6 e7 e8 e9 e11 e13 e14 e15 e16 e17 e18 vs
    go_wp2
    go_ret
    exact ⟨rfl, HX2.out.trans (hx.mono HX2.out.size)⟩
end Go.Proofs.YtllkafhooapcbaaDoor
