/- The walk of the law KdfNumbers. -/
import Derived.Test.YtllkafhooapcbaaDoorKeD
import Derived.Test.YtllkafhooapcbaaDoorKeM
import Derived.Test.YtllkafhooapcbaaDoorKdR
import Derived.Test.YtllkafhooapcbaaDoorKdS
namespace Go.Proofs.YtllkafhooapcbaaDoor
open Go Go.RowKit
theorem hcvg : ∀ (w : World) (C : Array Value) (n c g : Nat), g = w.heap.size → (convert 22 22 (.slice (some ⟨g, 0, none⟩) n c)).run Tryd.prog (w.alloc (.cells C 5)) = .ok (.slice (some ⟨g, 0, none⟩) n c) (w.alloc (.cells C 5 (C.size, C.size + 1))) :=
  fun w C n c g hg => by subst hg; exact hcv w C n c
theorem lits3 (w : World) (a c d : List UInt8) (ha : a.length ≤ 1000) (hc : c.length ≤ 1000) (hd : d.length ≤ 1000) (f1 f2 : Nat × Nat) :
    BSl (((w.alloc (.cells (bcells a).toArray 5)).alloc (.cells (bcells c).toArray 5 f1)).alloc (.cells (bcells d).toArray 5 f2)) (.slice (some ⟨w.heap.size, 0, none⟩) a.length a.length) a ∧
    BSl (((w.alloc (.cells (bcells a).toArray 5)).alloc (.cells (bcells c).toArray 5 f1)).alloc (.cells (bcells d).toArray 5 f2)) (.slice (some ⟨w.heap.size + 1, 0, none⟩) c.length c.length) c ∧
    BSl (((w.alloc (.cells (bcells a).toArray 5)).alloc (.cells (bcells c).toArray 5 f1)).alloc (.cells (bcells d).toArray 5 f2)) (.slice (some ⟨w.heap.size + 1 + 1, 0, none⟩) d.length d.length) d ∧
    Below w.heap.size w (((w.alloc (.cells (bcells a).toArray 5)).alloc (.cells (bcells c).toArray 5 f1)).alloc (.cells (bcells d).toArray 5 f2)) := by
  have b1 : ∀ (w : World) (o : Obj), Below w.heap.size w (w.alloc o) := fun w o => (Below.refl _ w).alloc (Nat.le_refl _) o
  have h1 := bsl_const w a ha (0, 0)
  have h2 := bsl_const (w.alloc (.cells (bcells a).toArray 5)) c hc f1
  have h3 := bsl_const ((w.alloc (.cells (bcells a).toArray 5)).alloc (.cells (bcells c).toArray 5 f1)) d hd f2
  rw [show (w.alloc (.cells (bcells a).toArray 5)).heap.size = w.heap.size + 1 by simp] at h2
  rw [show ((w.alloc (.cells (bcells a).toArray 5)).alloc (.cells (bcells c).toArray 5 f1)).heap.size = w.heap.size + 1 + 1 by simp] at h3
  refine ⟨(h1.fresh (b1 _ _)).fresh (b1 _ _), h2.fresh (b1 _ _), h3, ?_⟩
  exact ((Below.refl _ w).alloc (Nat.le_refl _) _).alloc (by simp) _ |>.alloc (by simp; omega) _
theorem derive_bad (w : World) (hr : Rw w) (n : Int) (hn : n < 0 ∨ 256 < n) :
    Calls Tryd.prog 14 #[.slice none 0 0, .slice none 0 0, .int .u8 65, .slice none 0 0, .int .i64 n] w fun e w' => e = .returned (.tuple #[.slice none 0 0, .int .i64 1]) ∧ Below w.heap.size w w' := by
  have hn0 := (Own.nothing w).bsl
  refine (Derive_c _ _ _ [] [] [] 65 n (by simp) (by simp) (by simp) w hr hn0 hn0 hn0).mono ?_
  rintro e w' ⟨hb, ⟨h0, h1, _⟩ | ⟨_, he⟩⟩
  · omega
  · exact ⟨he, hb⟩
theorem derive_none (w : World) (hr : Rw w) :
    Calls Tryd.prog 14 #[.slice none 0 0, .slice none 0 0, .int .u8 65, .slice none 0 0, .int .i64 0] w fun e w' => ∃ ao cap, e = .returned (.tuple #[.slice ao 0 cap, .int .i64 0]) ∧ Below w.heap.size w w' := by
  have hn0 := (Own.nothing w).bsl
  refine (Derive_c _ _ _ [] [] [] 65 0 (by simp) (by simp) (by simp) w hr hn0 hn0 hn0).mono ?_
  rintro e w' ⟨hb, ⟨_, _, v, he, hv⟩ | ⟨h, _⟩⟩
  · obtain ⟨ao, cap, rfl⟩ := hv.len
    rw [deriveL_length] at he
    exact ⟨ao, cap, he, hb⟩
  · omega
theorem derive_key (v1 v2 v3 : Value) (k h id : List UInt8) (hk : k.length ≤ 1000) (hh : h.length ≤ 1000) (hi : id.length ≤ 1000) (w : World) (hr : Rw w) (h1 : BSl w v1 k) (h2 : BSl w v2 h) (h3 : BSl w v3 id) :
    Calls Tryd.prog 14 #[v1, v2, .int .u8 65, v3, .int .i64 256] w fun e w' => ∃ ao cap, e = .returned (.tuple #[.slice ao 256 cap, .int .i64 0]) ∧ BSl w' (.slice ao 256 cap) (deriveL k h 65 id 256) ∧ Below w.heap.size w w' := by
  refine (Derive_c _ _ _ k h id 65 256 (by omega) (by omega) (by omega) w hr h1 h2 h3).mono ?_
  rintro e w' ⟨hb, ⟨_, _, v, he, hv⟩ | ⟨h, _⟩⟩
  · obtain ⟨ao, cap, rfl⟩ := hv.len
    rw [deriveL_length] at he hv
    exact ⟨ao, cap, he, hv, hb⟩
  · omega
set_option maxHeartbeats 3200000 in
set_option maxRecDepth 100000 in
theorem kdfNumbers_c (w : World) (hr : Rw w) :
    Calls Tryd.prog 3 #[] w fun e w' => e = .returned (.bool true) ∧ Below w.heap.size w w' := by
  have HR0 := hidden hr
  clear hr
  go_enter Tryd.func3, Tryd.ntmps3
  go_wp2_with fail
  go_loopw [1] (fun c wr => ∃ n : Nat, n ≤ 200 ∧ c = .int .i64 (n : Int) ∧ Below w.heap.size w wr) (fun c _ => 200 - (intOf c).toNat)
  case atStart => exact ⟨0, by omega, rfl, Below.refl _ _⟩
  case round =>
    obtain ⟨n, hn, rfl, hbw⟩ := hrel
    have HBw := hidden hbw
    clear hbw
    by_cases hlt : n < 200
    · have hlt' : (n : Int) < 200 := by omega
      go_wp2_with fail
      have hbl : (bcells [UInt8.ofNat n, 7]).toArray = #[.int .u8 (n : Int), .int .u8 7] := by
        have : (UInt8.ofNat n).toNat = n := by simp; omega
        simp [bcells, this]
      have hl1 := bsl_lit wr [UInt8.ofNat n, 7] (by simp)
      have hl2 : Below wr.heap.size wr (wr.alloc (.cells (bcells [UInt8.ofNat n, 7]).toArray 5)) := (Below.refl _ wr).alloc (by omega) _
      rw [hbl] at hl1 hl2
      refine (sized_c n (by omega) _ [UInt8.ofNat n, 7] _ hl1).mono ?_
      rintro e wb ⟨rfl, hg, hb⟩
      have hb2 : Below w.heap.size w wb := HBw.out.trans ((hl2.mono HBw.out.size).trans (hb.mono (Nat.le_trans HBw.out.size hl2.size)))
      have hbs : BSl wb (.slice (some ⟨(wr.alloc (.cells #[.int .u8 (n : Int), .int .u8 7] 5)).heap.size, 0, none⟩) n n) (sizedL [UInt8.ofNat n, 7] n) := by
        refine ⟨_, _, by rw [sizedL_length], by rw [sizedL_length]; exact Nat.le_refl _, by unfold maxLen; omega, (fun e => by cases e), fun ad e _ => ⟨_, 0, by cases e; rfl, fun j u hu => ?_⟩⟩
        rw [Nat.zero_add, cell_row hg]
        exact hu
      have HB := hidden hbs
      have HB2 := hidden hb2
      have HL := hidden (show (sizedL [UInt8.ofNat n, 7] n).length ≤ 200 by rw [sizedL_length]; omega)
      have HR := hidden (HR0.out.fresh hb2)
      clear hl1 hl2 hb hg hb2 hbs hbl
      generalize sizedL [UInt8.ofNat n, 7] n = Bl at *
      generalize (wr.alloc (.cells #[.int .u8 (n : Int), .int .u8 7] 5)).heap.size = b0 at *
      go_wp2_with fail
      refine region_mark [(.val (.slice (some ⟨b0, 0, none⟩) n n)), (.bsl (sumL Bl)), (.val (.string ⟨(List.toArray (sumL Bl))⟩)), (.val (.slice (some ⟨b0, 0, none⟩) n n)), (.bsl (sumL Bl)), (.val (.string ⟨(List.toArray (sumL Bl))⟩)), (.val (.bool false)), (.val (.bool false)), (.val (.slice (some ⟨b0, 0, none⟩) n n)), (.lit [120]), (.bsl [120]), (.bsl (macL Bl [120])), (.val (.string ⟨(List.toArray (macL Bl [120]))⟩)), (.val (.slice (some ⟨b0, 0, none⟩) n n)), (.lit [120]), (.bsl [120]), (.bsl (macL Bl [120])), (.val (.string ⟨(List.toArray (macL Bl [120]))⟩)), (.val (.bool false)), (.val (.bool false)), (.val (.bool false)), (.val (.slice (some ⟨b0, 0, none⟩) n n)), (.bsl (sumL Bl)), (.val (.string ⟨(List.toArray (sumL Bl))⟩)), (.val (.slice (some ⟨b0, 0, none⟩) n n)), (.bsl (sumL Bl)), (.val (.string ⟨(List.toArray (sumL Bl))⟩)), (.val (.bool false)), (.val (.bool false))] (by kernel_rfl) ?_ ?_
      · refine reqM_cons (.val (.slice (some ⟨b0, 0, none⟩) n n)) (by kernel_rfl) (fun vs w1 he hd => StepG.plain (by kernel_rfl) (gives_move (x := (.tmp 2)) (v := (.slice (some ⟨b0, 0, none⟩) n n)) (by kernel_rfl) (by kernel_rfl) ⟨Mk.refl he.up, rfl⟩)) ?_
        refine reqM_cons (.bsl (sumL Bl)) (by kernel_rfl) (fun vs w1 he hd => StepG.plain (by kernel_rfl) (gives_call (f := 9) (xs := #[(.tmp 22)]) (ts := #[22]) (vs := #[(vs 0)]) (by kernel_rfl) (by kernel_rfl) (by kernel_rfl) Tryd.func9 (by kernel_rfl) (by kernel_rfl) (toldM_bytes he.up (Sum_c _ Bl (by have := HL.out; omega) _ (HR.out.mk he) (by rw [show vs 0 = (.slice (some ⟨b0, 0, none⟩) n n) from (hd 0 (.val (.slice (some ⟨b0, 0, none⟩) n n)) (by kernel_rfl) (by kernel_rfl))]; exact (HB.out.mk he)))))) ?_
        refine reqM_cons (.val (.string ⟨(List.toArray (sumL Bl))⟩)) (by kernel_rfl) (fun vs w1 he hd => StepG.plain (by kernel_rfl) (gives_str (x := (.tmp 23)) (v := (vs 1)) (xs := (sumL Bl)) (by kernel_rfl) (by kernel_rfl) ((hd 1 (.bsl (sumL Bl)) (by kernel_rfl) (by kernel_rfl))) ⟨Mk.refl he.up, rfl⟩)) ?_
        refine reqM_cons (.val (.slice (some ⟨b0, 0, none⟩) n n)) (by kernel_rfl) (fun vs w1 he hd => StepG.plain (by kernel_rfl) (gives_move (x := (.tmp 2)) (v := (.slice (some ⟨b0, 0, none⟩) n n)) (by kernel_rfl) (by kernel_rfl) ⟨Mk.refl he.up, rfl⟩)) ?_
        refine reqM_cons (.bsl (sumL Bl)) (by kernel_rfl) (fun vs w1 he hd => StepG.plain (by kernel_rfl) (gives_call (f := 10) (xs := #[(.tmp 25)]) (ts := #[22]) (vs := #[(vs 3)]) (by kernel_rfl) (by kernel_rfl) (by kernel_rfl) Tryd.func10 (by kernel_rfl) (by kernel_rfl) (toldM_bytes he.up (rSum_c _ Bl (by have := HL.out; omega) _ (by rw [show vs 3 = (.slice (some ⟨b0, 0, none⟩) n n) from (hd 3 (.val (.slice (some ⟨b0, 0, none⟩) n n)) (by kernel_rfl) (by kernel_rfl))]; exact (HB.out.mk he)))))) ?_
        refine reqM_cons (.val (.string ⟨(List.toArray (sumL Bl))⟩)) (by kernel_rfl) (fun vs w1 he hd => StepG.plain (by kernel_rfl) (gives_str (x := (.tmp 26)) (v := (vs 4)) (xs := (sumL Bl)) (by kernel_rfl) (by kernel_rfl) ((hd 4 (.bsl (sumL Bl)) (by kernel_rfl) (by kernel_rfl))) ⟨Mk.refl he.up, rfl⟩)) ?_
        refine reqM_cons (.val (.bool false)) (by kernel_rfl) (fun vs w1 he hd => StepG.plain (by kernel_rfl) (gives_neS (x := (.tmp 24)) (y := (.tmp 27)) (xs := (sumL Bl)) (ys := (sumL Bl)) (r := false) (by kernel_rfl) (Eq.trans (b := vs 2) (by kernel_rfl) (hd 2 (.val (.string ⟨(List.toArray (sumL Bl))⟩)) (by kernel_rfl) (by kernel_rfl))) (Eq.trans (b := vs 5) (by kernel_rfl) (hd 5 (.val (.string ⟨(List.toArray (sumL Bl))⟩)) (by kernel_rfl) (by kernel_rfl))) (by simp) ⟨Mk.refl he.up, rfl⟩)) ?_
        refine reqM_cons (.val (.bool false)) (by kernel_rfl) (fun vs w1 he hd => StepG.plain (by kernel_rfl) (gives_move (x := (.tmp 28)) (v := (.bool false)) (by kernel_rfl) (Eq.trans (b := vs 6) (by kernel_rfl) (hd 6 (.val (.bool false)) (by kernel_rfl) (by kernel_rfl))) ⟨Mk.refl he.up, rfl⟩)) ?_
        refine reqM_cons (.val (.slice (some ⟨b0, 0, none⟩) n n)) (by kernel_rfl) (fun vs w1 he hd => StepG.on (g := 7) (d := 29) (x := false) (v := vs 7) (by kernel_rfl) (by kernel_rfl) (by kernel_rfl) (hd 7 (.val (.bool false)) (by kernel_rfl) (by kernel_rfl)) (gives_move (x := (.tmp 2)) (v := (.slice (some ⟨b0, 0, none⟩) n n)) (by kernel_rfl) (by kernel_rfl) ⟨Mk.refl he.up, rfl⟩)) ?_
        refine reqM_cons (.lit [120]) (by kernel_rfl) (fun vs w1 he hd => StepG.on (g := 7) (d := 29) (x := false) (v := vs 7) (by kernel_rfl) (by kernel_rfl) (by kernel_rfl) (hd 7 (.val (.bool false)) (by kernel_rfl) (by kernel_rfl)) (gives_lit1 120 120 he.up rfl (by kernel_rfl) (by kernel_rfl))) ?_
        refine reqM_cons (.bsl [120]) (by kernel_rfl) (fun vs w1 he hd => StepG.on (g := 7) (d := 29) (x := false) (v := vs 7) (by kernel_rfl) (by kernel_rfl) (by kernel_rfl) (hd 7 (.val (.bool false)) (by kernel_rfl) (by kernel_rfl)) (gives_mark (x := .tmp 31) (v := vs 9) (xs := [120]) (by decide) he.up (by kernel_rfl) (by kernel_rfl) (hd 9 (.lit [120]) (by kernel_rfl) (by kernel_rfl)))) ?_
        refine reqM_cons (.bsl (macL Bl [120])) (by kernel_rfl) (fun vs w1 he hd => StepG.on (g := 7) (d := 29) (x := false) (v := vs 7) (by kernel_rfl) (by kernel_rfl) (by kernel_rfl) (hd 7 (.val (.bool false)) (by kernel_rfl) (by kernel_rfl)) (gives_call (f := 11) (xs := #[(.tmp 30), (.tmp 32)]) (ts := #[22, 22]) (vs := #[(vs 8), (vs 10)]) (by kernel_rfl) (by kernel_rfl) (by kernel_rfl) Tryd.func11 (by kernel_rfl) (by kernel_rfl) (toldM_bytes he.up (Mac_c _ _ Bl [120] (by have := HL.out; omega) (by decide) _ (HR.out.mk he) (by rw [show vs 8 = (.slice (some ⟨b0, 0, none⟩) n n) from (hd 8 (.val (.slice (some ⟨b0, 0, none⟩) n n)) (by kernel_rfl) (by kernel_rfl))]; exact (HB.out.mk he)) (hd 10 (.bsl [120]) (by kernel_rfl) (by kernel_rfl)))))) ?_
        refine reqM_cons (.val (.string ⟨(List.toArray (macL Bl [120]))⟩)) (by kernel_rfl) (fun vs w1 he hd => StepG.on (g := 7) (d := 29) (x := false) (v := vs 7) (by kernel_rfl) (by kernel_rfl) (by kernel_rfl) (hd 7 (.val (.bool false)) (by kernel_rfl) (by kernel_rfl)) (gives_str (x := (.tmp 33)) (v := (vs 11)) (xs := (macL Bl [120])) (by kernel_rfl) (by kernel_rfl) ((hd 11 (.bsl (macL Bl [120])) (by kernel_rfl) (by kernel_rfl))) ⟨Mk.refl he.up, rfl⟩)) ?_
        refine reqM_cons (.val (.slice (some ⟨b0, 0, none⟩) n n)) (by kernel_rfl) (fun vs w1 he hd => StepG.on (g := 7) (d := 29) (x := false) (v := vs 7) (by kernel_rfl) (by kernel_rfl) (by kernel_rfl) (hd 7 (.val (.bool false)) (by kernel_rfl) (by kernel_rfl)) (gives_move (x := (.tmp 2)) (v := (.slice (some ⟨b0, 0, none⟩) n n)) (by kernel_rfl) (by kernel_rfl) ⟨Mk.refl he.up, rfl⟩)) ?_
        refine reqM_cons (.lit [120]) (by kernel_rfl) (fun vs w1 he hd => StepG.on (g := 7) (d := 29) (x := false) (v := vs 7) (by kernel_rfl) (by kernel_rfl) (by kernel_rfl) (hd 7 (.val (.bool false)) (by kernel_rfl) (by kernel_rfl)) (gives_lit1 120 120 he.up rfl (by kernel_rfl) (by kernel_rfl))) ?_
        refine reqM_cons (.bsl [120]) (by kernel_rfl) (fun vs w1 he hd => StepG.on (g := 7) (d := 29) (x := false) (v := vs 7) (by kernel_rfl) (by kernel_rfl) (by kernel_rfl) (hd 7 (.val (.bool false)) (by kernel_rfl) (by kernel_rfl)) (gives_mark (x := .tmp 36) (v := vs 14) (xs := [120]) (by decide) he.up (by kernel_rfl) (by kernel_rfl) (hd 14 (.lit [120]) (by kernel_rfl) (by kernel_rfl)))) ?_
        refine reqM_cons (.bsl (macL Bl [120])) (by kernel_rfl) (fun vs w1 he hd => StepG.on (g := 7) (d := 29) (x := false) (v := vs 7) (by kernel_rfl) (by kernel_rfl) (by kernel_rfl) (hd 7 (.val (.bool false)) (by kernel_rfl) (by kernel_rfl)) (gives_call (f := 12) (xs := #[(.tmp 35), (.tmp 37)]) (ts := #[22, 22]) (vs := #[(vs 13), (vs 15)]) (by kernel_rfl) (by kernel_rfl) (by kernel_rfl) Tryd.func12 (by kernel_rfl) (by kernel_rfl) (toldM_bytes he.up (rMac_c _ _ Bl [120] (by have := HL.out; omega) (by decide) _ (by rw [show vs 13 = (.slice (some ⟨b0, 0, none⟩) n n) from (hd 13 (.val (.slice (some ⟨b0, 0, none⟩) n n)) (by kernel_rfl) (by kernel_rfl))]; exact (HB.out.mk he)) (hd 15 (.bsl [120]) (by kernel_rfl) (by kernel_rfl)))))) ?_
        refine reqM_cons (.val (.string ⟨(List.toArray (macL Bl [120]))⟩)) (by kernel_rfl) (fun vs w1 he hd => StepG.on (g := 7) (d := 29) (x := false) (v := vs 7) (by kernel_rfl) (by kernel_rfl) (by kernel_rfl) (hd 7 (.val (.bool false)) (by kernel_rfl) (by kernel_rfl)) (gives_str (x := (.tmp 38)) (v := (vs 16)) (xs := (macL Bl [120])) (by kernel_rfl) (by kernel_rfl) ((hd 16 (.bsl (macL Bl [120])) (by kernel_rfl) (by kernel_rfl))) ⟨Mk.refl he.up, rfl⟩)) ?_
        refine reqM_cons (.val (.bool false)) (by kernel_rfl) (fun vs w1 he hd => StepG.on (g := 7) (d := 29) (x := false) (v := vs 7) (by kernel_rfl) (by kernel_rfl) (by kernel_rfl) (hd 7 (.val (.bool false)) (by kernel_rfl) (by kernel_rfl)) (gives_neS (x := (.tmp 34)) (y := (.tmp 39)) (xs := (macL Bl [120])) (ys := (macL Bl [120])) (r := false) (by kernel_rfl) (Eq.trans (b := vs 12) (by kernel_rfl) (hd 12 (.val (.string ⟨(List.toArray (macL Bl [120]))⟩)) (by kernel_rfl) (by kernel_rfl))) (Eq.trans (b := vs 17) (by kernel_rfl) (hd 17 (.val (.string ⟨(List.toArray (macL Bl [120]))⟩)) (by kernel_rfl) (by kernel_rfl))) (by simp) ⟨Mk.refl he.up, rfl⟩)) ?_
        refine reqM_cons (.val (.bool false)) (by kernel_rfl) (fun vs w1 he hd => StepG.plain (by kernel_rfl) (gives_pick_f (x := (.tmp 29)) (y := (.const (.bool true))) (z := (.tmp 40)) (v := (.bool false)) (by kernel_rfl) (Eq.trans (b := vs 7) (by kernel_rfl) (hd 7 (.val (.bool false)) (by kernel_rfl) (by kernel_rfl))) (Eq.trans (b := vs 18) (by kernel_rfl) (hd 18 (.val (.bool false)) (by kernel_rfl) (by kernel_rfl))) ⟨Mk.refl he.up, rfl⟩)) ?_
        refine reqM_cons (.val (.bool false)) (by kernel_rfl) (fun vs w1 he hd => StepG.plain (by kernel_rfl) (gives_move (x := (.tmp 41)) (v := (.bool false)) (by kernel_rfl) (Eq.trans (b := vs 19) (by kernel_rfl) (hd 19 (.val (.bool false)) (by kernel_rfl) (by kernel_rfl))) ⟨Mk.refl he.up, rfl⟩)) ?_
        refine reqM_cons (.val (.slice (some ⟨b0, 0, none⟩) n n)) (by kernel_rfl) (fun vs w1 he hd => StepG.on (g := 20) (d := 42) (x := false) (v := vs 20) (by kernel_rfl) (by kernel_rfl) (by kernel_rfl) (hd 20 (.val (.bool false)) (by kernel_rfl) (by kernel_rfl)) (gives_move (x := (.tmp 2)) (v := (.slice (some ⟨b0, 0, none⟩) n n)) (by kernel_rfl) (by kernel_rfl) ⟨Mk.refl he.up, rfl⟩)) ?_
        refine reqM_cons (.bsl (sumL Bl)) (by kernel_rfl) (fun vs w1 he hd => StepG.on (g := 20) (d := 42) (x := false) (v := vs 20) (by kernel_rfl) (by kernel_rfl) (by kernel_rfl) (hd 20 (.val (.bool false)) (by kernel_rfl) (by kernel_rfl)) (gives_call (f := 13) (xs := #[(.tmp 43)]) (ts := #[22]) (vs := #[(vs 21)]) (by kernel_rfl) (by kernel_rfl) (by kernel_rfl) Tryd.func13 (by kernel_rfl) (by kernel_rfl) (toldM_bytes he.up (Print_c _ Bl (by have := HL.out; omega) _ (HR.out.mk he) (by rw [show vs 21 = (.slice (some ⟨b0, 0, none⟩) n n) from (hd 21 (.val (.slice (some ⟨b0, 0, none⟩) n n)) (by kernel_rfl) (by kernel_rfl))]; exact (HB.out.mk he)))))) ?_
        refine reqM_cons (.val (.string ⟨(List.toArray (sumL Bl))⟩)) (by kernel_rfl) (fun vs w1 he hd => StepG.on (g := 20) (d := 42) (x := false) (v := vs 20) (by kernel_rfl) (by kernel_rfl) (by kernel_rfl) (hd 20 (.val (.bool false)) (by kernel_rfl) (by kernel_rfl)) (gives_str (x := (.tmp 44)) (v := (vs 22)) (xs := (sumL Bl)) (by kernel_rfl) (by kernel_rfl) ((hd 22 (.bsl (sumL Bl)) (by kernel_rfl) (by kernel_rfl))) ⟨Mk.refl he.up, rfl⟩)) ?_
        refine reqM_cons (.val (.slice (some ⟨b0, 0, none⟩) n n)) (by kernel_rfl) (fun vs w1 he hd => StepG.on (g := 20) (d := 42) (x := false) (v := vs 20) (by kernel_rfl) (by kernel_rfl) (by kernel_rfl) (hd 20 (.val (.bool false)) (by kernel_rfl) (by kernel_rfl)) (gives_move (x := (.tmp 2)) (v := (.slice (some ⟨b0, 0, none⟩) n n)) (by kernel_rfl) (by kernel_rfl) ⟨Mk.refl he.up, rfl⟩)) ?_
        refine reqM_cons (.bsl (sumL Bl)) (by kernel_rfl) (fun vs w1 he hd => StepG.on (g := 20) (d := 42) (x := false) (v := vs 20) (by kernel_rfl) (by kernel_rfl) (by kernel_rfl) (hd 20 (.val (.bool false)) (by kernel_rfl) (by kernel_rfl)) (gives_call (f := 10) (xs := #[(.tmp 46)]) (ts := #[22]) (vs := #[(vs 24)]) (by kernel_rfl) (by kernel_rfl) (by kernel_rfl) Tryd.func10 (by kernel_rfl) (by kernel_rfl) (toldM_bytes he.up (rSum_c _ Bl (by have := HL.out; omega) _ (by rw [show vs 24 = (.slice (some ⟨b0, 0, none⟩) n n) from (hd 24 (.val (.slice (some ⟨b0, 0, none⟩) n n)) (by kernel_rfl) (by kernel_rfl))]; exact (HB.out.mk he)))))) ?_
        refine reqM_cons (.val (.string ⟨(List.toArray (sumL Bl))⟩)) (by kernel_rfl) (fun vs w1 he hd => StepG.on (g := 20) (d := 42) (x := false) (v := vs 20) (by kernel_rfl) (by kernel_rfl) (by kernel_rfl) (hd 20 (.val (.bool false)) (by kernel_rfl) (by kernel_rfl)) (gives_str (x := (.tmp 47)) (v := (vs 25)) (xs := (sumL Bl)) (by kernel_rfl) (by kernel_rfl) ((hd 25 (.bsl (sumL Bl)) (by kernel_rfl) (by kernel_rfl))) ⟨Mk.refl he.up, rfl⟩)) ?_
        refine reqM_cons (.val (.bool false)) (by kernel_rfl) (fun vs w1 he hd => StepG.on (g := 20) (d := 42) (x := false) (v := vs 20) (by kernel_rfl) (by kernel_rfl) (by kernel_rfl) (hd 20 (.val (.bool false)) (by kernel_rfl) (by kernel_rfl)) (gives_neS (x := (.tmp 45)) (y := (.tmp 48)) (xs := (sumL Bl)) (ys := (sumL Bl)) (r := false) (by kernel_rfl) (Eq.trans (b := vs 23) (by kernel_rfl) (hd 23 (.val (.string ⟨(List.toArray (sumL Bl))⟩)) (by kernel_rfl) (by kernel_rfl))) (Eq.trans (b := vs 26) (by kernel_rfl) (hd 26 (.val (.string ⟨(List.toArray (sumL Bl))⟩)) (by kernel_rfl) (by kernel_rfl))) (by simp) ⟨Mk.refl he.up, rfl⟩)) ?_
        refine reqM_cons (.val (.bool false)) (by kernel_rfl) (fun vs w1 he hd => StepG.plain (by kernel_rfl) (gives_pick_f (x := (.tmp 42)) (y := (.const (.bool true))) (z := (.tmp 49)) (v := (.bool false)) (by kernel_rfl) (Eq.trans (b := vs 20) (by kernel_rfl) (hd 20 (.val (.bool false)) (by kernel_rfl) (by kernel_rfl))) (Eq.trans (b := vs 27) (by kernel_rfl) (hd 27 (.val (.bool false)) (by kernel_rfl) (by kernel_rfl))) ⟨Mk.refl he.up, rfl⟩)) ?_
        exact reqM_nil
      intro vs w4 hx hF
      have e0 : vs 0 = (.slice (some ⟨b0, 0, none⟩) n n) := toldM_at hF 0 (.val (.slice (some ⟨b0, 0, none⟩) n n)) (by decide) (by kernel_rfl)
      have e2 : vs 2 = (.string ⟨(List.toArray (sumL Bl))⟩) := toldM_at hF 2 (.val (.string ⟨(List.toArray (sumL Bl))⟩)) (by decide) (by kernel_rfl)
      have e3 : vs 3 = (.slice (some ⟨b0, 0, none⟩) n n) := toldM_at hF 3 (.val (.slice (some ⟨b0, 0, none⟩) n n)) (by decide) (by kernel_rfl)
      have e5 : vs 5 = (.string ⟨(List.toArray (sumL Bl))⟩) := toldM_at hF 5 (.val (.string ⟨(List.toArray (sumL Bl))⟩)) (by decide) (by kernel_rfl)
      have e6 : vs 6 = (.bool false) := toldM_at hF 6 (.val (.bool false)) (by decide) (by kernel_rfl)
      have e7 : vs 7 = (.bool false) := toldM_at hF 7 (.val (.bool false)) (by decide) (by kernel_rfl)
      have e8 : vs 8 = (.slice (some ⟨b0, 0, none⟩) n n) := toldM_at hF 8 (.val (.slice (some ⟨b0, 0, none⟩) n n)) (by decide) (by kernel_rfl)
      have e12 : vs 12 = (.string ⟨(List.toArray (macL Bl [120]))⟩) := toldM_at hF 12 (.val (.string ⟨(List.toArray (macL Bl [120]))⟩)) (by decide) (by kernel_rfl)
      have e13 : vs 13 = (.slice (some ⟨b0, 0, none⟩) n n) := toldM_at hF 13 (.val (.slice (some ⟨b0, 0, none⟩) n n)) (by decide) (by kernel_rfl)
      have e17 : vs 17 = (.string ⟨(List.toArray (macL Bl [120]))⟩) := toldM_at hF 17 (.val (.string ⟨(List.toArray (macL Bl [120]))⟩)) (by decide) (by kernel_rfl)
      have e18 : vs 18 = (.bool false) := toldM_at hF 18 (.val (.bool false)) (by decide) (by kernel_rfl)
      have e19 : vs 19 = (.bool false) := toldM_at hF 19 (.val (.bool false)) (by decide) (by kernel_rfl)
      have e20 : vs 20 = (.bool false) := toldM_at hF 20 (.val (.bool false)) (by decide) (by kernel_rfl)
      have e21 : vs 21 = (.slice (some ⟨b0, 0, none⟩) n n) := toldM_at hF 21 (.val (.slice (some ⟨b0, 0, none⟩) n n)) (by decide) (by kernel_rfl)
      have e23 : vs 23 = (.string ⟨(List.toArray (sumL Bl))⟩) := toldM_at hF 23 (.val (.string ⟨(List.toArray (sumL Bl))⟩)) (by decide) (by kernel_rfl)
      have e24 : vs 24 = (.slice (some ⟨b0, 0, none⟩) n n) := toldM_at hF 24 (.val (.slice (some ⟨b0, 0, none⟩) n n)) (by decide) (by kernel_rfl)
      have e26 : vs 26 = (.string ⟨(List.toArray (sumL Bl))⟩) := toldM_at hF 26 (.val (.string ⟨(List.toArray (sumL Bl))⟩)) (by decide) (by kernel_rfl)
      have e27 : vs 27 = (.bool false) := toldM_at hF 27 (.val (.bool false)) (by decide) (by kernel_rfl)
      have e28 : vs 28 = (.bool false) := toldM_at hF 28 (.val (.bool false)) (by decide) (by kernel_rfl)
      simp only [List.length_cons, List.length_nil, actsTo, if_true, dstOf, List.getElem?_toArray, List.getElem?_cons_succ, List.getElem?_cons_zero, Option.bind_some, Act.put, List.setIfInBounds_toArray, List.set_cons_zero, List.set_cons_succ]
      simp only [e0, e2, e3, e5, e6, e7, e8, e12, e13, e17, e18, e19, e20, e21, e23, e24, e26, e27, e28]
      generalize vs 1 = y1
      generalize vs 4 = y4
      generalize vs 9 = y9
      generalize vs 10 = y10
      generalize vs 11 = y11
      generalize vs 14 = y14
      generalize vs 15 = y15
      generalize vs 16 = y16
      generalize vs 22 = y22
      generalize vs 25 = y25
      clear hF e0 e2 e3 e5 e6 e7 e8 e12 e13 e17 e18 e19 e20 e21 e23 e24 e26 e27 e28 vs
      go_wp2_with fail
      refine ⟨⟨n + 1, by omega, by go_num, HB2.out.trans (hx.bel.mono HB2.out.size)⟩, ?_⟩
      simp [intOf]; omega
    · have hlt' : ¬ (n : Int) < 200 := by omega
      have HR := hidden (HR0.out.fresh HBw.out)
      clear HR0
      have D0 := hidden (fun w hr => derive_bad w hr (-1) (.inl (by omega)))
      have D1 := hidden (fun w hr => derive_bad w hr 257 (.inr (by omega)))
      go_wp2_with fail
      refine (D0.out _ HR.out).mono ?_
      rintro e w1 ⟨rfl, hb1⟩
      have HR1 := hidden (HR.out.fresh hb1)
      have HB1 := hidden (HBw.out.trans (hb1.mono HBw.out.size))
      clear hb1 HR HBw D0
      go_wp2_with fail
      refine (D1.out _ HR1.out).mono ?_
      rintro e w2 ⟨rfl, hb2⟩
      have HR2 := hidden (HR1.out.fresh hb2)
      have HB2 := hidden (HB1.out.trans (hb2.mono HB1.out.size))
      clear hb2 HR1 HB1 D1
      go_wp2_with fail
      refine (derive_none _ HR2.out).mono ?_
      rintro e w3 ⟨ao3, cap3, rfl, hb3⟩
      have HR3 := hidden (HR2.out.fresh hb3)
      have HB3 := hidden (HB2.out.trans (hb3.mono HB2.out.size))
      clear hb3 HR2 HB2
      have hcg := hcvg
      go_wp2_with fail
      obtain ⟨hl1, hl2, hl3, hl4⟩ := lits3 w3 [0, 5] [104] [105, 100] (by decide) (by decide) (by decide) (1, 2) (2, 3)
      refine (derive_key _ _ _ [0, 5] [104] [105, 100] (by decide) (by decide) (by decide) _ (HR3.out.fresh hl4) hl1 hl2 hl3).mono ?_
      rintro e w4 ⟨ao4, cap4, rfl, hv4, hb4⟩
      have HV4 := hidden hv4
      have HB4 := hidden (HB3.out.trans ((hl4.trans (hb4.mono hl4.size)).mono HB3.out.size))
      have HR4 := hidden (HR3.out.fresh (hl4.trans (hb4.mono hl4.size)))
      clear hl1 hl2 hl3 hl4 hv4 hb4 HR3 HB3
      go_wp2_with fail
      obtain ⟨hl1, hl2, hl3, hl4⟩ := lits3 w4 [5] [104] [105, 100] (by decide) (by decide) (by decide) (1, 2) (2, 3)
      refine (derive_key _ _ _ [5] [104] [105, 100] (by decide) (by decide) (by decide) _ (HR4.out.fresh hl4) hl1 hl2 hl3).mono ?_
      rintro e w5 ⟨ao5, cap5, rfl, hv5, hb5⟩
      have hv4 := HV4.out.fresh (hl4.trans (hb5.mono hl4.size))
      have HB5 := hidden (HB4.out.trans ((hl4.trans (hb5.mono hl4.size)).mono HB4.out.size))
      have HR5 := hidden (HR4.out.fresh (hl4.trans (hb5.mono hl4.size)))
      rw [show deriveL [0, 5] [104] 65 [105, 100] 256 = deriveL [5] [104] 65 [105, 100] 256 from derive_noughts 1 [5] [104] 65 [105, 100] 256] at hv4
      generalize deriveL [5] [104] 65 [105, 100] 256 = D at hv4 hv5
      have hs4 := run_string hv4
      have hs5 := run_string hv5
      clear hl1 hl2 hl3 hl4 hv4 hv5 hb5 HV4 HR4 HB4 hcg
      go_wp2_with fail
      refine (known_c _ HR5.out).mono ?_
      rintro e w6 ⟨rfl, hb6⟩
      have HB6 := hidden (HB5.out.trans (hb6.mono HB5.out.size))
      clear hb6 HB5
      go_wp2_with fail
      go_ret
      exact ⟨rfl, HB6.out⟩
end Go.Proofs.YtllkafhooapcbaaDoor
