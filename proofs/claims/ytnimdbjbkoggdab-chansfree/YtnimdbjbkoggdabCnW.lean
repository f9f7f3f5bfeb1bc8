/- The walk of ChansFree. -/
import Derived.Test.YtnimdbjbkoggdabCnWh
namespace Go.Proofs.Ytnimdbjbkoggdab
open Go Go.RowKit

theorem u32n_nat (k : Nat) (h : k ≤ 1000) : u32n (k : Int) = k := by unfold u32n; omega
theorem seven (k : Nat) (h : k ≤ 10) : IntKind.i64.wrap (7 * (k : Int)) = ((7 * k : Nat) : Int) ∧ u32n (IntKind.i64.wrap ((k : Int) * 7)) = 7 * k ∧ u32n (IntKind.i64.wrap (7 * (k : Int))) = 7 * k := by
  have h1 := wrap_small (7 * (k : Int)) (by omega) (by omega)
  have h2 := wrap_small ((k : Int) * 7) (by omega) (by omega)
  rw [h1, h2]
  refine ⟨by omega, ?_, ?_⟩ <;> (unfold u32n; omega)
/-- An answer of one payload whose bytes from 0 to 8 are there. -/
theorem Lst.nine {B : Nat} {w : World} {v : Value} {xs : List UInt8} (h : Lst B w v [xs]) (hl : 9 ≤ xs.length) : ∃ g cap b o c, v = .slice (some ⟨g, 0, none⟩) 1 cap ∧ w.cell? ⟨g, 0, none⟩ = some (.slice (some ⟨b, o, none⟩) xs.length c) ∧ w.cell? ⟨b, o, none⟩ = some (.int .u8 ((xs.getD 0 0).toNat)) ∧ w.cell? ⟨b, o + 8, none⟩ = some (.int .u8 ((xs.getD 8 0).toNat)) := by
  obtain ⟨g, cap, u, rfl, h1, h2, h3, h4⟩ := h.one'
  obtain ⟨b, o, c, rfl, _⟩ := h2.nonnil (by rintro rfl; simp at hl)
  exact ⟨g, cap, b, o, c, rfl, h1, h2.cellD 0 (by omega), h2.cellD 8 (by omega)⟩

set_option maxHeartbeats 6400000 in
set_option maxRecDepth 100000 in
theorem chansFree_c (u : Value) (zs : List Int) (w : World) (hu : IntS w u zs) :
    Calls Try.prog 3 #[u] w fun e w' => e = .returned (.bool true) ∧ Below w.heap.size w w' := by
  have HA := hidden hu
  obtain ⟨ua, uc, rfl, huc, hum, _⟩ := id hu
  unfold maxLen at hum
  have HK : Hid (∀ w1, Calls Try.prog 10 #[] w1 fun e w' => e = .returned (.bool true) ∧ Below w1.heap.size w1 w') := hidden known_c
  have HP1 : Hid (∀ (i : Nat) (w1 : World), i ≤ 10 → Calls Try.prog 7 #[.agg #[.int .i64 1, .int .i64 (i : Int), .int .i64 0, .int .i64 9, .string ⟨#[]⟩, .slice none 0 0]] w1 fun e w' => PayP w1 (.slice none 0 0) [] (fun xs => xs = openP sesB (7 * i) 0 9) e w') := hidden fun i w1 hi => payOpen 1 i 0 9 ⟨#[]⟩ (.slice none 0 0) [] w1 (bsl_none w1) rfl _ (fun f hf c7 h7 => by
    have hf' : f = true := hf.2 (by decide)
    subst hf' h7
    show openP _ _ _ _ = _
    rw [(seven i hi).2.1]
    rfl)
  have HP2 : Hid (∀ (k : Nat) (w1 : World), k ≤ 10 → Calls Try.prog 7 #[.agg #[.int .i64 6, .int .i64 (k : Int), .int .i64 0, .int .i64 0, .string ⟨#[]⟩, .slice none 0 0]] w1 fun e w' => PayP w1 (.slice none 0 0) [] (fun xs => xs = [97] ++ numsL [k]) e w') := hidden fun k w1 hk => pay6 6 k 0 0 ⟨#[]⟩ (.slice none 0 0) [] w1 (bsl_none w1) rfl _ (by show [97] ++ numsL [u32n k] = _; rw [u32n_nat k (by omega)])
  clear hu
  go_enter Try.func3, Try.ntmps3
  go_wp2_with fail
  refine (New_c w).mono ?_
  rintro e w1 ⟨rfl, hm1, hb1⟩
  obtain ⟨a, ha⟩ : ∃ a, a = w.heap.size := ⟨_, rfl⟩
  rw [← ha] at hm1 ⊢
  have HI0 : Hid (MI w w1 (fun _ => False) a (fS [false, false, false, false])) := hidden ⟨hm1, by omega, fun k h => h.elim, hb1⟩
  have hal := hm1.aLt
  clear hm1 hb1 ha
  have HI1 := hidden (HI0.out.fresh ((Below.refl _ w1).alloc (Nat.le_refl _) (.cells #[.bool false, .bool false, .bool false, .bool false] 25)))
  have HH1 : Hid (HB (w1.alloc (.cells #[.bool false, .bool false, .bool false, .bool false] 25)) w1.heap.size [false, false, false, false]) := hidden (heap_alloc_new w1 _)
  go_wp2_with fail
  obtain ⟨bh, hbh⟩ : ∃ bh, bh = w1.heap.size := ⟨_, rfl⟩
  have hba : bh ≠ a := by omega
  have hge : w.heap.size ≤ bh := by have := HI0.out.below.size; omega
  rw [← hbh] at HH1 ⊢
  clear hbh HI0 hal
  generalize w1.alloc (.cells #[.bool false, .bool false, .bool false, .bool false] 25) = w2 at *
  go_loopw [5] (fun t wr => ∃ (j : Nat) (hs : List Bool), j ≤ zs.length ∧ t = .int .i64 (j : Int) ∧ hs.length = 4 ∧ MI w wr (fun _ => False) a (fS hs) ∧ HB wr bh hs) (fun t _ => zs.length - (intOf t).toNat)
  case atStart => exact ⟨0, [false, false, false, false], by omega, rfl, rfl, HI1.out, HH1.out⟩
  case round =>
    obtain ⟨j, hs, hj, rfl, hl4, hmi, hhb⟩ := hrel
    have HI := hidden hmi
    have HH := hidden hhb
    clear hmi hhb HI1 HH1
    have HD : Hid (Calls Try.prog 9 #[.pointer (some ⟨a, 0, none⟩)] wr fun e w' => e = .returned (.bool false) ∧ w' = wr) := hidden (Dead_c wr HI.out.m)
    have HENDF : Hid (Below w.heap.size w wr) := hidden HI.out.below
    by_cases hlt : j < zs.length
    · have i1 : (j : Int) < (zs.length : Int) := by omega
      by_cases h40 : j < 40
      · have i2 : (j : Int) < 40 := by omega
        obtain ⟨b, o, rfl, k1⟩ := HA.out.at HI.out.below j hlt
        generalize zs[j] = x at k1
        go_wp2_with fail
        refine (within_c x 7 (by omega) wr).mono ?_
        rintro e w3 ⟨k, rfl, hk7, rfl⟩
        clear HD HENDF k1
        obtain ⟨h0, h1, h2, h3, rfl⟩ := list4 hl4
        by_cases hkh : k < 4 ∧ [h0, h1, h2, h3].getD k false = true
        · obtain ⟨hk4, hkt⟩ := hkh
          have i4 : (k : Int) < 4 := by omega
          have hc := HH.out.cell k (by simpa using hk4)
          rw [hkt] at hc
          have HFD := hidden (fS_gone h0 h1 h2 h3 k hk4 hkt)
          have HOK := hidden (fS_ok h0 h1 h2 h3)
          clear hkt
          generalize [h0, h1, h2, h3] = hs at *
          go_wp2_with fail
          refine (HP2.out k w3 (by omega)).mono ?_
          rintro e w4 ⟨v4, xs, rfl, hb4, hl4', rfl, _, hbl4⟩
          have HI4 := hidden (HI.out.fresh hbl4)
          have HH4 : Hid (HB w4 bh hs) := hidden ((hbl4.block _ (lt_of_block HH.out)).trans HH.out)
          have HDO := hidden (Do_c v4 _ w4 HI4.out.m HOK.out (by omega) hb4 (by omega))
          rw [HFD.out] at HDO
          clear hb4 hl4' hbl4 HI HH hc HFD
          go_wp2_with fail
          refine HDO.out.mono ?_
          rintro e w5 ⟨u1, u2, rfl, hls5, hev5, hm5, hk5⟩
          have HI6 := hidden (HI4.out.done hm5 hk5)
          have HH6 : Hid (HB w5 bh hs) := hidden ((hk5.block _ (lt_of_block HH4.out) hba).trans HH4.out)
          obtain ⟨g1, c1, x1, rfl, hc1, hx1, hg1, _⟩ := hls5.one'
          obtain ⟨g3, x3, rfl, hg3, _⟩ := hev5.one'
          obtain ⟨v0, v1, v2, vf⟩ := cells3i hg3
          obtain ⟨a1, d1, e1⟩ := hx1.len
          subst e1
          obtain ⟨L1, hL1⟩ : ∃ L, L = numL 97 [7 * k] := ⟨_, rfl⟩
          rw [← hL1] at hc1 hx1
          obtain ⟨k7, hk7'⟩ : ∃ k7, k7 = IntKind.i64.wrap (7 * (k : Int)) := ⟨_, rfl⟩
          have hk77 : u32n k7 = 7 * k := by rw [hk7']; exact (seven k (by omega)).2.2
          have C7 := hidden hk7'.symm
          have G1C := hidden hc1
          have G1B := hidden hx1
          have G3C := hidden v0
          have G4C := hidden v1
          have hws := HI6.out.below.size
          have G1U : Hid (∀ w1 v u, BSl w1 v [97] → NSl w1 u [u32n k7] → Ex w5 w1 → Calls Try.prog 8 #[v, u] w1 fun e w' => ∃ u, e = .returned u ∧ Ex w1 w' ∧ (Fact.low w.heap.size L1).holds u w') := hidden fun w1 v u h1 h2 h3 => told_low (Nat.le_trans hws h3.size) (by
            have := lu32_c v u [97] _ w1 h1 h2 (by intro j hj; match j, hj with | 0, _ => exact u32n_lt _) (by simp) (by simp) (by simp)
            rw [hk77] at this
            rw [hL1]
            exact this)
          clear hls5 hev5 hm5 hk5 hc1 hx1 hg3 v0 v1 v2 vf HDO HI4 HH4 hk7' hk77
          generalize hl1 : L1.length = l1 at *
          clear hl1 hL1
          go_upto_region 11 with fail
          refine region_free [(.val (.slice (some ⟨g1, 0, none⟩) 1 c1)), (.val (.int .i64 1)), (.val (.bool false)), (.val (.bool false)), (.val (.slice (some ⟨g1, 0, none⟩) 1 c1)), (.val (.pointer (some ⟨g1, 0, none⟩))), (.val (.slice a1 l1 d1)), (.val (.string ⟨(List.toArray L1)⟩)), (.bsl [97]), (.val (.int .i64 (k : Int))), (.val (.int .i64 k7)), (.val (.int .u32 ((u32n k7 : Nat) : Int))), (.nsl [u32n k7]), (.low w.heap.size L1), (.val (.string ⟨(List.toArray L1)⟩)), (.val (.bool false)), (.val (.bool false)), (.val (.bool false)), (.val (.slice (some ⟨g3, 0, none⟩) 1 1)), (.val (.int .i64 1)), (.val (.bool false)), (.val (.bool false)), (.val (.bool false)), (.val (.slice (some ⟨g3, 0, none⟩) 1 1)), (.val (.pointer (some ⟨g3, 0, none⟩))), (.val (.pointer (some ⟨g3, 0, none⟩))), (.val (.int .i64 4)), (.val (.bool false)), (.val (.bool false)), (.val (.bool false)), (.val (.slice (some ⟨g3, 0, none⟩) 1 1)), (.val (.pointer (some ⟨g3, 0, none⟩))), (.val (.pointer (some ⟨g3, 1, none⟩))), (.val (.int .i64 (k : Int))), (.val (.int .i64 (k : Int))), (.val (.bool false)), (.val (.bool false))] (by kernel_rfl) ?_ ?_
          · refine req_cons (.val (.slice (some ⟨g1, 0, none⟩) 1 c1)) (by kernel_rfl) (fun vs w1 he hd => StepG.plain (by kernel_rfl) (gives_move (x := .tmp 7) (by kernel_rfl) (by kernel_rfl) ⟨Ex.refl _, rfl⟩)) ?_
            refine req_cons (.val (.int .i64 1)) (by kernel_rfl) (fun vs w1 he hd => StepG.plain (by kernel_rfl) (gives_len (ty := 27) (x := .tmp 45) (n := 1) (by kernel_rfl) (Eq.trans (b := vs 0) (by kernel_rfl) (hd 0 (.val (.slice (some ⟨g1, 0, none⟩) 1 c1)) (by kernel_rfl) (by kernel_rfl))) ⟨_, Try.underlying27⟩ ⟨Ex.refl _, rfl⟩)) ?_
            refine req_cons (.val (.bool false)) (by kernel_rfl) (fun vs w1 he hd => StepG.plain (by kernel_rfl) (gives_neI (t := 3) (k := .i64) (a := 1) (b := 1) (r := false) (x := .tmp 46) (y := .const (.int .i64 1)) (by kernel_rfl) (Eq.trans (b := vs 1) (by kernel_rfl) (hd 1 (.val (.int .i64 1)) (by kernel_rfl) (by kernel_rfl))) (by kernel_rfl) rfl ⟨Ex.refl _, rfl⟩)) ?_
            refine req_cons (.val (.bool false)) (by kernel_rfl) (fun vs w1 he hd => StepG.plain (by kernel_rfl) (gives_move (x := .tmp 47) (by kernel_rfl) (Eq.trans (b := vs 2) (by kernel_rfl) (hd 2 (.val (.bool false)) (by kernel_rfl) (by kernel_rfl))) ⟨Ex.refl _, rfl⟩)) ?_
            refine req_cons (.val (.slice (some ⟨g1, 0, none⟩) 1 c1)) (by kernel_rfl) (fun vs w1 he hd => StepG.on (g := 3) (d := 48) (x := false) (v := vs 3) (by kernel_rfl) (by kernel_rfl) (by kernel_rfl) (hd 3 (.val (.bool false)) (by kernel_rfl) (by kernel_rfl)) (gives_move (x := .tmp 7) (by kernel_rfl) (by kernel_rfl) ⟨Ex.refl _, rfl⟩)) ?_
            refine req_cons (.val (.pointer (some ⟨g1, 0, none⟩))) (by kernel_rfl) (fun vs w1 he hd => StepG.on (g := 3) (d := 48) (x := false) (v := vs 3) (by kernel_rfl) (by kernel_rfl) (by kernel_rfl) (hd 3 (.val (.bool false)) (by kernel_rfl) (by kernel_rfl)) (gives_index (i := 0) (by decide) (x := .tmp 49) (y := .const (.int .i64 0)) (by kernel_rfl) (Eq.trans (b := vs 4) (by kernel_rfl) (hd 4 (.val (.slice (some ⟨g1, 0, none⟩) 1 c1)) (by kernel_rfl) (by kernel_rfl))) (by kernel_rfl) ⟨Ex.refl _, rfl⟩)) ?_
            refine req_cons (.val (.slice a1 l1 d1)) (by kernel_rfl) (fun vs w1 he hd => StepG.on (g := 3) (d := 48) (x := false) (v := vs 3) (by kernel_rfl) (by kernel_rfl) (by kernel_rfl) (hd 3 (.val (.bool false)) (by kernel_rfl) (by kernel_rfl)) (gives_ldb (x := .tmp 50) (by kernel_rfl) (Eq.trans (b := vs 5) (by kernel_rfl) (hd 5 (.val (.pointer (some ⟨g1, 0, none⟩))) (by kernel_rfl) (by kernel_rfl))) (cell_ex G1C.out he) ⟨Ex.refl _, rfl⟩)) ?_
            refine req_cons (.val (.string ⟨(List.toArray L1)⟩)) (by kernel_rfl) (fun vs w1 he hd => StepG.on (g := 3) (d := 48) (x := false) (v := vs 3) (by kernel_rfl) (by kernel_rfl) (by kernel_rfl) (hd 3 (.val (.bool false)) (by kernel_rfl) (by kernel_rfl)) (gives_str (x := .tmp 51) (v := (.slice a1 l1 d1)) (xs := L1) (by kernel_rfl) (Eq.trans (b := vs 6) (by kernel_rfl) (hd 6 (.val (.slice a1 l1 d1)) (by kernel_rfl) (by kernel_rfl))) (G1B.out.fresh he) ⟨Ex.refl _, rfl⟩)) ?_
            refine req_cons (.bsl [97]) (by kernel_rfl) (fun vs w1 he hd => StepG.on (g := 3) (d := 48) (x := false) (v := vs 3) (by kernel_rfl) (by kernel_rfl) (by kernel_rfl) (hd 3 (.val (.bool false)) (by kernel_rfl) (by kernel_rfl)) (gives_lit1B 97 97 rfl (by kernel_rfl) (by kernel_rfl))) ?_
            refine req_cons (.val (.int .i64 (k : Int))) (by kernel_rfl) (fun vs w1 he hd => StepG.on (g := 3) (d := 48) (x := false) (v := vs 3) (by kernel_rfl) (by kernel_rfl) (by kernel_rfl) (hd 3 (.val (.bool false)) (by kernel_rfl) (by kernel_rfl)) (gives_move (x := .tmp 6) (by kernel_rfl) (by kernel_rfl) ⟨Ex.refl _, rfl⟩)) ?_
            refine req_cons (.val (.int .i64 k7)) (by kernel_rfl) (fun vs w1 he hd => StepG.on (g := 3) (d := 48) (x := false) (v := vs 3) (by kernel_rfl) (by kernel_rfl) (by kernel_rfl) (hd 3 (.val (.bool false)) (by kernel_rfl) (by kernel_rfl)) (gives_mulI (t := 3) (x := .const (.int .i64 7)) (y := .tmp 54) (a := 7) (b := (k : Int)) (by kernel_rfl) (by kernel_rfl) (Eq.trans (b := vs 9) (by kernel_rfl) (hd 9 (.val (.int .i64 (k : Int))) (by kernel_rfl) (by kernel_rfl))) C7.out ⟨Ex.refl _, rfl⟩)) ?_
            refine req_cons (.val (.int .u32 ((u32n k7 : Nat) : Int))) (by kernel_rfl) (fun vs w1 he hd => StepG.on (g := 3) (d := 48) (x := false) (v := vs 3) (by kernel_rfl) (by kernel_rfl) (by kernel_rfl) (hd 3 (.val (.bool false)) (by kernel_rfl) (by kernel_rfl)) (gives_conv (s := 3) (d := 36) (x := .tmp 55) (by kernel_rfl) (Eq.trans (b := vs 10) (by kernel_rfl) (hd 10 (.val (.int .i64 k7)) (by kernel_rfl) (by kernel_rfl))) (conv_iu k7 w1) ⟨Ex.refl _, rfl⟩)) ?_
            refine req_cons (.nsl [u32n k7]) (by kernel_rfl) (fun vs w1 he hd => StepG.on (g := 3) (d := 48) (x := false) (v := vs 3) (by kernel_rfl) (by kernel_rfl) (by kernel_rfl) (hd 3 (.val (.bool false)) (by kernel_rfl) (by kernel_rfl)) (gives_nums1 (x := .tmp 56) (u32n k7) (by kernel_rfl) (Eq.trans (b := vs 11) (by kernel_rfl) (hd 11 (.val (.int .u32 ((u32n k7 : Nat) : Int))) (by kernel_rfl) (by kernel_rfl))))) ?_
            refine req_cons (.low w.heap.size L1) (by kernel_rfl) (fun vs w1 he hd => StepG.on (g := 3) (d := 48) (x := false) (v := vs 3) (by kernel_rfl) (by kernel_rfl) (by kernel_rfl) (hd 3 (.val (.bool false)) (by kernel_rfl) (by kernel_rfl)) (gives_call (fn := Try.f8) (f := 8) (xs := #[.tmp 53, .tmp 57]) (ts := #[31, 58]) (vs := #[vs 8, vs 12]) (by kernel_rfl) (by kernel_rfl) (Eq.trans (b := #[vs 8, vs 12]) (by kernel_rfl) (rfl)) (by kernel_rfl) (by kernel_rfl) (by kernel_rfl) (G1U.out w1 (vs 8) (vs 12) (hd 8 (.bsl [97]) (by kernel_rfl) (by kernel_rfl)) (hd 12 (.nsl [u32n k7]) (by kernel_rfl) (by kernel_rfl)) he))) ?_
            refine req_cons (.val (.string ⟨(List.toArray L1)⟩)) (by kernel_rfl) (fun vs w1 he hd => StepG.on (g := 3) (d := 48) (x := false) (v := vs 3) (by kernel_rfl) (by kernel_rfl) (by kernel_rfl) (hd 3 (.val (.bool false)) (by kernel_rfl) (by kernel_rfl)) (gives_str (x := .tmp 58) (v := vs 13) (xs := L1) (by kernel_rfl) (by kernel_rfl) (hd 13 (.low w.heap.size L1) (by kernel_rfl) (by kernel_rfl)).1 ⟨Ex.refl _, rfl⟩)) ?_
            refine req_cons (.val (.bool false)) (by kernel_rfl) (fun vs w1 he hd => StepG.on (g := 3) (d := 48) (x := false) (v := vs 3) (by kernel_rfl) (by kernel_rfl) (by kernel_rfl) (hd 3 (.val (.bool false)) (by kernel_rfl) (by kernel_rfl)) (gives_neS (x := .tmp 52) (y := .tmp 59) (xs := L1) (ys := L1) (r := false) (by kernel_rfl) (Eq.trans (b := vs 7) (by kernel_rfl) (hd 7 (.val (.string ⟨(List.toArray L1)⟩)) (by kernel_rfl) (by kernel_rfl))) (Eq.trans (b := vs 14) (by kernel_rfl) (hd 14 (.val (.string ⟨(List.toArray L1)⟩)) (by kernel_rfl) (by kernel_rfl))) (by simp) ⟨Ex.refl _, rfl⟩)) ?_
            refine req_cons (.val (.bool false)) (by kernel_rfl) (fun vs w1 he hd => StepG.plain (by kernel_rfl) (gives_pick_f (x := .tmp 48) (y := .const (.bool true)) (z := .tmp 60) (v := .bool false) (by kernel_rfl) (Eq.trans (b := vs 3) (by kernel_rfl) (hd 3 (.val (.bool false)) (by kernel_rfl) (by kernel_rfl))) (Eq.trans (b := vs 15) (by kernel_rfl) (hd 15 (.val (.bool false)) (by kernel_rfl) (by kernel_rfl))) ⟨Ex.refl _, rfl⟩)) ?_
            refine req_cons (.val (.bool false)) (by kernel_rfl) (fun vs w1 he hd => StepG.plain (by kernel_rfl) (gives_move (x := .tmp 61) (by kernel_rfl) (Eq.trans (b := vs 16) (by kernel_rfl) (hd 16 (.val (.bool false)) (by kernel_rfl) (by kernel_rfl))) ⟨Ex.refl _, rfl⟩)) ?_
            refine req_cons (.val (.slice (some ⟨g3, 0, none⟩) 1 1)) (by kernel_rfl) (fun vs w1 he hd => StepG.on (g := 17) (d := 62) (x := false) (v := vs 17) (by kernel_rfl) (by kernel_rfl) (by kernel_rfl) (hd 17 (.val (.bool false)) (by kernel_rfl) (by kernel_rfl)) (gives_move (x := .tmp 8) (by kernel_rfl) (by kernel_rfl) ⟨Ex.refl _, rfl⟩)) ?_
            refine req_cons (.val (.int .i64 1)) (by kernel_rfl) (fun vs w1 he hd => StepG.on (g := 17) (d := 62) (x := false) (v := vs 17) (by kernel_rfl) (by kernel_rfl) (by kernel_rfl) (hd 17 (.val (.bool false)) (by kernel_rfl) (by kernel_rfl)) (gives_len (ty := 28) (x := .tmp 63) (n := 1) (by kernel_rfl) (Eq.trans (b := vs 18) (by kernel_rfl) (hd 18 (.val (.slice (some ⟨g3, 0, none⟩) 1 1)) (by kernel_rfl) (by kernel_rfl))) ⟨_, Try.underlying28⟩ ⟨Ex.refl _, rfl⟩)) ?_
            refine req_cons (.val (.bool false)) (by kernel_rfl) (fun vs w1 he hd => StepG.on (g := 17) (d := 62) (x := false) (v := vs 17) (by kernel_rfl) (by kernel_rfl) (by kernel_rfl) (hd 17 (.val (.bool false)) (by kernel_rfl) (by kernel_rfl)) (gives_neI (t := 3) (k := .i64) (a := 1) (b := 1) (r := false) (x := .tmp 64) (y := .const (.int .i64 1)) (by kernel_rfl) (Eq.trans (b := vs 19) (by kernel_rfl) (hd 19 (.val (.int .i64 1)) (by kernel_rfl) (by kernel_rfl))) (by kernel_rfl) rfl ⟨Ex.refl _, rfl⟩)) ?_
            refine req_cons (.val (.bool false)) (by kernel_rfl) (fun vs w1 he hd => StepG.plain (by kernel_rfl) (gives_pick_f (x := .tmp 62) (y := .const (.bool true)) (z := .tmp 65) (v := .bool false) (by kernel_rfl) (Eq.trans (b := vs 17) (by kernel_rfl) (hd 17 (.val (.bool false)) (by kernel_rfl) (by kernel_rfl))) (Eq.trans (b := vs 20) (by kernel_rfl) (hd 20 (.val (.bool false)) (by kernel_rfl) (by kernel_rfl))) ⟨Ex.refl _, rfl⟩)) ?_
            refine req_cons (.val (.bool false)) (by kernel_rfl) (fun vs w1 he hd => StepG.plain (by kernel_rfl) (gives_move (x := .tmp 66) (by kernel_rfl) (Eq.trans (b := vs 21) (by kernel_rfl) (hd 21 (.val (.bool false)) (by kernel_rfl) (by kernel_rfl))) ⟨Ex.refl _, rfl⟩)) ?_
            refine req_cons (.val (.slice (some ⟨g3, 0, none⟩) 1 1)) (by kernel_rfl) (fun vs w1 he hd => StepG.on (g := 22) (d := 67) (x := false) (v := vs 22) (by kernel_rfl) (by kernel_rfl) (by kernel_rfl) (hd 22 (.val (.bool false)) (by kernel_rfl) (by kernel_rfl)) (gives_move (x := .tmp 8) (by kernel_rfl) (by kernel_rfl) ⟨Ex.refl _, rfl⟩)) ?_
            refine req_cons (.val (.pointer (some ⟨g3, 0, none⟩))) (by kernel_rfl) (fun vs w1 he hd => StepG.on (g := 22) (d := 67) (x := false) (v := vs 22) (by kernel_rfl) (by kernel_rfl) (by kernel_rfl) (hd 22 (.val (.bool false)) (by kernel_rfl) (by kernel_rfl)) (gives_indexE (x := .tmp 68) (y := .const (.int .i64 0)) (by kernel_rfl) (Eq.trans (b := vs 23) (by kernel_rfl) (hd 23 (.val (.slice (some ⟨g3, 0, none⟩) 1 1)) (by kernel_rfl) (by kernel_rfl))) (by kernel_rfl) ⟨Ex.refl _, rfl⟩)) ?_
            refine req_cons (.val (.pointer (some ⟨g3, 0, none⟩))) (by kernel_rfl) (fun vs w1 he hd => StepG.on (g := 22) (d := 67) (x := false) (v := vs 22) (by kernel_rfl) (by kernel_rfl) (by kernel_rfl) (hd 22 (.val (.bool false)) (by kernel_rfl) (by kernel_rfl)) (gives_fieldE (x := .tmp 69) (by kernel_rfl) (Eq.trans (b := vs 24) (by kernel_rfl) (hd 24 (.val (.pointer (some ⟨g3, 0, none⟩))) (by kernel_rfl) (by kernel_rfl))) ⟨Ex.refl _, rfl⟩)) ?_
            refine req_cons (.val (.int .i64 4)) (by kernel_rfl) (fun vs w1 he hd => StepG.on (g := 22) (d := 67) (x := false) (v := vs 22) (by kernel_rfl) (by kernel_rfl) (by kernel_rfl) (hd 22 (.val (.bool false)) (by kernel_rfl) (by kernel_rfl)) (gives_ldi (x := .tmp 70) (by kernel_rfl) (Eq.trans (b := vs 25) (by kernel_rfl) (hd 25 (.val (.pointer (some ⟨g3, 0, none⟩))) (by kernel_rfl) (by kernel_rfl))) (cell_ex G3C.out he) ⟨Ex.refl _, rfl⟩)) ?_
            refine req_cons (.val (.bool false)) (by kernel_rfl) (fun vs w1 he hd => StepG.on (g := 22) (d := 67) (x := false) (v := vs 22) (by kernel_rfl) (by kernel_rfl) (by kernel_rfl) (hd 22 (.val (.bool false)) (by kernel_rfl) (by kernel_rfl)) (gives_neI (t := 3) (k := .i64) (a := 4) (b := 4) (r := false) (x := .tmp 71) (y := .const (.int .i64 4)) (by kernel_rfl) (Eq.trans (b := vs 26) (by kernel_rfl) (hd 26 (.val (.int .i64 4)) (by kernel_rfl) (by kernel_rfl))) (by kernel_rfl) rfl ⟨Ex.refl _, rfl⟩)) ?_
            refine req_cons (.val (.bool false)) (by kernel_rfl) (fun vs w1 he hd => StepG.plain (by kernel_rfl) (gives_pick_f (x := .tmp 67) (y := .const (.bool true)) (z := .tmp 72) (v := .bool false) (by kernel_rfl) (Eq.trans (b := vs 22) (by kernel_rfl) (hd 22 (.val (.bool false)) (by kernel_rfl) (by kernel_rfl))) (Eq.trans (b := vs 27) (by kernel_rfl) (hd 27 (.val (.bool false)) (by kernel_rfl) (by kernel_rfl))) ⟨Ex.refl _, rfl⟩)) ?_
            refine req_cons (.val (.bool false)) (by kernel_rfl) (fun vs w1 he hd => StepG.plain (by kernel_rfl) (gives_move (x := .tmp 73) (by kernel_rfl) (Eq.trans (b := vs 28) (by kernel_rfl) (hd 28 (.val (.bool false)) (by kernel_rfl) (by kernel_rfl))) ⟨Ex.refl _, rfl⟩)) ?_
            refine req_cons (.val (.slice (some ⟨g3, 0, none⟩) 1 1)) (by kernel_rfl) (fun vs w1 he hd => StepG.on (g := 29) (d := 74) (x := false) (v := vs 29) (by kernel_rfl) (by kernel_rfl) (by kernel_rfl) (hd 29 (.val (.bool false)) (by kernel_rfl) (by kernel_rfl)) (gives_move (x := .tmp 8) (by kernel_rfl) (by kernel_rfl) ⟨Ex.refl _, rfl⟩)) ?_
            refine req_cons (.val (.pointer (some ⟨g3, 0, none⟩))) (by kernel_rfl) (fun vs w1 he hd => StepG.on (g := 29) (d := 74) (x := false) (v := vs 29) (by kernel_rfl) (by kernel_rfl) (by kernel_rfl) (hd 29 (.val (.bool false)) (by kernel_rfl) (by kernel_rfl)) (gives_indexE (x := .tmp 75) (y := .const (.int .i64 0)) (by kernel_rfl) (Eq.trans (b := vs 30) (by kernel_rfl) (hd 30 (.val (.slice (some ⟨g3, 0, none⟩) 1 1)) (by kernel_rfl) (by kernel_rfl))) (by kernel_rfl) ⟨Ex.refl _, rfl⟩)) ?_
            refine req_cons (.val (.pointer (some ⟨g3, 1, none⟩))) (by kernel_rfl) (fun vs w1 he hd => StepG.on (g := 29) (d := 74) (x := false) (v := vs 29) (by kernel_rfl) (by kernel_rfl) (by kernel_rfl) (hd 29 (.val (.bool false)) (by kernel_rfl) (by kernel_rfl)) (gives_fieldE1 (x := .tmp 76) (by kernel_rfl) (Eq.trans (b := vs 31) (by kernel_rfl) (hd 31 (.val (.pointer (some ⟨g3, 0, none⟩))) (by kernel_rfl) (by kernel_rfl))) ⟨Ex.refl _, rfl⟩)) ?_
            refine req_cons (.val (.int .i64 (k : Int))) (by kernel_rfl) (fun vs w1 he hd => StepG.on (g := 29) (d := 74) (x := false) (v := vs 29) (by kernel_rfl) (by kernel_rfl) (by kernel_rfl) (hd 29 (.val (.bool false)) (by kernel_rfl) (by kernel_rfl)) (gives_ldi (x := .tmp 77) (by kernel_rfl) (Eq.trans (b := vs 32) (by kernel_rfl) (hd 32 (.val (.pointer (some ⟨g3, 1, none⟩))) (by kernel_rfl) (by kernel_rfl))) (cell_ex G4C.out he) ⟨Ex.refl _, rfl⟩)) ?_
            refine req_cons (.val (.int .i64 (k : Int))) (by kernel_rfl) (fun vs w1 he hd => StepG.on (g := 29) (d := 74) (x := false) (v := vs 29) (by kernel_rfl) (by kernel_rfl) (by kernel_rfl) (hd 29 (.val (.bool false)) (by kernel_rfl) (by kernel_rfl)) (gives_move (x := .tmp 6) (by kernel_rfl) (by kernel_rfl) ⟨Ex.refl _, rfl⟩)) ?_
            refine req_cons (.val (.bool false)) (by kernel_rfl) (fun vs w1 he hd => StepG.on (g := 29) (d := 74) (x := false) (v := vs 29) (by kernel_rfl) (by kernel_rfl) (by kernel_rfl) (hd 29 (.val (.bool false)) (by kernel_rfl) (by kernel_rfl)) (gives_neI (t := 3) (k := .i64) (a := (k : Int)) (b := (k : Int)) (r := false) (x := .tmp 78) (y := .tmp 79) (by kernel_rfl) (Eq.trans (b := vs 33) (by kernel_rfl) (hd 33 (.val (.int .i64 (k : Int))) (by kernel_rfl) (by kernel_rfl))) (Eq.trans (b := vs 34) (by kernel_rfl) (hd 34 (.val (.int .i64 (k : Int))) (by kernel_rfl) (by kernel_rfl))) (by simp) ⟨Ex.refl _, rfl⟩)) ?_
            refine req_cons (.val (.bool false)) (by kernel_rfl) (fun vs w1 he hd => StepG.plain (by kernel_rfl) (gives_pick_f (x := .tmp 74) (y := .const (.bool true)) (z := .tmp 80) (v := .bool false) (by kernel_rfl) (Eq.trans (b := vs 29) (by kernel_rfl) (hd 29 (.val (.bool false)) (by kernel_rfl) (by kernel_rfl))) (Eq.trans (b := vs 35) (by kernel_rfl) (hd 35 (.val (.bool false)) (by kernel_rfl) (by kernel_rfl))) ⟨Ex.refl _, rfl⟩)) req_nil
          · intro vs w7 he hF
            have hz : vs 36 = .bool false := told_at hF 36 (.val (.bool false)) (by decide) (by kernel_rfl)
            have HE7 := hidden he
            simp only [List.length_cons, List.length_nil, Nat.zero_add, Nat.reduceAdd, actsTo, if_true, dstOf, List.getElem?_toArray, List.getElem?_cons_succ, List.getElem?_cons_zero, Option.bind_some, Act.put, List.setIfInBounds_toArray, List.set_cons_zero, List.set_cons_succ]
            rw [hz]
            have HI7 := hidden (HI6.out.fresh he)
            have HH7 : Hid (HB w7 bh hs) := hidden ((he.block _ (lt_of_block HH6.out)).trans HH6.out)
            clear hF he hz HI6 HH6
            have hc7 := HH7.out.cell k (by omega)
            have hf7 : ∀ i, w7.frozen? ⟨bh, i, none⟩ = false := fun i => frozen_row HH7.out i
            have HSET := hidden (HH7.out.set k false)
            go_wp2_with fail
            go_roundw
            case rel => exact ⟨j + 1, hs.set k false, by omega, by go_num, by simp [hl4], HI7.out.set hba hge, HSET.out⟩
            case measure => simp [intOf]; omega
        · by_cases hk4 : k < 4
          · have i4 : (k : Int) < 4 := by omega
            have hkf : [h0, h1, h2, h3].getD k false = false := by
              cases hv : [h0, h1, h2, h3].getD k false
              · rfl
              · exact absurd ⟨hk4, hv⟩ hkh
            have hc := HH.out.cell k (by simpa using hk4)
            rw [hkf] at hc
            clear hkf
            obtain ⟨F, hF⟩ : ∃ F, F = fF [h0, h1, h2, h3] := ⟨_, rfl⟩
            have HFO := hidden (fS_open h0 h1 h2 h3)
            obtain ⟨f1, f2, f3⟩ := fF_spec [h0, h1, h2, h3]
            have HOK := hidden (fS_ok h0 h1 h2 h3)
            rw [← hF] at HFO f1 f2 f3
            clear hF hkh
            generalize [h0, h1, h2, h3] = hs at *
            have f3' : F ≤ 4 := by omega
            have F1 := hidden f1
            have F2 : Hid (F < 4 → hs.getD F false = false) := hidden fun h => f2 (by omega)
            clear f1 f2 f3
            go_wp2_with fail
            go_loop [9] (fun t => ∃ (q : Nat), q ≤ F ∧ t = .int .i64 (q : Int)) (fun t => 5 - (intOf t).toNat)
            case atStart => exact ⟨0, by omega, rfl⟩
            case round =>
              obtain ⟨q, hq, rfl⟩ := hrel
              by_cases hqf : q < F
              · have i5 : (q : Int) < 4 := by omega
                have cq := HH.out.cell q (by omega)
                rw [F1.out q hqf] at cq
                go_wp2_with fail
                refine ⟨⟨q + 1, by omega, by go_num⟩, by simp [intOf]; omega⟩
              · have hqe : q = F := by omega
                subst hqe
                by_cases hF4 : q < 4
                · have i5 : (q : Int) < 4 := by omega
                  have cq := HH.out.cell q (by omega)
                  rw [F2.out hF4] at cq
                  rw [if_pos hF4] at HFO
                  have HX8 : Hid (((numL 91 [7 * q, q, 65536, 32768]).getD 8 0).toNat = q) := hidden (nine8 q hF4)
                  have hm8 : (q : Int) % 256 = (q : Int) := by omega
                  go_wp2_with fail
                  refine (HP1.out q w3 (by omega)).mono ?_
                  rintro e w4 ⟨v4, xs, rfl, hb4, hl4', rfl, _, hbl4⟩
                  have HI4 := hidden (HI.out.fresh hbl4)
                  have HH4 : Hid (HB w4 bh hs) := hidden ((hbl4.block _ (lt_of_block HH.out)).trans HH.out)
                  have HDO := hidden (Do_c v4 _ w4 HI4.out.m HOK.out (by omega) hb4 (by omega))
                  rw [HFO.out] at HDO
                  clear hb4 hl4' hbl4 HI HH
                  go_wp2_with fail
                  refine HDO.out.mono ?_
                  rintro e w5 ⟨u1, u2, rfl, hls5, hev5, hm5, hk5⟩
                  have HI6 := hidden (HI4.out.done hm5 hk5)
                  have HH6 : Hid (HB w5 bh hs) := hidden ((hk5.block _ (lt_of_block HH4.out) hba).trans HH4.out)
                  obtain ⟨g1, c1, b1, o1, d1, rfl, q1, q2, q3⟩ := hls5.nine (by rw [numL_len]; simp)
                  obtain rfl := hev5.none'
                  rw [show (numL 91 [7 * q, q, 65536, 32768]).getD 0 0 = 91 from rfl] at q2
                  rw [show (numL 91 [7 * q, q, 65536, 32768]).length = 17 from by rw [numL_len]; rfl] at q1
                  rw [HX8.out] at q3
                  have hc8 := HH6.out.cell q (by omega)
                  have hf8 : ∀ i, w5.frozen? ⟨bh, i, none⟩ = false := fun i => frozen_row HH6.out i
                  have HSET := hidden (HH6.out.set q true)
                  clear hls5 hev5 hm5 hk5 HDO HI4 HH4
                  go_wp2_with fail
                  go_roundw
                  case rel => exact ⟨j + 1, hs.set q true, by omega, by go_num, by simp [hl4], HI6.out.set hba hge, HSET.out⟩
                  case measure => simp [intOf]; omega
                · have hF4' : q = 4 := by omega
                  subst hF4'
                  rw [if_neg hF4] at HFO
                  go_wp2_with fail
                  refine (HP1.out 4 w3 (by omega)).mono ?_
                  rintro e w4 ⟨v4, xs, rfl, hb4, hl4', rfl, _, hbl4⟩
                  have HI4 := hidden (HI.out.fresh hbl4)
                  have HH4 : Hid (HB w4 bh hs) := hidden ((hbl4.block _ (lt_of_block HH.out)).trans HH.out)
                  have HDO := hidden (Do_c v4 _ w4 HI4.out.m HOK.out (by omega) hb4 (by omega))
                  rw [HFO.out] at HDO
                  clear hb4 hl4' hbl4 HI HH
                  go_wp2_with fail
                  refine HDO.out.mono ?_
                  rintro e w5 ⟨u1, u2, rfl, hls5, hev5, hm5, hk5⟩
                  have HI6 := hidden (HI4.out.done hm5 hk5)
                  have HH6 : Hid (HB w5 bh hs) := hidden ((hk5.block _ (lt_of_block HH4.out) hba).trans HH4.out)
                  obtain ⟨g1, c1, b1, o1, d1, rfl, q1, q2, q3⟩ := hls5.nine (by decide)
                  obtain rfl := hev5.none'
                  rw [show (refL 28 4).getD 0 0 = 92 from rfl] at q2
                  rw [show (refL 28 4).length = 17 from by decide] at q1
                  skip
                  clear hls5 hev5 hm5 hk5 HDO HI4 HH4
                  go_wp2_with fail
                  go_roundw
                  case rel => exact ⟨j + 1, hs, by omega, by go_num, by exact hl4, HI6.out, HH6.out⟩
                  case measure => simp [intOf]; omega
          · have i4 : ¬ (k : Int) < 4 := by omega
            obtain ⟨F, hF⟩ : ∃ F, F = fF [h0, h1, h2, h3] := ⟨_, rfl⟩
            have HFO := hidden (fS_open h0 h1 h2 h3)
            obtain ⟨f1, f2, f3⟩ := fF_spec [h0, h1, h2, h3]
            have HOK := hidden (fS_ok h0 h1 h2 h3)
            rw [← hF] at HFO f1 f2 f3
            clear hF hkh
            generalize [h0, h1, h2, h3] = hs at *
            have f3' : F ≤ 4 := by omega
            have F1 := hidden f1
            have F2 : Hid (F < 4 → hs.getD F false = false) := hidden fun h => f2 (by omega)
            clear f1 f2 f3
            go_wp2_with fail
            go_loop [9] (fun t => ∃ (q : Nat), q ≤ F ∧ t = .int .i64 (q : Int)) (fun t => 5 - (intOf t).toNat)
            case atStart => exact ⟨0, by omega, rfl⟩
            case round =>
              obtain ⟨q, hq, rfl⟩ := hrel
              by_cases hqf : q < F
              · have i5 : (q : Int) < 4 := by omega
                have cq := HH.out.cell q (by omega)
                rw [F1.out q hqf] at cq
                go_wp2_with fail
                refine ⟨⟨q + 1, by omega, by go_num⟩, by simp [intOf]; omega⟩
              · have hqe : q = F := by omega
                subst hqe
                by_cases hF4 : q < 4
                · have i5 : (q : Int) < 4 := by omega
                  have cq := HH.out.cell q (by omega)
                  rw [F2.out hF4] at cq
                  rw [if_pos hF4] at HFO
                  have HX8 : Hid (((numL 91 [7 * q, q, 65536, 32768]).getD 8 0).toNat = q) := hidden (nine8 q hF4)
                  have hm8 : (q : Int) % 256 = (q : Int) := by omega
                  go_wp2_with fail
                  refine (HP1.out q w3 (by omega)).mono ?_
                  rintro e w4 ⟨v4, xs, rfl, hb4, hl4', rfl, _, hbl4⟩
                  have HI4 := hidden (HI.out.fresh hbl4)
                  have HH4 : Hid (HB w4 bh hs) := hidden ((hbl4.block _ (lt_of_block HH.out)).trans HH.out)
                  have HDO := hidden (Do_c v4 _ w4 HI4.out.m HOK.out (by omega) hb4 (by omega))
                  rw [HFO.out] at HDO
                  clear hb4 hl4' hbl4 HI HH
                  go_wp2_with fail
                  refine HDO.out.mono ?_
                  rintro e w5 ⟨u1, u2, rfl, hls5, hev5, hm5, hk5⟩
                  have HI6 := hidden (HI4.out.done hm5 hk5)
                  have HH6 : Hid (HB w5 bh hs) := hidden ((hk5.block _ (lt_of_block HH4.out) hba).trans HH4.out)
                  obtain ⟨g1, c1, b1, o1, d1, rfl, q1, q2, q3⟩ := hls5.nine (by rw [numL_len]; simp)
                  obtain rfl := hev5.none'
                  rw [show (numL 91 [7 * q, q, 65536, 32768]).getD 0 0 = 91 from rfl] at q2
                  rw [show (numL 91 [7 * q, q, 65536, 32768]).length = 17 from by rw [numL_len]; rfl] at q1
                  rw [HX8.out] at q3
                  have hc8 := HH6.out.cell q (by omega)
                  have hf8 : ∀ i, w5.frozen? ⟨bh, i, none⟩ = false := fun i => frozen_row HH6.out i
                  have HSET := hidden (HH6.out.set q true)
                  clear hls5 hev5 hm5 hk5 HDO HI4 HH4
                  go_wp2_with fail
                  go_roundw
                  case rel => exact ⟨j + 1, hs.set q true, by omega, by go_num, by simp [hl4], HI6.out.set hba hge, HSET.out⟩
                  case measure => simp [intOf]; omega
                · have hF4' : q = 4 := by omega
                  subst hF4'
                  rw [if_neg hF4] at HFO
                  go_wp2_with fail
                  refine (HP1.out 4 w3 (by omega)).mono ?_
                  rintro e w4 ⟨v4, xs, rfl, hb4, hl4', rfl, _, hbl4⟩
                  have HI4 := hidden (HI.out.fresh hbl4)
                  have HH4 : Hid (HB w4 bh hs) := hidden ((hbl4.block _ (lt_of_block HH.out)).trans HH.out)
                  have HDO := hidden (Do_c v4 _ w4 HI4.out.m HOK.out (by omega) hb4 (by omega))
                  rw [HFO.out] at HDO
                  clear hb4 hl4' hbl4 HI HH
                  go_wp2_with fail
                  refine HDO.out.mono ?_
                  rintro e w5 ⟨u1, u2, rfl, hls5, hev5, hm5, hk5⟩
                  have HI6 := hidden (HI4.out.done hm5 hk5)
                  have HH6 : Hid (HB w5 bh hs) := hidden ((hk5.block _ (lt_of_block HH4.out) hba).trans HH4.out)
                  obtain ⟨g1, c1, b1, o1, d1, rfl, q1, q2, q3⟩ := hls5.nine (by decide)
                  obtain rfl := hev5.none'
                  rw [show (refL 28 4).getD 0 0 = 92 from rfl] at q2
                  rw [show (refL 28 4).length = 17 from by decide] at q1
                  skip
                  clear hls5 hev5 hm5 hk5 HDO HI4 HH4
                  go_wp2_with fail
                  go_roundw
                  case rel => exact ⟨j + 1, hs, by omega, by go_num, by exact hl4, HI6.out, HH6.out⟩
                  case measure => simp [intOf]; omega
      · have i2 : ¬ (j : Int) < 40 := by omega
        go_wp2_with fail
        refine HD.out.mono ?_
        rintro e w5 ⟨rfl, rfl⟩
        go_wp2_with fail
        refine (HK.out _).mono ?_
        rintro e w7 ⟨rfl, hb7⟩
        have HB7 := hidden (HENDF.out.trans (hb7.mono HENDF.out.size))
        clear hb7
        go_wp2_with fail
        go_ret
        exact ⟨rfl, HB7.out⟩
    · have i1 : ¬ (j : Int) < (zs.length : Int) := by omega
      go_wp2_with fail
      refine HD.out.mono ?_
      rintro e w5 ⟨rfl, rfl⟩
      go_wp2_with fail
      refine (HK.out _).mono ?_
      rintro e w7 ⟨rfl, hb7⟩
      have HB7 := hidden (HENDF.out.trans (hb7.mono HENDF.out.size))
      clear hb7
      go_wp2_with fail
      go_ret
      exact ⟨rfl, HB7.out⟩
end Go.Proofs.Ytnimdbjbkoggdab
