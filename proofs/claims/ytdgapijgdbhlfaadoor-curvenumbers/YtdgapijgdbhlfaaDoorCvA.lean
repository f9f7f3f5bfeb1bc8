/- The walk of the law CurveLow. -/
import Derived.Test.YtdgapijgdbhlfaaDoorCuY
namespace Go.Proofs.YtdgapijgdbhlfaaDoor
open Go Go.RowKit

theorem Tryd.infoSl : (Tryd.prog.info? 22).map (fun i => (i.zero, i.size)) = some (some (.slice none 0 0), 1) := by kernel_rfl
section
variable {o : Oper} {ρ : Operand → Value} {w : World} {Φ : Value → World → Prop}
theorem gives_lit3 {x y z : Operand} {a0 a1 a2 : Option Addr} {n0 c0 n1 c1 n2 c2 : Nat} (ho : o.op = .buildSlice 29 3 #[(0, x), (1, y), (2, z)]) (hx : ρ x = .slice a0 n0 c0) (hy : ρ y = .slice a1 n1 c1) (hz : ρ z = .slice a2 n2 c2)
    (h : Φ (.slice (some ⟨w.heap.size, 0, none⟩) 3 3) (w.alloc (.cells #[.slice a0 n0 c0, .slice a1 n1 c1, .slice a2 n2 c2] 22))) : Gives Tryd.prog o ρ w Φ := by
  obtain ⟨i0, hi, hz0, hz1⟩ : ∃ i0, Tryd.prog.info? 22 = some i0 ∧ i0.zero = some (.slice none 0 0) ∧ i0.size = 1 := by
    have := Tryd.infoSl
    cases hq : Tryd.prog.info? 22 with
    | none => rw [hq] at this; simp at this
    | some i => rw [hq] at this; simp at this; exact ⟨i, rfl, this⟩
  refine Gives.value ?_ h
  unfold execOp
  simp only [ho]
  have hb := run_buildSlice (P := Tryd.prog) w 29 22 3 (#[((0 : Nat), x), (1, y), (2, z)].map fun (i, x) => (i, ρ x)) #[.slice a0 n0 c0, .slice a1 n1 c1, .slice a2 n2 c2] i0 (.slice none 0 0) Tryd.underlying29 hi hz0 (by rw [hz1]; omega) (by rw [hz1]; omega) (by rw [hz1]; simp only [List.map_toArray, List.map_cons, List.map_nil, hx, hy, hz]; kernel_rfl)
  rw [Sem.run_bind, hb]
  rfl
theorem gives_len3 {x : Operand} {g : Nat} (ho : o.op = .call { callee := .builtin .len, args := #[x], argTypes := #[29] }) (hx : ρ x = .slice (some ⟨g, 0, none⟩) 3 3) (h : Φ (.int .i64 3) w) : Gives Tryd.prog o ρ w Φ := by
  refine Gives.value (v := .int .i64 3) (w' := w) ?_ h
  unfold execOp
  simp only [ho]
  simp [resolve, invoke, builtin, hx, Builtin.len_, run_underlying Tryd.underlying29, goInt]
end
/-- What the region that lists the three points leaves. -/
def LF (B : Nat) (v6 : Value) : Nat → Value → World → Prop
  | 0, v, w => ∃ g, v = .slice (some ⟨g, 0, none⟩) 32 32 ∧ BSl w v (List.replicate 32 0)
  | 1, v, w => ∃ g, v = .slice (some ⟨g, 0, none⟩) 1 1 ∧ w.heap[g]? = some (.cells (bcells [1]).toArray 5 (0, 0))
  | 2, v, w => ∃ ao cap, v = .slice ao 32 cap ∧ BSl w v (1 :: List.replicate 31 0)
  | 3, v, _ => v = v6
  | 4, v, w => ∃ g v0 v1, v = .slice (some ⟨g, 0, none⟩) 3 3 ∧ B ≤ g ∧ w.heap[g]? = some (.cells #[v0, v1, v6] 22 (0, 0)) ∧ BSl w v0 (List.replicate 32 0) ∧ BSl w v1 (1 :: List.replicate 31 0)
  | 5, v, _ => v = .int .i64 3
  | 6, v, _ => v = .int .i64 0
  | _, _, _ => True
theorem LF.ext (B : Nat) (v6 : Value) (i : Nat) (v : Value) (x y : World) (he : Ex x y) (h : LF B v6 i v x) : LF B v6 i v y := by
  match i, h with
  | 0, ⟨g, h1, h2⟩ => exact ⟨g, h1, h2.fresh he⟩
  | 1, ⟨g, h1, h2⟩ => exact ⟨g, h1, by rw [he.block _ (lt_of_block h2)]; exact h2⟩
  | 2, ⟨ao, cap, h1, h2⟩ => exact ⟨ao, cap, h1, h2.fresh he⟩
  | 3, h => exact h
  | 4, ⟨g, v0, v1, h1, h2, h3, h4, h5⟩ => exact ⟨g, v0, v1, h1, h2, by rw [he.block _ (lt_of_block h3)]; exact h3, h4.fresh he, h5.fresh he⟩
  | 5, h => exact h
  | 6, h => exact h
  | _ + 7, _ => trivial

set_option maxHeartbeats 1600000 in
set_option maxRecDepth 100000 in
theorem curveLow_c (v0 : Value) (z0 : List UInt8) (small : UInt8) (w : World) (htp : Tp w) (h0 : BSl w v0 z0) :
    Calls Tryd.prog 7 #[v0, .int .u8 (small.toNat : Nat)] w fun e w' => e = .returned (.bool true) ∧ Below w.heap.size w w' := by
  obtain ⟨i0, hi, hz0, hz1, hz2⟩ := info_parts Tryd.infoU8
  have HTP := hidden htp
  have HS0 := hidden (sized_b 32 (by omega) v0 z0 w h0)
  obtain ⟨a0, n0, rfl⟩ := h0.len
  clear h0 htp
  go_enter Tryd.func7, Tryd.ntmps7
  go_wp2_with fail
  refine HS0.out.mono ?_
  rintro e w1 ⟨rfl, hk, hb1⟩
  have hkl := sizedL_length z0 32
  generalize sizedL z0 32 = key at hk hkl
  have HK1 := hidden hk
  have HKL := hidden hkl
  have HB1 := hidden hb1
  clear HS0 hk hkl hb1
  have HMK := made_run 32 (by omega) w1
  rw [show ((32 : Nat) : Int) = 32 from rfl] at HMK
  have HZ1 := BSl.zeros w1 32 (by omega)
  have hst := run_string HZ1
  have HX2 : Hid (Ex w1 (w1.alloc (.cells (bcells (List.replicate 32 0)).toArray 5))) := Ex.alloc w1 _
  obtain ⟨ST, hST⟩ : ∃ ST : ByteArray, ST = ⟨(List.replicate 32 (0 : UInt8)).toArray⟩ := ⟨_, rfl⟩
  rw [← hST] at hst
  have HST := hidden hST
  generalize w1.alloc (.cells (bcells (List.replicate 32 0)).toArray 5) = w2 at HMK hst HX2 HZ1
  clear HZ1 hST
  go_upto_region 3 with fail
  have HB2 := hidden (Ex.trans HB1.out HX2.out)
  have HK2 := hidden (HK1.out.fresh HX2.out)
  clear HMK hst HX2 HB1 HK1
  go_wp2_with fail
  obtain ⟨g2, hg2⟩ : ∃ x, x = w2.heap.size := ⟨_, rfl⟩
  have hA : (w2.alloc (.cells #[.int .u8 236] 5)).heap[g2]? = some (.cells (bcells [236]).toArray 5 (0, 0)) := by rw [hg2]; exact heap_alloc_new w2 _
  have hB : ((w2.alloc (.cells #[.int .u8 236] 5)).alloc (.cells #[.int .u8 255] 5)).heap[g2 + 1]? = some (.cells (bcells [255]).toArray 5 (0, 0)) := by
    have := heap_alloc_new (w2.alloc (.cells #[.int .u8 236] 5)) (.cells #[.int .u8 255] 5)
    rw [show (w2.alloc (.cells #[.int .u8 236] 5)).heap.size = g2 + 1 by rw [hg2]; simp] at this
    exact this
  have xA : Ex w2 (w2.alloc (.cells #[.int .u8 236] 5)) := Ex.alloc w2 _
  have xB : Ex (w2.alloc (.cells #[.int .u8 236] 5)) ((w2.alloc (.cells #[.int .u8 236] 5)).alloc (.cells #[.int .u8 255] 5)) := Ex.alloc _ _
  have hA2 : ((w2.alloc (.cells #[.int .u8 236] 5)).alloc (.cells #[.int .u8 255] 5)).heap[g2]? = some (.cells (bcells [236]).toArray 5 (0, 0)) := by rw [xB.block _ (lt_of_block hA)]; exact hA
  have xAB := xA.trans xB
  rw [← hg2]
  generalize (w2.alloc (.cells #[.int .u8 236] 5)).alloc (.cells #[.int .u8 255] 5) = w3 at hB hA2 xAB ⊢
  have HSZ := hidden (sized_b 30 (by omega) _ [255] w3 (BSl.ofBlock hB (by decide)))
  obtain ⟨F30, hF30⟩ : ∃ F, F = List.replicate 30 (255 : UInt8) := ⟨_, rfl⟩
  rw [sized_255, ← hF30] at HSZ
  have HF := hidden hF30
  clear hF30
  have HA3 := hidden hA2
  have HX3 := hidden xAB
  have HG2 := hidden hg2
  clear hA hB xA xB hA2 xAB hg2
  refine HSZ.out.mono ?_
  rintro e w4 ⟨rfl, hs4, hb4⟩
  have hA4 : w4.heap[g2]? = some (.cells (bcells [236]).toArray 5 (0, 0)) := by rw [hb4.block _ (lt_of_block HA3.out)]; exact HA3.out
  have HX4 : Hid (Ex w2 w4) := HX3.out.trans hb4
  have HOW : Hid (w4.ownsRow g2 5 1 (.slice (some ⟨g2, 0, none⟩) 1 1) 1 (bcells [236])) := own_block hA4 (Nat.le_refl _) (by decide)
  have hso := hs4.src
  rw [show F30.length = 30 by rw [HF.out]; rfl] at hso
  have HSO := hidden hso
  have hsz4 : g2 ≤ w4.heap.size := by have := lt_of_block hA4; omega
  clear HSZ hs4 hb4 hA4 hso HX3 HA3
  generalize w3.heap.size = g3 at HSO ⊢
  go_wp2_with (refine wpList_append_src _ rfl (.tmp 22) (.tmp 24) 22 22 rfl g2 5 i0 _ 1 Tryd.underlying22 hi hz0 hz1 hz2 rfl (.slice (some ⟨g2, 0, none⟩) 1 1) 1 _ rfl HOW.out _ 30 _ rfl HSO.out (by unfold maxLen; omega) (by omega) hsz4 w4.heap.size rfl ?_)
  intro v25 w5 ho5 hgr5 _ _
  have hb5 : Below g2 w2 w5 := (Below.mono HX4.out (by rw [HG2.out]; exact Nat.le_refl _)).grown hgr5 hsz4 (fun k hk => (HOW.out.lt k hk).1)
  have hsz5 : g2 ≤ w5.heap.size := Nat.le_trans (by rw [HG2.out]; exact Nat.le_refl _) hb5.size
  rw [← bcells_append] at ho5
  have HO5 := hidden ho5
  have HB5 := hidden hb5
  obtain ⟨a25, c25, rfl⟩ := ownsRow_shape ho5
  clear ho5 hgr5 hb5 HOW HSO HX4 hsz4
  go_wp2_with (refine wpList_append_src _ rfl (.tmp 25) (.tmp 26) 22 22 rfl g2 5 i0 _ 1 Tryd.underlying22 hi hz0 hz1 hz2 rfl (.slice a25 31 c25) 31 _ rfl (HO5.out.alloc _) _ 1 _ rfl (srcAt (by rfl) (heap_alloc_new w5 _)) (by unfold maxLen; omega) (by omega) (by simp; omega) (w5.heap.size + 1) (by simp) ?_)
  intro v27 w6 ho6 hgr6 _ _
  have hx5 : Below g2 w2 (w5.alloc (.cells #[.int .u8 127] 5)) := HB5.out.alloc hsz5 _
  have hb6 : Below g2 w2 w6 := hx5.grown hgr6 (by simp; omega) (fun k hk => (HO5.out.lt k hk).1)
  have HP6 : Hid (BSl w6 v27 (236 :: endL)) := by
    refine BSl.ofRow (base := g2) (n := 32) ?_
    rw [show 236 :: endL = ([236] ++ F30) ++ [127] by rw [HF.out]; rfl, bcells_append ([236] ++ F30) [127]]
    exact ho6
  have hx6 : Ex w2 w6 := by have := hb6; rw [HG2.out] at this; exact this
  have HB6 := hidden (Ex.trans HB2.out hx6)
  have HK6 := hidden (HK2.out.fresh hx6)
  obtain ⟨a27, c27, rfl⟩ := ownsRow_shape ho6
  clear ho6 hgr6 hb6 hx5 hx6 HO5 HB5 HB2 HK2 HG2 hsz5 hi hz0 hz1 hz2
  go_wp2_with fail
  refine region_ex 7 (by kernel_rfl) (LF w6.heap.size (.slice a27 32 c27)) (LF.ext _ _) (fun _ _ _ _ => True) ?_ ?_
  · refine eachL_take (fun vs wx he hd => gives_make (by kernel_rfl) (by kernel_rfl) ⟨Ex.alloc wx _, ⟨_, rfl, BSl.zeros wx 32 (by omega)⟩, fun _ _ _ _ => trivial⟩) ?_
    refine eachL_take (fun vs wx he hd => gives_lit1 (y := 1) (by kernel_rfl) (by kernel_rfl) ⟨Ex.alloc wx _, ⟨_, rfl, heap_alloc_new wx _⟩, fun _ _ _ _ => trivial⟩) ?_
    refine eachL_take (fun vs wx he hd => ?_) ?_
    · obtain ⟨g, e1, e2⟩ := hd 1 (by decide) (by kernel_rfl)
      refine gives_grow (s := .tmp 29) (g := g) (xs := [1]) (base := 0) (by kernel_rfl) (Eq.trans (b := vs 1) (by kernel_rfl) e1) (by kernel_rfl) (own_block e2 (Nat.zero_le _) (by decide)) fun v wy h1 h2 => ?_
      obtain ⟨ao, cap, rfl⟩ := ownsRow_shape h1
      exact ⟨h2, ⟨ao, cap, rfl, BSl.ofRow h1⟩, fun _ _ _ _ => trivial⟩
    refine eachL_take (fun vs wx he hd => gives_move (x := .tmp 6) (by kernel_rfl) ⟨Ex.refl wx, (by show _ = _; kernel_rfl), fun _ _ _ _ => trivial⟩) ?_
    refine eachL_take (fun vs wx he hd => ?_) ?_
    · obtain ⟨g, e1, e2⟩ := hd 0 (by decide) (by kernel_rfl)
      obtain ⟨ao, cap, e3, e4⟩ := hd 2 (by decide) (by kernel_rfl)
      have e5 := hd 3 (by decide) (by kernel_rfl)
      refine gives_lit3 (x := .tmp 28) (y := .tmp 30) (z := .tmp 31) (by kernel_rfl) (Eq.trans (b := vs 0) (by kernel_rfl) e1) (Eq.trans (b := vs 2) (by kernel_rfl) e3) (Eq.trans (b := vs 3) (by kernel_rfl) e5) ⟨Ex.alloc wx _, ⟨_, _, _, rfl, he.size, heap_alloc_new wx _, ?_, ?_⟩, fun _ _ _ _ => trivial⟩
      · rw [← e1]; exact e2.fresh (Ex.alloc wx _)
      · rw [← e3]; exact e4.fresh (Ex.alloc wx _)
    refine eachL_take (fun vs wx he hd => ?_) ?_
    · obtain ⟨g, y0, y1, e1, _⟩ := hd 4 (by decide) (by kernel_rfl)
      exact gives_len3 (x := .tmp 32) (g := g) (by kernel_rfl) (Eq.trans (b := vs 4) (by kernel_rfl) e1) ⟨Ex.refl wx, rfl, fun _ _ _ _ => trivial⟩
    refine eachL_take (fun vs wx he hd => gives_move (x := .const (.int .i64 0)) (by kernel_rfl) ⟨Ex.refl wx, rfl, fun _ _ _ _ => trivial⟩) ?_
    exact eachL_zero
  intro vs w7 hx7 hF _
  refine wpAny_done (by kernel_rfl) ?_ 0
  obtain ⟨g7, y0, y1, e4, hg7, hc7, hy0, hy1⟩ := hF 4 (by omega)
  have e5 := hF 5 (by omega)
  have e6 := hF 6 (by omega)
  have e3 := hF 3 (by omega)
  have HB7 := hidden (Ex.trans HB6.out hx7)
  have HK7 := hidden (HK6.out.fresh hx7)
  have HP7 := hidden (HP6.out.fresh hx7)
  have HC7 := hidden hc7
  have HY0 := hidden hy0
  have HY1 := hidden hy1
  simp only [actsTo, if_true, dstOf, List.getElem?_toArray, List.getElem?_cons_succ, List.getElem?_cons_zero, Option.bind_some, Act.put, List.setIfInBounds_toArray, List.set_cons_zero, List.set_cons_succ]
  rw [e4, e3]
  change vs 5 = _ at e5
  change vs 6 = _ at e6
  rw [e5, e6]
  generalize vs 0 = q0
  generalize vs 1 = q1
  generalize vs 2 = q2
  clear vs hF e3 e4 e5 e6 hx7 hc7 hy0 hy1 hg7 HB6 HK6 HP6
  obtain ⟨ya, yc, hye⟩ := HY0.out.len
  obtain ⟨xa, xc, hxe⟩ := HY1.out.len
  rw [show (List.replicate 32 (0 : UInt8)).length = 32 from rfl] at hye
  rw [show (1 :: List.replicate 31 (0 : UInt8)).length = 32 from rfl] at hxe
  subst hye
  subst hxe
  go_wp2_with fail
  go_loopw [34] (fun c wr => ∃ i : Nat, i ≤ 3 ∧ c = .int .i64 (i : Int) ∧ Ex w7 wr) (fun c _ => 3 - (intOf c).toNat)
  case atStart => exact ⟨0, by omega, rfl, Ex.refl w7⟩
  case round =>
    obtain ⟨i, hi, rfl, he⟩ := hrel
    have HE := hidden he
    clear he
    by_cases hlt : i < 3
    · rcases (show i = 0 ∨ i = 1 ∨ i = 2 by omega) with rfl | rfl | rfl
      · have hc := cell_row (cs := [.slice ya 32 yc, .slice xa 32 xc, .slice a27 32 c27]) (show wr.heap[g7]? = some (.cells _ _ (0, 0)) by rw [HE.out.block _ (lt_of_block HC7.out)]; exact HC7.out) 0
        rw [show [Value.slice ya 32 yc, .slice xa 32 xc, .slice a27 32 c27][0]? = some (.slice ya 32 yc) from rfl] at hc
        have HM := hidden (Mul_c _ _ key (List.replicate 32 0) wr ((HTP.out.fresh HB7.out).fresh HE.out) (HK7.out.fresh HE.out) (HY0.out.fresh HE.out))
        rw [mul_zero key HKL.out] at HM
        go_wp2_with fail
        refine HM.out.mono ?_
        intro e w8 hT
        obtain ⟨g8, rfl, h8⟩ := hT.bsl ⟨HKL.out, by decide +kernel⟩ (by decide +kernel)
        have hs8 := run_string h8
        rw [← HST.out] at hs8
        have HE8 : Hid (Ex w7 w8) := Ex.trans HE.out hT.b
        clear hT h8 HM hc HE
        go_wp2
        go_roundw
        case rel => exact ⟨1, by omega, by go_num, HE8.out⟩
        case measure => simp [intOf]
      · have hc := cell_row (cs := [.slice ya 32 yc, .slice xa 32 xc, .slice a27 32 c27]) (show wr.heap[g7]? = some (.cells _ _ (0, 0)) by rw [HE.out.block _ (lt_of_block HC7.out)]; exact HC7.out) 1
        rw [show [Value.slice ya 32 yc, .slice xa 32 xc, .slice a27 32 c27][1]? = some (.slice xa 32 xc) from rfl] at hc
        have HM := hidden (Mul_c _ _ key (1 :: List.replicate 31 0) wr ((HTP.out.fresh HB7.out).fresh HE.out) (HK7.out.fresh HE.out) (HY1.out.fresh HE.out))
        rw [mul_one key HKL.out] at HM
        go_wp2_with fail
        refine HM.out.mono ?_
        intro e w8 hT
        obtain ⟨g8, rfl, h8⟩ := hT.bsl ⟨HKL.out, by decide +kernel⟩ (by decide +kernel)
        have hs8 := run_string h8
        rw [← HST.out] at hs8
        have HE8 : Hid (Ex w7 w8) := Ex.trans HE.out hT.b
        clear hT h8 HM hc HE
        go_wp2
        go_roundw
        case rel => exact ⟨2, by omega, by go_num, HE8.out⟩
        case measure => simp [intOf]
      · have hc := cell_row (cs := [.slice ya 32 yc, .slice xa 32 xc, .slice a27 32 c27]) (show wr.heap[g7]? = some (.cells _ _ (0, 0)) by rw [HE.out.block _ (lt_of_block HC7.out)]; exact HC7.out) 2
        rw [show [Value.slice ya 32 yc, .slice xa 32 xc, .slice a27 32 c27][2]? = some (.slice a27 32 c27) from rfl] at hc
        have HM := hidden (Mul_c _ _ key (236 :: endL) wr ((HTP.out.fresh HB7.out).fresh HE.out) (HK7.out.fresh HE.out) (HP7.out.fresh HE.out))
        rw [mul_last key HKL.out] at HM
        go_wp2_with fail
        refine HM.out.mono ?_
        intro e w8 hT
        obtain ⟨g8, rfl, h8⟩ := hT.bsl ⟨HKL.out, by decide +kernel⟩ (by decide +kernel)
        have hs8 := run_string h8
        rw [← HST.out] at hs8
        have HE8 : Hid (Ex w7 w8) := Ex.trans HE.out hT.b
        clear hT h8 HM hc HE
        go_wp2
        go_roundw
        case rel => exact ⟨3, by omega, by go_num, HE8.out⟩
        case measure => simp [intOf]
    · have hlt' : ¬ (i : Int) < 3 := by omega
      obtain rfl : i = 3 := by omega
      have HB8 := hidden (Ex.trans HB7.out HE.out)
      have HK8 := hidden (HK7.out.fresh HE.out)
      have HTP8 := hidden ((HTP.out.fresh HB7.out).fresh HE.out)
      clear HY0 HY1 HP7 HC7 HB7 HK7 HTP HE
      obtain ⟨n, hn⟩ : ∃ n, n = small.toNat % 19 := ⟨_, rfl⟩
      have hn1 : ((small.toNat : Nat) : Int).tmod 19 = (n : Int) := by rw [Int.tmod_eq_emod_of_nonneg (by omega), hn]; omega
      have hn19 : n < 19 := by omega
      have HN := hidden hn
      clear hn
      generalize small.toNat = sm at hn1 HN ⊢
      obtain ⟨j0, ji, jz0, jz1, jz2⟩ := info_parts Tryd.infoU8
      obtain ⟨nb, hnb⟩ : ∃ nb : UInt8, nb = UInt8.ofNat n := ⟨_, rfl⟩
      obtain ⟨mb, hmb⟩ : ∃ mb : UInt8, mb = UInt8.ofNat (237 + n) := ⟨_, rfl⟩
      have hnb2 : nb.toNat = n := by rw [hnb, UInt8.toNat_ofNat']; omega
      have hmb2 : mb.toNat = 237 + n := by rw [hmb, UInt8.toNat_ofNat']; omega
      have HSAME := hidden (mul_same key nb mb (by omega) (by omega))
      have hN0 : (wr.alloc (.cells #[.int .u8 (n : Int)] 5)).heap[wr.heap.size]? = some (.cells (bcells [nb]).toArray 5 (0, 0)) := by
        rw [show (bcells [nb]).toArray = #[.int .u8 (n : Int)] by simp [bcells, hnb2]]
        exact heap_alloc_new wr _
      obtain ⟨v12, w9, hr9, ho9, hb9⟩ := run_append_grow (wr.alloc (.cells #[.int .u8 (n : Int)] 5)) 0 wr.heap.size 1 1 31 [nb] 22 (own_block hN0 (Nat.zero_le _) (by simp)) (by omega) (by omega) (by omega)
      rw [show ((31 : Nat) : Int) = 31 from rfl] at hr9
      have hx9 : Ex wr w9 := (Ex.alloc wr _).trans hb9
      have HP9 : Hid (BSl w9 v12 (nb :: List.replicate 31 0)) := BSl.ofRow ho9
      have HX9 := hidden hx9
      obtain ⟨a12, c12, rfl⟩ := ownsRow_shape ho9
      have HMB : Hid (mb.toNat = 237 + n) := hmb2
      clear hN0 ho9 hb9 hx9 hnb hmb hnb2 hmb2
      go_wp2_with (refine Lib.wpList_append_run _ rfl (.tmp 56) (.const (.int .i64 31)) 22 3 rfl _ _ rfl rfl _ _ hr9 ?_)
      clear hr9
      obtain ⟨g2', hg2⟩ : ∃ x, x = w9.heap.size := ⟨_, rfl⟩
      have hA : (w9.alloc (.cells #[.int .u8 (237 + (n : Int))] 5)).heap[g2']? = some (.cells (bcells [mb]).toArray 5 (0, 0)) := by
        rw [show (bcells [mb]).toArray = #[.int .u8 (237 + (n : Int))] by simp [bcells, HMB.out], hg2]
        exact heap_alloc_new w9 _
      have hB : ((w9.alloc (.cells #[.int .u8 (237 + (n : Int))] 5)).alloc (.cells #[.int .u8 255] 5)).heap[g2' + 1]? = some (.cells (bcells [255]).toArray 5 (0, 0)) := by
        have := heap_alloc_new (w9.alloc (.cells #[.int .u8 (237 + (n : Int))] 5)) (.cells #[.int .u8 255] 5)
        rw [show (w9.alloc (.cells #[.int .u8 (237 + (n : Int))] 5)).heap.size = g2' + 1 by rw [hg2]; simp] at this
        exact this
      have xA : Ex w9 (w9.alloc (.cells #[.int .u8 (237 + (n : Int))] 5)) := Ex.alloc w9 _
      have xB : Ex (w9.alloc (.cells #[.int .u8 (237 + (n : Int))] 5)) ((w9.alloc (.cells #[.int .u8 (237 + (n : Int))] 5)).alloc (.cells #[.int .u8 255] 5)) := Ex.alloc _ _
      have hA2 : ((w9.alloc (.cells #[.int .u8 (237 + (n : Int))] 5)).alloc (.cells #[.int .u8 255] 5)).heap[g2']? = some (.cells (bcells [mb]).toArray 5 (0, 0)) := by rw [xB.block _ (lt_of_block hA)]; exact hA
      have xAB := xA.trans xB
      rw [← hg2]
      generalize (w9.alloc (.cells #[.int .u8 (237 + (n : Int))] 5)).alloc (.cells #[.int .u8 255] 5) = w10 at hB hA2 xAB ⊢
      have HSZ := hidden (sized_b 30 (by omega) _ [255] w10 (BSl.ofBlock hB (by decide)))
      rw [sized_255, ← HF.out] at HSZ
      have HA3 := hidden hA2
      have HX3 := hidden xAB
      have HG2 := hidden hg2
      clear hA hB xA xB hA2 xAB hg2
      refine HSZ.out.mono ?_
      rintro e w11 ⟨rfl, hs4, hb4⟩
      have hA4 : w11.heap[g2']? = some (.cells (bcells [mb]).toArray 5 (0, 0)) := by rw [hb4.block _ (lt_of_block HA3.out)]; exact HA3.out
      have HX4 : Hid (Ex w9 w11) := HX3.out.trans hb4
      have HOW : Hid (w11.ownsRow g2' 5 1 (.slice (some ⟨g2', 0, none⟩) 1 1) 1 (bcells [mb])) := own_block hA4 (Nat.le_refl _) (by simp)
      have hso := hs4.src
      rw [show F30.length = 30 by rw [HF.out]; rfl] at hso
      have HSO := hidden hso
      have hsz4 : g2' ≤ w11.heap.size := by have := lt_of_block hA4; omega
      clear HSZ hs4 hb4 hA4 hso HX3 HA3
      generalize w10.heap.size = g10 at HSO ⊢
      go_wp2_with (refine wpList_append_src _ rfl (.tmp 60) (.tmp 62) 22 22 rfl g2' 5 j0 _ 1 Tryd.underlying22 ji jz0 jz1 jz2 rfl (.slice (some ⟨g2', 0, none⟩) 1 1) 1 _ rfl HOW.out _ 30 _ rfl HSO.out (by unfold maxLen; omega) (by omega) hsz4 w11.heap.size rfl ?_)
      intro v63 w12 ho5 hgr5 _ _
      have hb5 : Below g2' w9 w12 := (Below.mono HX4.out (by rw [HG2.out]; exact Nat.le_refl _)).grown hgr5 hsz4 (fun k hk => (HOW.out.lt k hk).1)
      have hsz5 : g2' ≤ w12.heap.size := Nat.le_trans (by rw [HG2.out]; exact Nat.le_refl _) hb5.size
      rw [← bcells_append] at ho5
      have HO5 := hidden ho5
      have HB5 := hidden hb5
      obtain ⟨a63, c63, rfl⟩ := ownsRow_shape ho5
      clear ho5 hgr5 hb5 HOW HSO HX4 hsz4
      go_wp2_with (refine wpList_append_src _ rfl (.tmp 63) (.tmp 64) 22 22 rfl g2' 5 j0 _ 1 Tryd.underlying22 ji jz0 jz1 jz2 rfl (.slice a63 31 c63) 31 _ rfl (HO5.out.alloc _) _ 1 _ rfl (srcAt (by rfl) (heap_alloc_new w12 _)) (by unfold maxLen; omega) (by omega) (by simp; omega) (w12.heap.size + 1) (by simp) ?_)
      intro v65 w13 ho6 hgr6 _ _
      have hx5 : Below g2' w9 (w12.alloc (.cells #[.int .u8 127] 5)) := HB5.out.alloc hsz5 _
      have hb6 : Below g2' w9 w13 := hx5.grown hgr6 (by simp; omega) (fun k hk => (HO5.out.lt k hk).1)
      have HQ13 : Hid (BSl w13 v65 (mb :: endL)) := by
        refine BSl.ofRow (base := g2') (n := 32) ?_
        rw [show mb :: endL = ([mb] ++ F30) ++ [127] by rw [HF.out]; rfl, bcells_append ([mb] ++ F30) [127]]
        exact ho6
      have hx6 : Ex w9 w13 := by have := hb6; rw [HG2.out] at this; exact this
      have hx13 := HX9.out.trans hx6
      have HB13 := hidden (Ex.trans HB8.out hx13)
      have HK13 := hidden (HK8.out.fresh hx13)
      have HTP13 := hidden (HTP8.out.fresh hx13)
      have HP13 := hidden (HP9.out.fresh hx6)
      obtain ⟨a65, c65, rfl⟩ := ownsRow_shape ho6
      clear ho6 hgr6 hb6 hx5 hx6 hx13 HO5 HB5 HB8 HK8 HTP8 HP9 HX9 HG2 hsz5 ji jz0 jz1 jz2
      have HM1 := hidden (Mul_c _ _ key (nb :: List.replicate 31 0) w13 HTP13.out HK13.out HP13.out)
      obtain ⟨X, hX⟩ : ∃ X, X = mulL key (mb :: endL) := ⟨_, rfl⟩
      have hXl : X.length = 32 := by rw [hX]; exact mulL_length _ _
      rw [HSAME.out, ← hX] at HM1
      have HXE := hidden hX
      have HXL := hidden hXl
      clear hX hXl
      go_wp2_with fail
      refine HM1.out.mono ?_
      intro e w14 hT
      obtain ⟨g14, rfl, h14⟩ := hT.bsl ⟨HKL.out, by simp⟩ HXL.out
      have hx14 : Ex w13 w14 := hT.b
      have HX14 := hidden h14
      have HB14 := hidden (Ex.trans HB13.out hx14)
      have HTP14 := hidden (HTP13.out.fresh hx14)
      have HM2 := hidden (Mul_c _ _ key (mb :: endL) w14 HTP14.out (HK13.out.fresh hx14) (HQ13.out.fresh hx14))
      rw [← HXE.out] at HM2
      clear hT h14 hx14 HM1 HB13 HTP13 HK13 HQ13 HP13
      go_wp2_with fail
      refine HM2.out.mono ?_
      intro e w15 hT
      obtain ⟨g15, rfl, h15⟩ := hT.bsl ⟨HKL.out, by simp [endL]⟩ HXL.out
      have hx15 : Ex w14 w15 := hT.b
      have hs1 := run_string (HX14.out.fresh hx15)
      have hs2 := run_string h15
      have HB15 := hidden (Ex.trans HB14.out hx15)
      have HTP15 := hidden (HTP14.out.fresh hx15)
      generalize (⟨X.toArray⟩ : ByteArray) = XS at hs1 hs2
      have HKN := hidden (known_c w15 HTP15.out)
      clear hT h15 hx15 HM2 HX14 HB14 HTP14
      go_wp2_with fail
      refine HKN.out.mono ?_
      rintro e w16 ⟨rfl, hb16⟩
      have HB16 := hidden (Ex.trans HB15.out hb16)
      clear hb16 HKN HB15 HTP15 hs1 hs2
      go_wp2
      go_ret
      exact ⟨rfl, HB16.out⟩
end Go.Proofs.YtdgapijgdbhlfaaDoor
