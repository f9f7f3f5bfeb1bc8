/- kdf: Mac, Print, Derive, Hash. -/
import Derived.Test.YtookapglookphaaDoorXkB
import Derived.Lib.SmallJoins
import Derived.Lib.AppendZeros
namespace Go.Proofs.YtookapglookphaaDoor
section
open Go Go.RowKit
end
section
open Go Go.RowKit

theorem Own.nothing (w : World) : Own w w (.slice none 0 0) [] := ⟨World.ownsRow_nil _ _ _ _, Below.refl _ _⟩
set_option maxHeartbeats 400000 in
set_option maxRecDepth 100000 in
theorem grow_c (n : Nat) (hn : n ≤ 145000000000000) (w : World) :
    Calls Tryd.prog 75 #[.slice none 0 0, .int .i64 n] w fun e w' => ∃ v, e = .returned v ∧ Own w w' v [] := by
  obtain ⟨i0, hi, hz0, hz1, hz2⟩ := info_parts Tryd.infoU8
  by_cases h0 : n = 0
  · subst h0
    have HO := hidden (Own.nothing w)
    go_enter Tryd.func75, Tryd.ntmps75
    go_wp2
    go_ret
    exact ⟨_, rfl, HO.out⟩
  · have h1 : (0 : Int) < (n : Int) := by omega
    have hrun := Lib.run_append_nil_zeros (P := Tryd.prog) w 22 3 22 5 i0 (.int .u8 0) .i64 .i64 Tryd.underlying22 Tryd.underlying3 hi hz0 n (by omega) (by omega) (by omega) (by rw [hz2]; omega)
    have hge := grownCap_ge w n 0 5
    have hcm : grownCap w n 0 5 ≤ maxLen := grownCap_le_maxLen w n 0 _ (by unfold maxLen; omega)
    have HO : Hid (Own w (w.drew.alloc (.cells (Builtin.zeroCells (Value.int .u8 0).cells n ++ Builtin.zeroCells (Value.int .u8 0).cells (grownCap w n 0 5 - n)) 5)) (.slice (some ⟨w.heap.size, 0, none⟩) 0 (grownCap w n 0 5)) []) := by
      refine ⟨⟨rfl, .inr ⟨w.heap.size, _, _, rfl, Nat.le_refl _, heap_alloc_new w.drew _, Nat.zero_le _, hcm, ?_, ?_⟩⟩, ((Below.refl _ w).drew).alloc (Nat.le_refl _) _⟩
      · simp only [Array.size_append, size_zeroCells]
        simp [Value.cells]
        omega
      · rfl
    have HR := hidden hrun
    have hcap : 0 ≤ grownCap w n 0 5 := Nat.zero_le _
    clear hrun hcm
    generalize grownCap w n 0 5 = C at HO HR hge hcap
    generalize (w.drew.alloc (.cells (Builtin.zeroCells (Value.int .u8 0).cells n ++ Builtin.zeroCells (Value.int .u8 0).cells (C - n)) 5)) = w1 at HO HR
    go_enter Tryd.func75, Tryd.ntmps75
    go_wp2_with (at_builtin; refine Lib.wpList_append_run _ rfl (.tmp 20) (.tmp 21) 22 3 rfl _ _ rfl rfl _ _ HR.out ?_)
    go_ret
    exact ⟨_, rfl, HO.out⟩

def pre2 (xs ys : List UInt8) : Nat → List UInt8
  | 0 => []
  | 1 => xs
  | _ => xs ++ ys
theorem cell_kept {w w' : World} {a : Addr} {v : Value} (h : w.cell? a = some v) (hb : Below w.heap.size w w') : w'.cell? a = some v := (Keeps.ofFresh (S := fun _ => False) hb).cell h (fun h => h)
set_option maxHeartbeats 800000 in
set_option maxRecDepth 100000 in
theorem concat_c (B : Nat) (v0 v1 : Value) (xs ys : List UInt8) (hx : xs.length ≤ 400000000) (hy : ys.length ≤ 140737488400000) (hxy : xs.length + ys.length ≤ 140737488355328) (w : World) (k0 : w.cell? ⟨B, 0, none⟩ = some v0) (k1 : w.cell? ⟨B, 1, none⟩ = some v1) (h0 : BSl w v0 xs) (h1 : BSl w v1 ys) :
    Calls Tryd.prog 44 #[.slice (some ⟨B, 0, none⟩) 2 2] w fun e w' => Fresh w (xs ++ ys) e w' := by
  have H0 := hidden h0
  have H1 := hidden h1
  have K0 := hidden k0
  have K1 := hidden k1
  obtain ⟨a0, c0, rfl⟩ := h0.len
  obtain ⟨a1, c1, rfl⟩ := h1.len
  clear h0 h1
  go_enter Tryd.func44, Tryd.ntmps44
  go_wp2_with fail
  go_loopw [3, 11] (fun s c wr => ∃ j : Nat, j ≤ 2 ∧ c = .int .i64 (j : Int) ∧ s = .int .i64 ((pre2 xs ys j).length : Int) ∧ wr = w) (fun _ c _ => 2 - (intOf c).toNat)
  case atStart => exact ⟨0, by omega, rfl, rfl, rfl⟩
  case round =>
    obtain ⟨j, hj, rfl, rfl, rfl⟩ := hrel
    match j, hj with
    | 0, _ =>
      simp only [pre2, List.length_nil]
      go_wp2_with fail
      go_roundw
      case rel => exact ⟨1, by omega, rfl, rfl, trivial⟩
      case measure => simp [intOf]
    | 1, _ =>
      simp only [pre2]
      go_wp2_with fail
      go_roundw
      case rel => exact ⟨2, by omega, rfl, by simp, trivial⟩
      case measure => simp [intOf]
    | 2, _ =>
      simp only [pre2]
      obtain ⟨wo, e⟩ : ∃ x, x = wr := ⟨wr, rfl⟩
      subst e
      have HL : Hid ((xs ++ ys).length = xs.length + ys.length) := List.length_append
      rw [HL.out]
      go_wp2_with fail
      refine (grow_c (xs.length + ys.length) (by omega) wo).mono ?_
      rintro e w1 ⟨v, rfl, ho1⟩
      have HO1 := hidden ho1
      clear ho1
      go_wp2_with fail
      go_loopw [6, 27] (fun s c wx => ∃ j : Nat, j ≤ 2 ∧ c = .int .i64 (j : Int) ∧ Own wo wx s (pre2 xs ys j)) (fun _ c _ => 2 - (intOf c).toNat)
      case atStart => exact ⟨0, by omega, rfl, HO1.out⟩
      case round =>
        clear HO1
        obtain ⟨j, hj, rfl, ho⟩ := hrel
        have HO := hidden ho
        clear ho
        match j, hj with
        | 0, _ =>
          simp only [pre2] at HO
          have hc := cell_kept K0.out HO.out.b
          have HS := hidden (H0.out.fresh HO.out.b).src
          clear k0 k1
          go_wp2_with (at_builtin; (refine wpList_own _ rfl (.tmp 31) (.tmp 32) 22 rfl wo _ [] rfl HO.out _ xs rfl HS.out (by simp; omega) ?_))
          intro v4 w4 o4 _ _
          have O4 := hidden o4
          clear o4
          go_wp2
          go_roundw
          case rel => exact ⟨1, by omega, rfl, O4.out⟩
          case measure => simp [intOf]
        | 1, _ =>
          simp only [pre2] at HO
          have hc := cell_kept K1.out HO.out.b
          have HS := hidden (H1.out.fresh HO.out.b).src
          clear k0 k1
          go_wp2_with (at_builtin; (refine wpList_own _ rfl (.tmp 31) (.tmp 32) 22 rfl wo _ xs rfl HO.out _ ys rfl HS.out (by omega) ?_))
          intro v4 w4 o4 _ _
          have O4 := hidden o4
          clear o4
          go_wp2
          go_roundw
          case rel => exact ⟨2, by omega, rfl, O4.out⟩
          case measure => simp [intOf]
        | 2, _ =>
          simp only [pre2] at HO
          go_wp2
          go_ret
          exact HO.out.fresh
end
section
open Go Go.RowKit

/-- A key as a block: its sum, if it is longer than one, with noughts behind it. -/
def shortK (xs : List UInt8) : List UInt8 := if 64 < xs.length then sumL xs else xs
theorem shortK_le (xs : List UInt8) : (shortK xs).length ≤ 64 := by
  unfold shortK
  split
  · rw [sumL_length]; omega
  · omega
def keyL (xs : List UInt8) : List UInt8 := shortK xs ++ List.replicate (64 - (shortK xs).length) 0
theorem keyL_length (xs : List UInt8) : (keyL xs).length = 64 := by
  have := shortK_le xs
  simp [keyL]
  omega
def xorTo (K : List UInt8) (p : UInt8) : Nat → List UInt8
  | 0 => K
  | j + 1 => (xorTo K p j).set j ((xorTo K p j).getD j 0 ^^^ p)
theorem xorTo_length (K : List UInt8) (p : UInt8) (j : Nat) : (xorTo K p j).length = K.length := by
  induction j with
  | zero => rfl
  | succ j ih => rw [xorTo, List.length_set, ih]
def padL (xs : List UInt8) (p : UInt8) : List UInt8 := xorTo (keyL xs) p 64
theorem padL_length (xs : List UInt8) (p : UInt8) : (padL xs p).length = 64 := by rw [padL, xorTo_length, keyL_length]
theorem ORow.told {w w0 : World} {g : Nat} {xs : List UInt8} {v : Value} (h : ORow w w0.heap.size g 64 xs) (hl : xs.length = 64) (hb : Below w0.heap.size w0 w) (hv : v = .slice (some ⟨g, 0, none⟩) 64 64 := by rfl) : Fresh w0 xs (.returned v) w := by
  obtain ⟨h1, h2, h3, cur, h4, h5, h6⟩ := h
  subst hv
  refine ⟨_, rfl, ⟨by rw [bcells_length]; omega, .inr ⟨g, 64, cur, by rw [hl], h1, h4, by omega, h3, by omega, ?_⟩⟩, hb⟩
  rw [Nat.mul_one]
  exact h6

theorem ORow.copied {w : World} {base g : Nat} {K : List UInt8} (hK : K.length ≤ 64) (h : w.heap[g]? = some (.cells (bcells K ++ (bcells (List.replicate 64 0)).drop K.length).toArray 5 (0, 0))) (hg : base ≤ g) : ORow w base g 64 (K ++ List.replicate (64 - K.length) 0) := by
  have e : bcells K ++ (bcells (List.replicate 64 0)).drop K.length = bcells (K ++ List.replicate (64 - K.length) 0) := by
    rw [bcells_append]
    congr 1
    simp only [bcells, List.map_replicate, List.drop_replicate]
  rw [e] at h
  have hl : (K ++ List.replicate (64 - K.length) 0).length = 64 := by rw [List.length_append, List.length_replicate]; omega
  refine ⟨hg, by omega, by unfold maxLen; omega, _, h, by rw [List.size_toArray, bcells_length, hl], ?_⟩
  rw [hl, List.take_of_length_le (by rw [bcells_length, hl]; omega)]

set_option maxHeartbeats 1600000 in
set_option maxRecDepth 100000 in
theorem padded_c (v : Value) (xs : List UInt8) (p : UInt8) (hl : xs.length ≤ 1000000000) (w : World) (hr : Rw w) (hv : BSl w v xs) :
    Calls Tryd.prog 55 #[v, .int .u8 p.toNat] w fun e w' => Fresh w (padL xs p) e w' := by
  obtain ⟨i0, hi, hz0, hz1, hz2⟩ := info_parts Tryd.infoU8
  have HSz : Hid ((Tryd.prog.info? 5).map (·.size) = some 1) := by show _ = _; rw [hi]; simp [hz1]
  have HR := hidden hr
  have HV := hidden hv
  obtain ⟨ak, ck, rfl, hc1, hc2, _⟩ := hv
  unfold maxLen at hc2
  have HP : Hid (padL xs p = xorTo (keyL xs) p 64) := rfl
  rw [HP.out]
  clear HP hr
  by_cases h64 : 64 < xs.length
  · have h1 : (64 : Int) < (xs.length : Int) := by omega
    have HKe : Hid (sumL xs ++ List.replicate (64 - (sumL xs).length) 0 = keyL xs) := by show _ = _; unfold keyL shortK; rw [if_pos h64]
    go_enter Tryd.func55, Tryd.ntmps55
    go_wp2_with fail
    refine (Sum_c _ xs (by omega) _ HR.out HV.out).mono ?_
    rintro e w0 ⟨v0, rfl, ho0, hb0⟩
    have HB0 := hidden hb0
    have HL0 : Hid ((sumL xs).length = 32) := sumL_length xs
    rw [HL0.out] at ho0
    have hv0 := BSl.ofRow ho0
    obtain ⟨ak, ck, rfl⟩ := ownsRow_shape ho0
    have HV0 := hidden hv0
    have hc : 32 ≤ ck := by obtain ⟨_, _, e, h, _⟩ := hv0; cases e; rw [HL0.out] at h; omega
    clear ho0 hb0 hv0 HV HR hc1 hc2
    go_wp2_with (refine wpList_make_full _ rfl (.const (.int .i64 64)) (.const (.int .i64 64)) 22 rfl w.heap.size 5 i0 _ 1 Tryd.underlying22 hi hz0 hz1 .i64 .i64 _ _ 64 rfl rfl (by omega) (by omega) (by rw [hz2]; omega) (by unfold maxLen; omega) HB0.out.size ?_)
    intro w1 ho1 hgr1
    have hb1 : Below w.heap.size w w1 := HB0.out.grown hgr1 HB0.out.size (by simp)
    have hg1 : w1.heap[w0.heap.size]? = some (.cells (bcells (List.replicate 64 0)).toArray 5 (0, 0)) := by
      rcases ho1.2 with ⟨h, _⟩ | ⟨g, cp, cur, h1, h2, h3, h4, h5, h6, h7⟩
      · cases h
      · cases h1
        rw [h3]
        have : cur.toList = bcells (List.replicate 64 0) := by
          rw [← List.take_of_length_le (i := 64) (l := cur.toList) (by simp [h6])]
          simpa [bcells, toList_madeCells_one] using h7
        rw [← this]
    have hvk : BSl w1 (.slice ak 32 ck) (sumL xs) := HV0.out.keep (S := fun _ => False) (Keeps.ofGrown hgr1 (fun k e => by cases e)) (fun _ _ h => h)
    obtain ⟨w2, hcp, hg2, hb2⟩ := copy_run (xs := (sumL xs)) (N := 64) (by rw [HL0.out]; exact hvk) hb1 HB0.out.size hg1 (by rw [HL0.out]; rw [bcells_length, List.length_replicate]; omega) (by rw [HL0.out]; omega) HSz.out
    rw [HL0.out] at hcp
    have HR2 : Hid (ORow w2 w.heap.size w0.heap.size 64 (keyL xs)) := by
      have := ORow.copied (base := w.heap.size) (by rw [HL0.out]; omega) hg2 HB0.out.size
      rw [HKe.out] at this
      exact this
    have HB2 := hidden hb2
    clear ho1 hgr1 hb1 hg1 hvk hg2 hb2 hi hz0 hz1 hz2
    go_wp2_with fail
    generalize w0.heap.size = G at *
    go_loopw [18] (fun c wr => ∃ j : Nat, j ≤ 64 ∧ c = .int .i64 (j : Int) ∧ ORow wr w.heap.size G 64 (xorTo (keyL xs) p j) ∧ Below w.heap.size w wr) (fun c _ => 64 - (intOf c).toNat)
    case atStart => exact ⟨0, by omega, rfl, HR2.out, HB2.out⟩
    case round =>
      clear HR2 HB2 hcp
      obtain ⟨j, hj, rfl, ho, hb⟩ := hrel
      have HO := hidden ho
      have HB := hidden hb
      clear ho hb
      by_cases hlt : j < 64
      · have hlt' : (j : Int) < 64 := by omega
        have c1 := HO.out.cell j (by rw [xorTo_length, keyL_length]; omega)
        have fz := HO.out.frozen j
        have HE : Hid (xorTo (keyL xs) p (j + 1) = (xorTo (keyL xs) p j).set j ((xorTo (keyL xs) p j).getD j 0 ^^^ p)) := rfl
        have hxb := xbyte ((xorTo (keyL xs) p j).getD j 0) p
        generalize (xorTo (keyL xs) p j).getD j 0 = y at c1 HE hxb
        go_wp2
        go_roundw
        case rel =>
          refine ⟨j + 1, by omega, by go_num, ?_, ?_⟩
          · rw [HE.out]
            exact HO.out.set j _
          · exact HB.out.setCell HO.out.1 _
        case measure => simp [intOf]; omega
      · have hlt' : ¬ (j : Int) < 64 := by omega
        obtain rfl : j = 64 := by omega
        go_wp2
        go_ret
        exact HO.out.told (by rw [xorTo_length, keyL_length]) HB.out
  · have h1 : ¬ (64 : Int) < (xs.length : Int) := by omega
    have HKe : Hid (xs ++ List.replicate (64 - xs.length) 0 = keyL xs) := by show _ = _; unfold keyL shortK; rw [if_neg h64]
    have HB0 := hidden (Below.refl w.heap.size w)
    have HV0 := HV
    clear HV HR
    go_enter Tryd.func55, Tryd.ntmps55
    go_wp2_with (refine wpList_make_full _ rfl (.const (.int .i64 64)) (.const (.int .i64 64)) 22 rfl w.heap.size 5 i0 _ 1 Tryd.underlying22 hi hz0 hz1 .i64 .i64 _ _ 64 rfl rfl (by omega) (by omega) (by rw [hz2]; omega) (by unfold maxLen; omega) HB0.out.size ?_)
    intro w1 ho1 hgr1
    have hb1 : Below w.heap.size w w1 := HB0.out.grown hgr1 HB0.out.size (by simp)
    have hg1 : w1.heap[w.heap.size]? = some (.cells (bcells (List.replicate 64 0)).toArray 5 (0, 0)) := by
      rcases ho1.2 with ⟨h, _⟩ | ⟨g, cp, cur, h1, h2, h3, h4, h5, h6, h7⟩
      · cases h
      · cases h1
        rw [h3]
        have : cur.toList = bcells (List.replicate 64 0) := by
          rw [← List.take_of_length_le (i := 64) (l := cur.toList) (by simp [h6])]
          simpa [bcells, toList_madeCells_one] using h7
        rw [← this]
    have hvk : BSl w1 (.slice ak xs.length ck) xs := HV0.out.keep (S := fun _ => False) (Keeps.ofGrown hgr1 (fun k e => by cases e)) (fun _ _ h => h)
    obtain ⟨w2, hcp, hg2, hb2⟩ := copy_run (xs := xs) (N := 64) (by exact hvk) hb1 HB0.out.size hg1 (by rw [bcells_length, List.length_replicate]; omega) (by omega) HSz.out
    have HR2 : Hid (ORow w2 w.heap.size w.heap.size 64 (keyL xs)) := by
      have := ORow.copied (base := w.heap.size) (by omega) hg2 HB0.out.size
      rw [HKe.out] at this
      exact this
    have HB2 := hidden hb2
    clear ho1 hgr1 hb1 hg1 hvk hg2 hb2 hi hz0 hz1 hz2
    go_wp2_with fail
    go_loopw [18] (fun c wr => ∃ j : Nat, j ≤ 64 ∧ c = .int .i64 (j : Int) ∧ ORow wr w.heap.size w.heap.size 64 (xorTo (keyL xs) p j) ∧ Below w.heap.size w wr) (fun c _ => 64 - (intOf c).toNat)
    case atStart => exact ⟨0, by omega, rfl, HR2.out, HB2.out⟩
    case round =>
      clear HR2 HB2 hcp
      obtain ⟨j, hj, rfl, ho, hb⟩ := hrel
      have HO := hidden ho
      have HB := hidden hb
      clear ho hb
      by_cases hlt : j < 64
      · have hlt' : (j : Int) < 64 := by omega
        have c1 := HO.out.cell j (by rw [xorTo_length, keyL_length]; omega)
        have fz := HO.out.frozen j
        have HE : Hid (xorTo (keyL xs) p (j + 1) = (xorTo (keyL xs) p j).set j ((xorTo (keyL xs) p j).getD j 0 ^^^ p)) := rfl
        have hxb := xbyte ((xorTo (keyL xs) p j).getD j 0) p
        generalize (xorTo (keyL xs) p j).getD j 0 = y at c1 HE hxb
        go_wp2
        go_roundw
        case rel =>
          refine ⟨j + 1, by omega, by go_num, ?_, ?_⟩
          · rw [HE.out]
            exact HO.out.set j _
          · exact HB.out.setCell HO.out.1 _
        case measure => simp [intOf]; omega
      · have hlt' : ¬ (j : Int) < 64 := by omega
        obtain rfl : j = 64 := by omega
        go_wp2
        go_ret
        exact HO.out.told (by rw [xorTo_length, keyL_length]) HB.out
end
section
open Go Go.RowKit

/-- HMAC-SHA-256. -/
def macL (key b : List UInt8) : List UInt8 := sumL (padL key 92 ++ sumL (padL key 54 ++ b))
theorem macL_length (key b : List UInt8) : (macL key b).length = 32 := sumL_length _
/-- Two slices in a row of their own. -/
theorem pair_cells (w : World) (v0 v1 : Value) : (w.alloc (.cells #[v0, v1] 22)).cell? ⟨w.heap.size, 0, none⟩ = some v0 ∧ (w.alloc (.cells #[v0, v1] 22)).cell? ⟨w.heap.size, 1, none⟩ = some v1 := by
  constructor <;> simp
/-- slices.Concat of two slices, handed over in a row made for it. -/
theorem concat_p (v0 v1 : Value) (xs ys : List UInt8) (hx : xs.length ≤ 400000000) (hy : ys.length ≤ 140737488400000) (hxy : xs.length + ys.length ≤ 140737488355328) (w : World) (h0 : BSl w v0 xs) (h1 : BSl w v1 ys) :
    Calls Tryd.prog 44 #[.slice (some ⟨w.heap.size, 0, none⟩) 2 2] (w.alloc (.cells #[v0, v1] 22)) fun e w' => Fresh w (xs ++ ys) e w' := by
  have hb : Below w.heap.size w (w.alloc (.cells #[v0, v1] 22)) := (Below.refl _ w).alloc (by omega) _
  exact (concat_c w.heap.size v0 v1 xs ys hx hy hxy _ (pair_cells w v0 v1).1 (pair_cells w v0 v1).2 (h0.fresh hb) (h1.fresh hb)).mono fun e w' h => Fresh.next hb h

set_option maxHeartbeats 800000 in
set_option maxRecDepth 100000 in
theorem Mac_c (v1 v2 : Value) (key b : List UInt8) (hk : key.length ≤ 1000000) (hb : b.length ≤ 1000000) (w : World) (hr : Rw w) (h1 : BSl w v1 key) (h2 : BSl w v2 b) :
    Calls Tryd.prog 27 #[v1, v2] w fun e w' => Fresh w (macL key b) e w' := by
  have HR := hidden hr
  have H1 := hidden h1
  have H2 := hidden h2
  obtain ⟨a1, c1, rfl⟩ := h1.len
  obtain ⟨a2, c2, rfl⟩ := h2.len
  clear hr h1 h2
  go_enter Tryd.func27, Tryd.ntmps27
  go_wp2_with fail
  refine (padded_c _ key 54 (by omega) w HR.out H1.out).mono ?_
  rintro e w1 ⟨v3, rfl, ho3, hb3⟩
  have HV3 := hidden (BSl.ofRow ho3)
  obtain ⟨a3, c3, rfl⟩ := ownsRow_shape ho3
  have HB3 := hidden hb3
  rw [padL_length] at HV3 ⊢
  clear ho3 hb3
  go_wp2_with fail
  refine (concat_p _ _ (padL key 54) b (by rw [padL_length]; omega) (by omega) (by rw [padL_length]; omega) w1 HV3.out (H2.out.fresh HB3.out)).mono ?_
  rintro e w2 hf
  obtain ⟨v4, rfl, ho4, hb4⟩ := Fresh.next HB3.out hf
  have HV4 := hidden (BSl.ofRow ho4)
  have HB4 := hidden hb4
  clear ho4 hb4 hf HV3 HB3
  go_wp2_with fail
  refine (Sum_c _ _ (by rw [List.length_append, padL_length]; omega) _ (HR.out.fresh HB4.out) HV4.out).mono ?_
  rintro e w3 hf
  obtain ⟨v5, rfl, ho5, hb5⟩ := Fresh.next HB4.out hf
  have HV5 := hidden (BSl.ofRow ho5)
  have HB5 := hidden hb5
  obtain ⟨a5, c5, rfl⟩ := ownsRow_shape ho5
  rw [sumL_length] at HV5 ⊢
  clear ho5 hb5 hf HV4 HB4
  go_wp2_with fail
  refine (padded_c _ key 92 (by omega) w3 (HR.out.fresh HB5.out) (H1.out.fresh HB5.out)).mono ?_
  rintro e w4 ⟨v6, rfl, ho6, hb6⟩
  have HV6 := hidden (BSl.ofRow ho6)
  have HV7 := hidden (HV5.out.fresh hb6)
  have HB6 := hidden (HB5.out.trans (hb6.mono HB5.out.size))
  obtain ⟨a6, c6, rfl⟩ := ownsRow_shape ho6
  rw [padL_length] at HV6 ⊢
  clear ho6 hb6 HV5 HB5
  go_wp2_with fail
  refine (concat_p _ _ (padL key 92) (sumL (padL key 54 ++ b)) (by rw [padL_length]; omega) (by rw [sumL_length]; omega) (by rw [padL_length, sumL_length]; omega) w4 HV6.out HV7.out).mono ?_
  rintro e w5 hf
  obtain ⟨v8, rfl, ho8, hb8⟩ := Fresh.next HB6.out hf
  have HV8 := hidden (BSl.ofRow ho8)
  have HB8 := hidden hb8
  clear ho8 hb8 hf HV6 HV7 HB6
  go_wp2_with fail
  refine (Sum_c _ _ (by rw [List.length_append, padL_length, sumL_length]; omega) _ (HR.out.fresh HB8.out) HV8.out).mono ?_
  rintro e w6 hf
  obtain ⟨v9, rfl, ho9, hb9⟩ := Fresh.next HB8.out hf
  have HO9 := hidden ho9
  have HB9 := hidden hb9
  clear ho9 hb9 hf HV8 HB8
  go_wp2
  go_ret
  exact ⟨v9, rfl, HO9.out, HB9.out⟩

set_option maxHeartbeats 400000 in
theorem Print_c (v1 : Value) (key : List UInt8) (hk : key.length ≤ 1000000) (w : World) (hr : Rw w) (h1 : BSl w v1 key) :
    Calls Tryd.prog 26 #[v1] w fun e w' => Fresh w (sumL key) e w' := by
  have HR := hidden hr
  have H1 := hidden h1
  obtain ⟨a1, c1, rfl⟩ := h1.len
  clear hr h1
  go_enter Tryd.func26, Tryd.ntmps26
  go_wp2_with fail
  refine (Sum_c _ key (by omega) w HR.out H1.out).mono ?_
  rintro e w6 ⟨v9, rfl, ho9, hb9⟩
  have HO9 := hidden ho9
  have HB9 := hidden hb9
  clear ho9 hb9
  go_wp2
  go_ret
  exact ⟨v9, rfl, HO9.out, HB9.out⟩
end
section
open Go Go.RowKit

/-- Sums, one behind the other: each of all ahead of it. -/
def keyTo (A T : List UInt8) : Nat → List UInt8
  | 0 => []
  | 1 => sumL (A ++ T)
  | j + 2 => keyTo A T (j + 1) ++ sumL (A ++ keyTo A T (j + 1))
theorem keyTo_length (A T : List UInt8) (j : Nat) : (keyTo A T j).length = 32 * j := by
  match j with
  | 0 => rfl
  | 1 => exact sumL_length _
  | j + 2 =>
    rw [keyTo, List.length_append, sumL_length, keyTo_length A T (j + 1)]
    omega
def tailOf (A T : List UInt8) : Nat → List UInt8
  | 0 => T
  | j + 1 => keyTo A T (j + 1)
theorem keyTo_succ (A T : List UInt8) (j : Nat) : keyTo A T (j + 1) = keyTo A T j ++ sumL (A ++ tailOf A T j) := by
  cases j <;> rfl
theorem tailOf_le (A T : List UInt8) (j : Nat) : (tailOf A T j).length ≤ T.length + 32 * j := by
  cases j with
  | zero => simp [tailOf]
  | succ j => rw [tailOf, keyTo_length]; omega
/-- slices.Concat of two slices, handed over in a row made for it, its block by number. -/
theorem concat_q (B : Nat) (v0 v1 : Value) (xs ys : List UInt8) (hx : xs.length ≤ 400000000) (hy : ys.length ≤ 140737488400000) (hxy : xs.length + ys.length ≤ 140737488355328) (w : World) (hB : w.heap.size = B) (h0 : BSl w v0 xs) (h1 : BSl w v1 ys) :
    Calls Tryd.prog 44 #[.slice (some ⟨B, 0, none⟩) 2 2] (w.alloc (.cells #[v0, v1] 22)) fun e w' => Fresh w (xs ++ ys) e w' := by
  subst hB
  exact concat_p v0 v1 xs ys hx hy hxy w h0 h1
/-- A key of so many bytes. -/
def deriveL (k h : List UInt8) (letter : UInt8) (id : List UInt8) (n : Nat) : List UInt8 := (keyTo (mpBytes k ++ h) (letter :: id) ((n + 31) / 32)).take n
theorem deriveL_length (k h : List UInt8) (letter : UInt8) (id : List UInt8) (n : Nat) : (deriveL k h letter id n).length = n := by
  rw [deriveL, List.length_take, keyTo_length]
  omega

set_option maxHeartbeats 400000 in
theorem clip_c (ao : Option Addr) (n cap : Nat) (xs : List UInt8) (w : World) (hx : xs.length = n) (hv : BSl w (.slice ao n cap) xs) :
    Calls Tryd.prog 46 #[.slice ao n cap] w fun e w' => e = .returned (.slice ao n n) ∧ w' = w := by
  obtain ⟨ao', cap', e, hc1, hc2, _⟩ := hv
  cases e
  unfold maxLen at hc2
  go_enter Tryd.func46, Tryd.ntmps46
  go_wp2
  go_ret
  exact ⟨rfl, rfl⟩
theorem mp_le (k : List UInt8) : (mpBytes k).length ≤ k.length + 5 := by
  have h := bare_le k
  unfold mpBytes
  split
  · rw [be_length]; omega
  · rename_i x r he
    rw [he] at h
    simp at h
    split <;> simp [be_length] <;> omega
theorem BSl.capLe {w : World} {ao : Option Addr} {n cap : Nat} {xs : List UInt8} (h : BSl w (.slice ao n cap) xs) : n = xs.length ∧ xs.length ≤ cap ∧ cap ≤ maxLen := by
  obtain ⟨_, _, e, h1, h2, _⟩ := h
  injection e with e1 e2 e3
  subst e3
  exact ⟨e2, h1, h2⟩
theorem BSl.clip {w : World} {ao : Option Addr} {n cap : Nat} {xs : List UInt8} (h : BSl w (.slice ao n cap) xs) : BSl w (.slice ao n n) xs := by
  obtain ⟨_, _, e, h1, h2, h3, h4⟩ := h
  injection e with e1 e2 e3
  subst e1 e2 e3
  exact ⟨ao, xs.length, rfl, Nat.le_refl _, by omega, fun e => ⟨(h3 e).1, by rw [(h3 e).1]; rfl⟩, h4⟩
theorem BSl.nothing {w w' : World} {v : Value} (h : BSl w v []) : BSl w' v [] := by
  obtain ⟨ao, cap, e, h1, h2, h3, _⟩ := h
  exact ⟨ao, cap, e, h1, h2, h3, fun ad _ hne => absurd rfl hne⟩
set_option maxHeartbeats 800000 in
set_option maxRecDepth 100000 in
theorem mpint_n (v : Value) (xs : List UInt8) (hx : xs.length + 1 < 4294967296) (w : World) (hv : BSl w v xs) {base a : Nat} {g : Option Nat} {bs : List UInt8} (h : WS w base a g bs) (hap : xs ≠ [] → v.ownBlock ≠ some a ∧ ∀ k, g = some k → v.ownBlock ≠ some k) (hl : bs.length + xs.length + 16 ≤ 140737488355328) :
    Calls Tryd.prog 41 #[.pointer (some ⟨a, 0, none⟩), v] w fun e w' => e = .returned (.tuple #[]) ∧ ∃ g', WS w' base a g' (bs ++ mpBytes xs) ∧ Wrote a g g' w w' := by
  by_cases hne : xs = []
  · subst hne
    have HV := hidden hv
    have H := hidden h
    obtain ⟨ao, cap, rfl⟩ := hv.nil
    clear hv h hap
    go_enter Tryd.func41, Tryd.ntmps41
    go_wp2
    refine wp_loop_rounds 1 ?_
    rw [rounds_succ]
    go_wp2_with fail
    refine (u32_c _ (by omega) (by omega) _ H.out (by simp at hl; omega)).mono ?_
    rintro e w1 ⟨rfl, g1, hw1, hwr1⟩
    have HM : Hid (be 4 (Int.toNat 0) ++ [] = mpBytes []) := by unfold mpBytes; simp [bare, Hid]
    go_wp2_with fail
    refine (raw_c _ [] _ HV.out.nothing hw1 (by simp [be_length] at hl ⊢; omega)).mono ?_
    rintro e w2 ⟨rfl, g2, hw2, hwr2⟩
    go_wp2
    go_end0
    exact ⟨rfl, g2, by rw [List.append_assoc, HM.out] at hw2; exact hw2, hwr1.trans hwr2⟩
  · exact mpint_c v xs hx w hv h (hap hne) hl
/-- What Derive tells. -/
def DTold (w : World) (k h : List UInt8) (letter : UInt8) (id : List UInt8) (n : Int) (e : Ending) (w' : World) : Prop :=
  Below w.heap.size w w' ∧ ((0 ≤ n ∧ n ≤ 256 ∧ ∃ v, e = .returned (.tuple #[v, .int .i64 0]) ∧ BSl w' v (deriveL k h letter id n.toNat)) ∨ ((n < 0 ∨ 256 < n) ∧ e = .returned (.tuple #[.slice none 0 0, .int .i64 1])))

set_option maxHeartbeats 1600000 in
set_option maxRecDepth 100000 in
theorem Derive_c (v1 v2 v3 : Value) (k h id : List UInt8) (letter : UInt8) (n : Int) (hk : k.length ≤ 1000) (hh : h.length ≤ 1000) (hi : id.length ≤ 140737488351232) (w : World) (hr : Rw w) (h1 : BSl w v1 k) (h2 : BSl w v2 h) (h3 : BSl w v3 id) :
    Calls Tryd.prog 19 #[v1, v2, .int .u8 letter.toNat, v3, .int .i64 n] w fun e w' => DTold w k h letter id n e w' := by
  have HR := hidden hr
  have H1 := hidden h1
  have H2 := hidden h2
  have H3 := hidden h3
  obtain ⟨a1, c1, rfl⟩ := h1.len
  obtain ⟨a2, c2, rfl⟩ := h2.len
  obtain ⟨a3, c3, rfl⟩ := h3.len
  clear hr h1 h2 h3
  by_cases hn0 : n < 0
  · go_enter Tryd.func19, Tryd.ntmps19
    go_wp2
    go_ret2
    exact ⟨Below.refl _ _, .inr ⟨.inl hn0, rfl⟩⟩
  · by_cases hn1 : 256 < n
    · go_enter Tryd.func19, Tryd.ntmps19
      go_wp2
      go_ret2
      exact ⟨Below.refl _ _, .inr ⟨.inr hn1, rfl⟩⟩
    · obtain ⟨m, rfl⟩ : ∃ m : Nat, n = (m : Int) := ⟨n.toNat, by omega⟩
      have hm : m ≤ 256 := by omega
      have HD : Hid (deriveL k h letter id m = (keyTo (mpBytes k ++ h) (letter :: id) ((m + 31) / 32)).take m) := rfl
      have HML := hidden (mp_le k)
      go_enter Tryd.func19, Tryd.ntmps19
      go_wp2_with fail
      refine (newWriter_c w).mono ?_
      rintro e w1 ⟨rfl, rfl⟩
      have hw1 := WS.new w (Nat.le_refl w.heap.size)
      have hb1 : Below w.heap.size w (w.alloc (.cells #[.slice none 0 0] 112)) := (Below.refl _ w).alloc (by omega) _
      generalize w.alloc (.cells #[.slice none 0 0] 112) = w1 at hw1 hb1 ⊢
      have HW1 := hidden hw1
      have HB1 := hidden hb1
      have HAp : Hid (k ≠ [] → (Value.slice a1 k.length c1).ownBlock ≠ some w.heap.size ∧ ∀ q, (none : Option Nat) = some q → (Value.slice a1 k.length c1).ownBlock ≠ some q) := fun hne => by
        obtain ⟨b, o, cp, e, hl⟩ := H1.out.nonnil hne
        cases e
        exact ⟨fun e => by simp [Value.ownBlock] at e; omega, fun q e => by cases e⟩
      clear hw1 hb1
      go_wp2_with fail
      refine (mpint_n _ k (by omega) w1 (H1.out.fresh HB1.out) HW1.out HAp.out (by simp; omega)).mono ?_
      rintro e w2 ⟨rfl, g2, hw2, hwr2⟩
      rw [List.nil_append] at hw2
      have HW2 := hidden hw2
      have HB2 := hidden (HB1.out.trans (hwr2.below HW1.out))
      clear hw2 hwr2 HW1 HB1 HAp
      go_wp2_with fail
      refine (raw_c _ h w2 (H2.out.fresh HB2.out) HW2.out (by have := HML.out; omega)).mono ?_
      rintro e w3 ⟨rfl, g3, hw3, hwr3⟩
      have HW3 := hidden hw3
      have HB3 := hidden (HB2.out.trans (hwr3.below HW2.out))
      clear hw3 hwr3 HW2 HB2
      obtain ⟨A, hA⟩ : ∃ A, A = mpBytes k ++ h := ⟨_, rfl⟩
      have HAL : Hid (A.length ≤ 3000) := by show _ ≤ _; rw [hA, List.length_append]; have := HML.out; omega
      rw [← hA] at HW3 HD
      clear hA HML
      go_wp2_with fail
      refine (done_c w3 HW3.out (by have := HAL.out; omega)).mono ?_
      rintro e w4 ⟨va, rfl, hoa, hb4⟩
      have HVA := hidden (BSl.ofRow hoa)
      obtain ⟨aa, ca, rfl⟩ := ownsRow_shape hoa
      have HB4 := hidden (HB3.out.trans (hb4.mono HB3.out.size))
      clear hoa hb4 HW3 HB3
      go_wp2_with fail
      have hbl := bsl_lit w4 [letter] (by simp)
      have hb5 : Below w4.heap.size w4 (w4.alloc (.cells (bcells [letter]).toArray 5)) := (Below.refl _ w4).alloc (by omega) _
      have HB5 := hidden (HB4.out.trans (hb5.mono HB4.out.size))
      refine (concat_q (w4.heap.size + 1) _ _ [letter] id (by simp) (by omega) (by simp; omega) (w4.alloc (.cells (bcells [letter]).toArray 5)) (by simp) hbl (H3.out.fresh HB5.out)).mono ?_
      rintro e w6 ⟨vt, rfl, hot, hb6⟩
      have HVT0 := BSl.ofRow hot
      rw [show [letter] ++ id = letter :: id from rfl] at HVT0
      have HVT := hidden HVT0
      have HB6 := hidden (HB5.out.trans (hb6.mono HB5.out.size))
      have HVA6 := hidden ((HVA.out.fresh hb5).fresh hb6)
      have HR6 := hidden (HR.out.fresh HB6.out)
      clear hot hb6 hb5 hbl HVT0 HVA HB4 HB5 H1 H2 H3 HR
      have HTL : Hid ((letter :: id).length ≤ 140737488351233) := by show _ ≤ _; simp; omega
      generalize letter :: id = T at HVT HD HTL
      have HAl := HAL.out
      have HTl := HTL.out
      go_wp2_with fail
      go_loopw [14, 15] (fun s t wr => ∃ j : Nat, j ≤ (m + 31) / 32 ∧ Own w6 wr s (keyTo A T j) ∧ BSl wr t (tailOf A T j)) (fun s _ _ => 320 - sliceLen s)
      case atStart => exact ⟨0, by omega, Own.nothing w6, HVT.out⟩
      case round =>
        clear HVT
        obtain ⟨j, hj, ho, ht⟩ := hrel
        have HO := hidden ho
        have HT := hidden ht
        obtain ⟨ak, ck, rfl⟩ := ho.shape
        obtain ⟨at', ct, rfl⟩ := ht.len
        have hkl := keyTo_length A T j
        rw [hkl] at HO ⊢
        have HKL := hidden hkl
        have HTLe := hidden (tailOf_le A T j)
        have HSu := hidden (keyTo_succ A T j)
        clear ho ht hkl
        by_cases hlt : 32 * j < m
        · have hlt' : ((32 * j : Nat) : Int) < (m : Int) := by omega
          have HVA7 := hidden (HVA6.out.fresh HO.out.b)
          go_wp2_with fail
          refine (concat_p _ _ A (tailOf A T j) (by omega) (by have := HTLe.out; omega) (by have := HTLe.out; omega) wr HVA7.out HT.out).mono ?_
          rintro e w7 ⟨vc, rfl, hoc, hb7⟩
          have HVC := hidden (BSl.ofRow hoc)
          have HO7 := hidden (HO.out.keep hb7)
          clear hoc hb7 HO HT HVA7
          go_wp2_with fail
          refine (Sum_c _ _ (by rw [List.length_append]; have := HTLe.out; omega) w7 (HR6.out.fresh HO7.out.b) HVC.out).mono ?_
          rintro e w8 ⟨vs, rfl, hos, hb8⟩
          have HVS := hidden (BSl.ofRow hos).src
          have HO8 := hidden (HO7.out.keep hb8)
          clear hos hb8 HO7 HVC
          have HSL := hidden (sumL_length (A ++ tailOf A T j))
          generalize sumL (A ++ tailOf A T j) = S at HVS HSu HSL
          generalize hKj : keyTo A T j = Kj at HO8 HSu HKL
          go_wp2_with (at_builtin; (refine wpList_own _ rfl (.tmp 40) (.tmp 45) 22 rfl w6 _ Kj rfl HO8.out _ S rfl HVS.out ?hl ?_))
          case hl => rw [HKL.out, HSL.out]; omega
          intro v9 w9 o9 _ _
          have O9 := hidden o9
          clear o9 HVS HO8
          go_wp2
          go_roundw
          case rel =>
            have h9 := O9.out
            rw [← HSu.out] at h9
            exact ⟨j + 1, by omega, h9, h9.bsl⟩
          case measure =>
            obtain ⟨a9, c9, e9⟩ := O9.out.shape
            rw [e9]
            have := HKL.out
            have := HSL.out
            simp only [sliceLen, List.length_append]
            omega
        · have hlt' : ¬ ((32 * j : Nat) : Int) < (m : Int) := by omega
          obtain rfl : j = (m + 31) / 32 := by omega
          have HV9 := hidden HO.out.bsl
          have HBB := hidden (HB6.out.trans (HO.out.b.mono HB6.out.size))
          have hcc : 32 * ((m + 31) / 32) ≤ ck := by have := HV9.out.capLe; rw [HKL.out] at this; exact this.2.1
          have hmm : m ≤ 32 * ((m + 31) / 32) := by omega
          have HTk : Hid (BSl wr (.slice ak m ck) (deriveL k h letter id m)) := by
            have h1 := HV9.out
            rw [← HKL.out] at h1
            have h2 := h1.head' (n := m) (by rw [HKL.out]; exact hmm)
            rw [HD.out]
            exact h2
          have hcm : (m : Int) ≤ (ck : Int) := by omega
          generalize 32 * ((m + 31) / 32) = q at *
          go_wp2_with fail
          refine (clip_c ak m ck _ wr (deriveL_length _ _ _ _ _) HTk.out).mono ?_
          rintro e w9 ⟨rfl, rfl⟩
          go_wp2
          go_ret2
          refine ⟨HBB.out, .inl ⟨by omega, by omega, _, rfl, ?_⟩⟩
          rw [Int.toNat_natCast]
          exact HTk.out.clip
end
section
open Go Go.RowKit

/-- Texts, one behind the other. -/
def joinTo (px : Nat → List UInt8) : Nat → List UInt8
  | 0 => []
  | j + 1 => joinTo px j ++ textBytes (px j)
theorem text_len (xs : List UInt8) : (textBytes xs).length = xs.length + 4 := by
  unfold textBytes
  rw [List.length_append, be_length]
  omega
theorem joinTo_le (px : Nat → List UInt8) (M : Nat) (h : ∀ i, (px i).length ≤ M) (j : Nat) : (joinTo px j).length ≤ j * (M + 4) := by
  induction j with
  | zero => simp [joinTo]
  | succ j ih =>
    rw [joinTo, List.length_append, text_len, Nat.succ_mul]
    have := h j
    omega
/-- The sum of all that was told, and of the secret. -/
def hashL (vc vs : List UInt8) (px : Nat → List UInt8) (k : List UInt8) : List UInt8 := sumL (textBytes vc ++ textBytes vs ++ joinTo px 5 ++ mpBytes k)
def five (pv : Nat → Value) : Array Value := #[pv 0, pv 1, pv 2, pv 3, pv 4]
theorem five_at (pv : Nat → Value) (j : Nat) (h : j < 5) : (five pv)[j]? = some (pv j) := by
  match j, h with
  | 0, _ | 1, _ | 2, _ | 3, _ | 4, _ => rfl

/-- The Writer while the parts are written: the row of parts stands. -/
structure HI (base : Nat) (w1 wr : World) (a B : Nat) (pv : Nat → Value) (bs : List UInt8) : Prop where
  ws : ∃ g, WS wr base a g bs ∧ g ≠ some B
  cells : wr.heap[B]? = some (.cells (five pv) 22 (0, 0))
  ne : B ≠ a
  b : Below base w1 wr
theorem HI.next {base : Nat} {w1 wr wr' : World} {a B : Nat} {pv : Nat → Value} {bs bs' : List UInt8} {g g' : Option Nat} (h : HI base w1 wr a B pv bs) (h1 : WS wr base a g bs) (hg : g ≠ some B) (h2 : WS wr' base a g' bs') (h3 : Wrote a g g' wr wr') : HI base w1 wr' a B pv bs' := by
  have hB := lt_of_block h.cells
  refine ⟨⟨g', h2, ?_⟩, ?_, h.ne, h.b.trans (h3.below h1)⟩
  · intro e
    rcases h3.row with rfl | ⟨k, rfl, hk⟩
    · exact hg e
    · cases e; omega
  · exact (h3.keeps.block B hB (fun e => e.elim h.ne hg)).trans h.cells

set_option maxHeartbeats 1600000 in
set_option maxRecDepth 100000 in
theorem Hash_c (vc vs : ByteArray) (pv : Nat → Value) (px : Nat → List UInt8) (v1 : Value) (k : List UInt8) (h0 : vc.size ≤ 2000000) (h1 : vs.size ≤ 2000000) (hp : ∀ i, (px i).length ≤ 1000000) (hk : k.length ≤ 1000000) (w : World) (hr : Rw w) (hv : ∀ i, i < 5 → BSl w (pv i) (px i)) (hb : BSl w v1 k) :
    Calls Tryd.prog 24 #[.agg #[.string vc, .string vs, pv 0, pv 1, pv 2, pv 3, pv 4], v1] w fun e w' => Fresh w (hashL vc.data.toList vs.data.toList px k) e w' := by
  have HR := hidden hr
  have HV := hidden hv
  have HK := hidden hb
  have HP := hidden (joinTo_le px 1000000 hp)
  have HPx := hidden hp
  obtain ⟨a1, c1, rfl⟩ := hb.len
  obtain ⟨s0, t0, e0⟩ := (hv 0 (by omega)).len
  obtain ⟨s1, t1, e1⟩ := (hv 1 (by omega)).len
  obtain ⟨s2, t2, e2⟩ := (hv 2 (by omega)).len
  obtain ⟨s3, t3, e3⟩ := (hv 3 (by omega)).len
  obtain ⟨s4, t4, e4⟩ := (hv 4 (by omega)).len
  have HF : Hid (five pv = #[.slice s0 (px 0).length t0, .slice s1 (px 1).length t1, .slice s2 (px 2).length t2, .slice s3 (px 3).length t3, .slice s4 (px 4).length t4]) := by
    show _ = _
    unfold five
    rw [e0, e1, e2, e3, e4]
  rw [e0, e1, e2, e3, e4]
  clear hr hv hb hp e0 e1 e2 e3 e4
  generalize (px 0).length = l0 at HF ⊢
  generalize (px 1).length = l1 at HF ⊢
  generalize (px 2).length = l2 at HF ⊢
  generalize (px 3).length = l3 at HF ⊢
  generalize (px 4).length = l4 at HF ⊢
  have HHL : Hid (hashL vc.data.toList vs.data.toList px k = sumL (textBytes vc.data.toList ++ textBytes vs.data.toList ++ joinTo px 5 ++ mpBytes k)) := rfl
  generalize hashL vc.data.toList vs.data.toList px k = RL at HHL ⊢
  go_enter Tryd.func24, Tryd.ntmps24
  go_wp2_with fail
  obtain ⟨w1, hw1⟩ : ∃ x, x = w.alloc (.cells #[.string vc, .string vs, .slice s0 l0 t0, .slice s1 l1 t1, .slice s2 l2 t2, .slice s3 l3 t3, .slice s4 l4 t4] 58) := ⟨_, rfl⟩
  rw [← hw1]
  have hB1 : Below w.heap.size w w1 := by rw [hw1]; exact (Below.refl _ w).alloc (by omega) _
  have HC1 : Hid (w1.heap[w.heap.size]? = some (.cells #[.string vc, .string vs, .slice s0 l0 t0, .slice s1 l1 t1, .slice s2 l2 t2, .slice s3 l3 t3, .slice s4 l4 t4] 58 (0, 0))) := by rw [hw1]; exact heap_alloc_new w _
  have HB1 := hidden hB1
  have hs1 : w.heap.size < w1.heap.size := lt_of_block HC1.out
  clear hw1 hB1
  generalize hT : w.heap.size = T at HC1 hs1 ⊢
  have HTe := hidden hT
  clear hT
  refine (newWriter_c w1).mono ?_
  rintro e w2 ⟨rfl, rfl⟩
  have hw2 := WS.new w1 (Nat.le_refl w1.heap.size)
  have hb2 : Below w1.heap.size w1 (w1.alloc (.cells #[.slice none 0 0] 112)) := (Below.refl _ w1).alloc (by omega) _
  generalize w1.alloc (.cells #[.slice none 0 0] 112) = w2 at hw2 hb2 ⊢
  have HW2 := hidden hw2
  have HB2 := hidden hb2
  have HTk : Hid (∀ wx, Below w1.heap.size w1 wx → wx.heap[T]? = some (.cells #[.string vc, .string vs, .slice s0 l0 t0, .slice s1 l1 t1, .slice s2 l2 t2, .slice s3 l3 t3, .slice s4 l4 t4] 58 (0, 0))) := fun wx hx => (hx.block T hs1).trans HC1.out
  have f0 := cell_row (HTk.out w2 hb2) 0
  simp only [List.getElem?_cons_zero] at f0
  clear hw2 hb2 HC1
  generalize w1.heap.size = a at HW2 HB2 HTk hs1 ⊢
  go_wp2_with fail
  refine (text_c vc (by omega) w2 HW2.out (by simp; omega)).mono ?_
  rintro e w3 ⟨rfl, g3, hw3, hwr3⟩
  rw [List.nil_append] at hw3
  have HB3 := hidden (HB2.out.trans (hwr3.below HW2.out))
  have f1 := cell_row (HTk.out w3 HB3.out) 1
  simp only [List.getElem?_cons_zero, List.getElem?_cons_succ] at f1
  have HW3 := hidden hw3
  have HL0 : Hid ((textBytes vc.data.toList).length = vc.size + 4) := by show _ = _; rw [text_len, Array.length_toList]; rfl
  have HL1 : Hid ((textBytes vs.data.toList).length = vs.size + 4) := by show _ = _; rw [text_len, Array.length_toList]; rfl
  generalize textBytes vc.data.toList = D0 at HW3 HL0 HHL
  clear hw3 hwr3 HW2 HB2 f0
  go_wp2_with fail
  refine (text_c vs (by omega) w3 HW3.out (by rw [HL0.out]; omega)).mono ?_
  rintro e w4 ⟨rfl, g4, hw4, hwr4⟩
  have HB4 := hidden (HB3.out.trans (hwr4.below HW3.out))
  have f2 := cell_row (HTk.out w4 HB4.out) 2
  have f3 := cell_row (HTk.out w4 HB4.out) 3
  have f4 := cell_row (HTk.out w4 HB4.out) 4
  have f5 := cell_row (HTk.out w4 HB4.out) 5
  have f6 := cell_row (HTk.out w4 HB4.out) 6
  simp only [List.getElem?_cons_zero, List.getElem?_cons_succ] at f2 f3 f4 f5 f6
  have HI4 : Hid (HI a w1 (w4.alloc (.cells (five pv) 22)) a w4.heap.size pv (D0 ++ textBytes vs.data.toList)) := by
    have hk : Keeps (fun _ => False) w4 (w4.alloc (.cells (five pv) 22)) := (Keeps.refl _ _).alloc _
    refine ⟨⟨g4, hw4.keep hk (fun h => h) (fun _ _ h => h), fun e => ?_⟩, heap_alloc_new w4 _, fun e => ?_, HB4.out.alloc (by have := HB4.out.size; have := hw4.lt; omega) _⟩
    · have := (hw4.rowLt _ e).2; omega
    · have := hw4.lt; omega
  rw [HF.out] at HI4
  generalize hD1 : D0 ++ textBytes vs.data.toList = D1 at HI4 HHL
  have HD1 : Hid (D1.length = vc.size + vs.size + 8) := by show _ = _; rw [← hD1, List.length_append, HL0.out, HL1.out]; omega
  clear hw4 hwr4 HW3 HB3 f1 hD1
  go_wp2_with fail
  generalize w4.alloc (.cells #[.slice s0 l0 t0, .slice s1 l1 t1, .slice s2 l2 t2, .slice s3 l3 t3, .slice s4 l4 t4] 22) = w5 at HI4 ⊢
  generalize w4.heap.size = B at HI4 ⊢
  clear f2 f3 f4 f5 f6 HB4 HTk
  go_loopw [29] (fun c wr => ∃ j : Nat, j ≤ 5 ∧ c = .int .i64 (j : Int) ∧ HI a w1 wr a B pv (D1 ++ joinTo px j)) (fun c _ => 5 - (intOf c).toNat)
  case atStart => exact ⟨0, by omega, rfl, by simpa [joinTo] using HI4.out⟩
  case round =>
    clear HI4
    obtain ⟨j, hj, rfl, ht⟩ := hrel
    have HH := hidden ht
    obtain ⟨g, hws, hgB⟩ := ht.ws
    have HWS := hidden hws
    have HGB := hidden hgB
    clear ht hws hgB
    by_cases hlt : j < 5
    · have hlt' : (j : Int) < 5 := by omega
      have hcell : wr.cell? ⟨B, j, none⟩ = some (pv j) := by
        have := HH.out.cells
        rw [cell_row (cs := (five pv).toList) (by simpa using this), Array.getElem?_toList, five_at pv j hlt]
      have hvj := (HV.out j hlt).fresh (HB1.out.trans (HH.out.b.mono (by have := HTe.out; omega)))
      have hlj : (px j).length ≤ 1000000 := HPx.out j
      have HPj := hidden (HP.out j)
      have hstr := run_string hvj
      have HTx : Hid (∀ s : ByteArray, s = ⟨(px j).toArray⟩ → s.size < 4294967296 ∧ s.size ≤ 1000000 ∧ s.data.toList = px j) := fun s hs => by
        subst hs
        rw [size_list]
        exact ⟨by omega, hlj, rfl⟩
      obtain ⟨S, hS⟩ : ∃ S : ByteArray, S = ⟨(px j).toArray⟩ := ⟨_, rfl⟩
      rw [← hS] at hstr
      obtain ⟨q1, q2, q3⟩ := HTx.out S hS
      have Q3 := hidden q3
      obtain ⟨aj, cj, ej⟩ := hvj.len
      rw [ej] at hcell hstr
      have HJ : Hid (joinTo px (j + 1) = joinTo px j ++ textBytes (px j)) := rfl
      clear hvj ej HTx hS q3
      go_wp2_with fail
      refine (text_c S q1 wr HWS.out (by rw [List.length_append, HD1.out]; have := HPj.out; omega)).mono ?_
      rintro e w6 ⟨rfl, g6, hw6, hwr6⟩
      rw [Q3.out, List.append_assoc, ← HJ.out] at hw6
      have HN := hidden (HH.out.next HWS.out HGB.out hw6 hwr6)
      clear hw6 hwr6 hcell hstr
      go_wp2
      go_roundw
      case rel => exact ⟨j + 1, by omega, by go_num, HN.out⟩
      case measure => simp [intOf]; omega
    · have hlt' : ¬ (j : Int) < 5 := by omega
      obtain rfl : j = 5 := by omega
      have HPj := hidden (HP.out 5)
      have HBw := hidden (HB1.out.trans (HH.out.b.mono (by have := HTe.out; omega)))
      have HAp : Hid (k ≠ [] → (Value.slice a1 k.length c1).ownBlock ≠ some a ∧ ∀ q, g = some q → (Value.slice a1 k.length c1).ownBlock ≠ some q) := fun hne => by
        obtain ⟨b, o, cp, e, hl⟩ := HK.out.nonnil hne
        cases e
        have := HTe.out
        refine ⟨fun e => by simp [Value.ownBlock] at e; omega, fun q eq e => ?_⟩
        have := (HWS.out.rowLt q eq).1
        simp [Value.ownBlock] at e
        omega
      have HML := hidden (mp_le k)
      generalize joinTo px 5 = J5 at HWS HHL HPj
      go_wp2_with fail
      refine (mpint_n _ k (by omega) wr (HK.out.fresh HBw.out) HWS.out HAp.out (by rw [List.length_append, HD1.out]; have := HPj.out; omega)).mono ?_
      rintro e w7 ⟨rfl, g7, hw7, hwr7⟩
      have HW7 := hidden hw7
      have HB7 := hidden (HBw.out.trans ((hwr7.below HWS.out).mono (by have := HTe.out; omega)))
      clear hw7 hwr7 HWS HBw HAp
      have HXL : Hid ((D1 ++ J5 ++ mpBytes k).length ≤ 100000000) := by
        show _ ≤ _
        rw [List.length_append, List.length_append, HD1.out]
        have := HPj.out
        have := HML.out
        omega
      generalize D1 ++ J5 ++ mpBytes k = X at HW7 HXL HHL
      go_wp2_with fail
      refine (done_c w7 HW7.out (by have := HXL.out; omega)).mono ?_
      rintro e w8 ⟨v8, rfl, ho8, hb8⟩
      have HV8 := hidden (BSl.ofRow ho8)
      have HB8 := hidden (HB7.out.trans (hb8.mono HB7.out.size))
      clear ho8 hb8 HB7 HW7
      go_wp2_with fail
      refine (Sum_c _ X (by have := HXL.out; omega) w8 (HR.out.fresh HB8.out) HV8.out).mono ?_
      rintro e w9 hf
      rw [← HHL.out] at hf
      obtain ⟨v9, rfl, ho9, hb9⟩ := Fresh.next HB8.out hf
      have HO9 := hidden ho9
      have HB9 := hidden hb9
      clear ho9 hb9 hf
      go_wp2
      go_ret
      exact ⟨v9, rfl, HO9.out, HB9.out⟩
end
end Go.Proofs.YtookapglookphaaDoor
