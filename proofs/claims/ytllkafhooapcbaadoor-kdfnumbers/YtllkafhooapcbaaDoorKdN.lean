/- A Mac's key as a block, and what Mac answers. -/
import Derived.Test.YtllkafhooapcbaaDoorKdM
namespace Go.Proofs.YtllkafhooapcbaaDoor
open Go Go.RowKit

/-- A key as a block: its sum, if it is longer than one, with noughts behind it. -/
def shortK (xs : List UInt8) : List UInt8 := if 64 < xs.length then sumL xs else xs
theorem shortK_le (xs : List UInt8) : (shortK xs).length ≤ 64 := by
  unfold shortK
  split
  · rw [sumL_length]; omega
  · omega
def keyL (xs : List UInt8) : List UInt8 := shortK xs ++ List.replicate (64 - (shortK xs).length) 0
theorem keyL_length (xs : List UInt8) : (keyL xs).length = 64 := by
  have := shortK_le xs
  simp [keyL]
  omega
def xorTo (K : List UInt8) (p : UInt8) : Nat → List UInt8
  | 0 => K
  | j + 1 => (xorTo K p j).set j ((xorTo K p j).getD j 0 ^^^ p)
theorem xorTo_length (K : List UInt8) (p : UInt8) (j : Nat) : (xorTo K p j).length = K.length := by
  induction j with
  | zero => rfl
  | succ j ih => rw [xorTo, List.length_set, ih]
def padL (xs : List UInt8) (p : UInt8) : List UInt8 := xorTo (keyL xs) p 64
theorem padL_length (xs : List UInt8) (p : UInt8) : (padL xs p).length = 64 := by rw [padL, xorTo_length, keyL_length]
theorem ORow.told {w w0 : World} {g : Nat} {xs : List UInt8} {v : Value} (h : ORow w w0.heap.size g 64 xs) (hl : xs.length = 64) (hb : Below w0.heap.size w0 w) (hv : v = .slice (some ⟨g, 0, none⟩) 64 64 := by rfl) : Fresh w0 xs (.returned v) w := by
  obtain ⟨h1, h2, h3, cur, h4, h5, h6⟩ := h
  subst hv
  refine ⟨_, rfl, ⟨by rw [bcells_length]; omega, .inr ⟨g, 64, cur, by rw [hl], h1, h4, by omega, h3, by omega, ?_⟩⟩, hb⟩
  rw [Nat.mul_one]
  exact h6

theorem ORow.copied {w : World} {base g : Nat} {K : List UInt8} (hK : K.length ≤ 64) (h : w.heap[g]? = some (.cells (bcells K ++ (bcells (List.replicate 64 0)).drop K.length).toArray 5 (0, 0))) (hg : base ≤ g) : ORow w base g 64 (K ++ List.replicate (64 - K.length) 0) := by
  have e : bcells K ++ (bcells (List.replicate 64 0)).drop K.length = bcells (K ++ List.replicate (64 - K.length) 0) := by
    rw [bcells_append]
    congr 1
    simp only [bcells, List.map_replicate, List.drop_replicate]
  rw [e] at h
  have hl : (K ++ List.replicate (64 - K.length) 0).length = 64 := by rw [List.length_append, List.length_replicate]; omega
  refine ⟨hg, by omega, by unfold maxLen; omega, _, h, by rw [List.size_toArray, bcells_length, hl], ?_⟩
  rw [hl, List.take_of_length_le (by rw [bcells_length, hl]; omega)]

set_option maxHeartbeats 1600000 in
set_option maxRecDepth 100000 in
theorem padded_c (v : Value) (xs : List UInt8) (p : UInt8) (hl : xs.length ≤ 1000000000) (w : World) (hr : Rw w) (hv : BSl w v xs) :
    Calls Tryd.prog 37 #[v, .int .u8 p.toNat] w fun e w' => Fresh w (padL xs p) e w' := by
  obtain ⟨i0, hi, hz0, hz1, hz2⟩ := info_parts Tryd.infoU8
  have HSz : Hid ((Tryd.prog.info? 5).map (·.size) = some 1) := by show _ = _; rw [hi]; simp [hz1]
  have HR := hidden hr
  have HV := hidden hv
  obtain ⟨ak, ck, rfl, hc1, hc2, _⟩ := hv
  unfold maxLen at hc2
  have HP : Hid (padL xs p = xorTo (keyL xs) p 64) := rfl
  rw [HP.out]
  clear HP hr
  by_cases h64 : 64 < xs.length
  · have h1 : (64 : Int) < (xs.length : Int) := by omega
    have HKe : Hid (sumL xs ++ List.replicate (64 - (sumL xs).length) 0 = keyL xs) := by show _ = _; unfold keyL shortK; rw [if_pos h64]
    go_enter Tryd.func37, Tryd.ntmps37
    go_wp2_with fail
    refine (Sum_c _ xs hl _ HR.out HV.out).mono ?_
    rintro e w0 ⟨v0, rfl, ho0, hb0⟩
    have HB0 := hidden hb0
    have HL0 : Hid ((sumL xs).length = 32) := sumL_length xs
    rw [HL0.out] at ho0
    have hv0 := BSl.ofRow ho0
    obtain ⟨ak, ck, rfl⟩ := ownsRow_shape ho0
    have HV0 := hidden hv0
    have hc : 32 ≤ ck := by obtain ⟨_, _, e, h, _⟩ := hv0; cases e; rw [HL0.out] at h; omega
    clear ho0 hb0 hv0 HV HR hc1 hc2
    go_wp2_with (refine wpList_make_full _ rfl (.const (.int .i64 64)) (.const (.int .i64 64)) 22 rfl w.heap.size 5 i0 _ 1 Tryd.underlying22 hi hz0 hz1 .i64 .i64 _ _ 64 rfl rfl (by omega) (by omega) (by rw [hz2]; omega) (by unfold maxLen; omega) HB0.out.size ?_)
    intro w1 ho1 hgr1
    have hb1 : Below w.heap.size w w1 := HB0.out.grown hgr1 HB0.out.size (by simp)
    have hg1 : w1.heap[w0.heap.size]? = some (.cells (bcells (List.replicate 64 0)).toArray 5 (0, 0)) := by
      rcases ho1.2 with ⟨h, _⟩ | ⟨g, cp, cur, h1, h2, h3, h4, h5, h6, h7⟩
      · cases h
      · cases h1
        rw [h3]
        have : cur.toList = bcells (List.replicate 64 0) := by
          rw [← List.take_of_length_le (i := 64) (l := cur.toList) (by simp [h6])]
          simpa [bcells, toList_madeCells_one] using h7
        rw [← this]
    have hvk : BSl w1 (.slice ak 32 ck) (sumL xs) := HV0.out.keep (S := fun _ => False) (Keeps.ofGrown hgr1 (fun k e => by cases e)) (fun _ _ h => h)
    obtain ⟨w2, hcp, hg2, hb2⟩ := copy_run (xs := (sumL xs)) (N := 64) (by rw [HL0.out]; exact hvk) hb1 HB0.out.size hg1 (by rw [HL0.out]; rw [bcells_length, List.length_replicate]; omega) (by rw [HL0.out]; omega) HSz.out
    rw [HL0.out] at hcp
    have HR2 : Hid (ORow w2 w.heap.size w0.heap.size 64 (keyL xs)) := by
      have := ORow.copied (base := w.heap.size) (by rw [HL0.out]; omega) hg2 HB0.out.size
      rw [HKe.out] at this
      exact this
    have HB2 := hidden hb2
    clear ho1 hgr1 hb1 hg1 hvk hg2 hb2 hi hz0 hz1 hz2
    go_wp2_with fail
    generalize w0.heap.size = G at *
    go_loopw [18] (fun c wr => ∃ j : Nat, j ≤ 64 ∧ c = .int .i64 (j : Int) ∧ ORow wr w.heap.size G 64 (xorTo (keyL xs) p j) ∧ Below w.heap.size w wr) (fun c _ => 64 - (intOf c).toNat)
    case atStart => exact ⟨0, by omega, rfl, HR2.out, HB2.out⟩
    case round =>
      clear HR2 HB2 hcp
      obtain ⟨j, hj, rfl, ho, hb⟩ := hrel
      have HO := hidden ho
      have HB := hidden hb
      clear ho hb
      by_cases hlt : j < 64
      · have hlt' : (j : Int) < 64 := by omega
        have c1 := HO.out.cell j (by rw [xorTo_length, keyL_length]; omega)
        have fz := HO.out.frozen j
        have HE : Hid (xorTo (keyL xs) p (j + 1) = (xorTo (keyL xs) p j).set j ((xorTo (keyL xs) p j).getD j 0 ^^^ p)) := rfl
        have hxb := xbyte ((xorTo (keyL xs) p j).getD j 0) p
        generalize (xorTo (keyL xs) p j).getD j 0 = y at c1 HE hxb
        go_wp2
        go_roundw
        case rel =>
          refine ⟨j + 1, by omega, by go_num, ?_, ?_⟩
          · rw [HE.out]
            exact HO.out.set j _
          · exact HB.out.setCell HO.out.1 _
        case measure => simp [intOf]; omega
      · have hlt' : ¬ (j : Int) < 64 := by omega
        obtain rfl : j = 64 := by omega
        go_wp2
        go_ret
        exact HO.out.told (by rw [xorTo_length, keyL_length]) HB.out
  · have h1 : ¬ (64 : Int) < (xs.length : Int) := by omega
    have HKe : Hid (xs ++ List.replicate (64 - xs.length) 0 = keyL xs) := by show _ = _; unfold keyL shortK; rw [if_neg h64]
    have HB0 := hidden (Below.refl w.heap.size w)
    have HV0 := HV
    clear HV HR
    go_enter Tryd.func37, Tryd.ntmps37
    go_wp2_with (refine wpList_make_full _ rfl (.const (.int .i64 64)) (.const (.int .i64 64)) 22 rfl w.heap.size 5 i0 _ 1 Tryd.underlying22 hi hz0 hz1 .i64 .i64 _ _ 64 rfl rfl (by omega) (by omega) (by rw [hz2]; omega) (by unfold maxLen; omega) HB0.out.size ?_)
    intro w1 ho1 hgr1
    have hb1 : Below w.heap.size w w1 := HB0.out.grown hgr1 HB0.out.size (by simp)
    have hg1 : w1.heap[w.heap.size]? = some (.cells (bcells (List.replicate 64 0)).toArray 5 (0, 0)) := by
      rcases ho1.2 with ⟨h, _⟩ | ⟨g, cp, cur, h1, h2, h3, h4, h5, h6, h7⟩
      · cases h
      · cases h1
        rw [h3]
        have : cur.toList = bcells (List.replicate 64 0) := by
          rw [← List.take_of_length_le (i := 64) (l := cur.toList) (by simp [h6])]
          simpa [bcells, toList_madeCells_one] using h7
        rw [← this]
    have hvk : BSl w1 (.slice ak xs.length ck) xs := HV0.out.keep (S := fun _ => False) (Keeps.ofGrown hgr1 (fun k e => by cases e)) (fun _ _ h => h)
    obtain ⟨w2, hcp, hg2, hb2⟩ := copy_run (xs := xs) (N := 64) (by exact hvk) hb1 HB0.out.size hg1 (by rw [bcells_length, List.length_replicate]; omega) (by omega) HSz.out
    have HR2 : Hid (ORow w2 w.heap.size w.heap.size 64 (keyL xs)) := by
      have := ORow.copied (base := w.heap.size) (by omega) hg2 HB0.out.size
      rw [HKe.out] at this
      exact this
    have HB2 := hidden hb2
    clear ho1 hgr1 hb1 hg1 hvk hg2 hb2 hi hz0 hz1 hz2
    go_wp2_with fail
    go_loopw [18] (fun c wr => ∃ j : Nat, j ≤ 64 ∧ c = .int .i64 (j : Int) ∧ ORow wr w.heap.size w.heap.size 64 (xorTo (keyL xs) p j) ∧ Below w.heap.size w wr) (fun c _ => 64 - (intOf c).toNat)
    case atStart => exact ⟨0, by omega, rfl, HR2.out, HB2.out⟩
    case round =>
      clear HR2 HB2 hcp
      obtain ⟨j, hj, rfl, ho, hb⟩ := hrel
      have HO := hidden ho
      have HB := hidden hb
      clear ho hb
      by_cases hlt : j < 64
      · have hlt' : (j : Int) < 64 := by omega
        have c1 := HO.out.cell j (by rw [xorTo_length, keyL_length]; omega)
        have fz := HO.out.frozen j
        have HE : Hid (xorTo (keyL xs) p (j + 1) = (xorTo (keyL xs) p j).set j ((xorTo (keyL xs) p j).getD j 0 ^^^ p)) := rfl
        have hxb := xbyte ((xorTo (keyL xs) p j).getD j 0) p
        generalize (xorTo (keyL xs) p j).getD j 0 = y at c1 HE hxb
        go_wp2
        go_roundw
        case rel =>
          refine ⟨j + 1, by omega, by go_num, ?_, ?_⟩
          · rw [HE.out]
            exact HO.out.set j _
          · exact HB.out.setCell HO.out.1 _
        case measure => simp [intOf]; omega
      · have hlt' : ¬ (j : Int) < 64 := by omega
        obtain rfl : j = 64 := by omega
        go_wp2
        go_ret
        exact HO.out.told (by rw [xorTo_length, keyL_length]) HB.out
end Go.Proofs.YtllkafhooapcbaaDoor
