/- A block out of a state. -/
import Derived.Test.YthkaibkmpenclaaDoorChE
namespace Go.Proofs.YthkaibkmpenclaaDoor
open Go Go.RowKit

def mixTo (L : List Int) : Nat → List Int
  | 0 => L
  | j + 1 => rndTo (j % 2) 4 (mixTo L j)
theorem mixTo_length (L : List Int) (j : Nat) : (mixTo L j).length = L.length := by
  induction j with
  | zero => rfl
  | succ j ih => rw [mixTo, rndTo_length, ih]
def wordB (n : Int) : List UInt8 := [byteOf n, byteOf (n / 256), byteOf (n / 65536), byteOf (n / 16777216)]
def outB (M L : List Int) : Nat → List UInt8
  | 0 => []
  | i + 1 => outB M L i ++ wordB ((M.getD i 0 + L.getD i 0) % 4294967296)
theorem outB_length (M L : List Int) (i : Nat) : (outB M L i).length = 4 * i := by
  induction i with
  | zero => rfl
  | succ i ih => rw [outB, List.length_append, ih]; simp [wordB]; omega
/-- The 64 bytes that a state makes. -/
def blockL (L : List Int) : List UInt8 := outB (mixTo L 20) L 16

theorem run_index_arr {w : World} {cs : Array Value} {i : Nat} {x : Int} (hi : i < 16) (h : cs[i]? = some (.int .u32 x)) : (Instr.index 98 (.agg cs) (.int .i64 i)).run Tryd.prog w = .ok (.int .u32 x) w := by
  have h1 : (underlying 98).run Tryd.prog w = .ok (.array 16 70) w := by simp [underlying, Tryd.underlying98]
  have h2 : (sizeOf 70).run Tryd.prog w = .ok 1 w := by
    have : (Tryd.prog.info? 70).map (·.size) = some 1 := by kernel_rfl
    cases hq : Tryd.prog.info? 70 with
    | none => rw [hq] at this; simp at this
    | some i0 => rw [hq] at this; simp at this; simp [sizeOf, typeInfo, hq, this]
  have h3 : (isAgg 70).run Tryd.prog w = .ok false w := by simp [isAgg, underlying, Tryd.underlying70]
  simp only [Instr.index, Sem.run_bind, asIntOf, Sem.run_pure, Result.andThen, h1]
  rw [if_pos ⟨by omega, by omega⟩]
  simp [Sem.run_bind, Result.andThen, h2, part, h3, h]

theorem wordB_cells (x : Int) : bcells (wordB (x % 4294967296)) = [.int .u8 (x % 256), .int .u8 (x % 4294967296 / 256 % 256), .int .u8 (x % 4294967296 / 65536 % 256), .int .u8 (x % 4294967296 / 16777216)] := by
  simp only [wordB, bcells, List.map_cons, List.map_nil, byteOf_nat]
  rw [show x % 4294967296 % 256 = x % 256 by omega, show x % 4294967296 / 16777216 % 256 = x % 4294967296 / 16777216 by omega]

theorem set4 {w : World} {F p : Nat} {t : TypeId} {X Z : List Value} (h : w.heap[F]? = some (.cells (X ++ Z).toArray t (0, 0))) (hp : X.length = p) (hz : 4 ≤ Z.length) (u0 u1 u2 u3 : Value) :
    ((((w.setCell ⟨F, p, none⟩ u0).setCell ⟨F, p + 1, none⟩ u1).setCell ⟨F, p + 2, none⟩ u2).setCell ⟨F, p + 3, none⟩ u3).heap[F]? = some (.cells ((X ++ [u0, u1, u2, u3]) ++ Z.drop 4).toArray t (0, 0)) := by
  have h1 := heap_setCell_same _ F p _ _ u0 h
  rw [set_next X Z u0 p hp (by intro e; rw [e] at hz; simp at hz)] at h1
  have h2 := heap_setCell_same _ F (p + 1) _ _ u1 h1
  rw [set_next (X ++ [u0]) (Z.drop 1) u1 (p + 1) (by simp [hp]) (by intro e; have := congrArg List.length e; simp at this; omega)] at h2
  have h3 := heap_setCell_same _ F (p + 2) _ _ u2 h2
  rw [set_next (X ++ [u0] ++ [u1]) ((Z.drop 1).drop 1) u2 (p + 2) (by simp [hp]) (by intro e; have := congrArg List.length e; simp at this; omega)] at h3
  have h4 := heap_setCell_same _ F (p + 3) _ _ u3 h3
  rw [set_next (X ++ [u0] ++ [u1] ++ [u2]) (((Z.drop 1).drop 1).drop 1) u3 (p + 3) (by simp [hp]) (by intro e; have := congrArg List.length e; simp at this; omega)] at h4
  simpa using h4

set_option maxHeartbeats 1600000 in
set_option maxRecDepth 100000 in
theorem block_c (L : List Int) (hL : L.length = 16) (w : World) :
    Calls Tryd.prog 71 #[.agg (wcells L).toArray] w fun e w' => e = .returned (.agg (bcells (blockL L)).toArray) ∧ Below w.heap.size w w' := by
  have hsz : (Tryd.prog.info? 98).map (·.size) = some (wcells L).toArray.size := by
    rw [show (wcells L).toArray.size = 16 by simp [wcells, hL]]
    kernel_rfl
  have HS := hidden hsz
  clear hsz
  generalize hA : (wcells L).toArray = A at HS ⊢
  have HA := hidden hA
  clear hA
  go_enter Tryd.func71, Tryd.ntmps71
  go_upto_region 1 with fail
  change Code.wp _ _ _ _ ((w.alloc (.cells A 98)).alloc (.cells (bcells (List.replicate 64 0)).toArray 100))
  have ha1 : ((w.alloc (.cells A 98)).alloc (.cells (bcells (List.replicate 64 0)).toArray 100)).heap[w.heap.size]? = some (.cells A 98 (0, 0)) := by
    rw [Below.heap_alloc _ _ _ (by simp)]
    exact heap_alloc_new w _
  have hz1 : ((w.alloc (.cells A 98)).alloc (.cells (bcells (List.replicate 64 0)).toArray 100)).heap[w.heap.size + 1]? = some (.cells (bcells (List.replicate 64 0)).toArray 100 (0, 0)) := by
    have := heap_alloc_new (w.alloc (.cells A 98)) (.cells (bcells (List.replicate 64 0)).toArray 100)
    rw [show (w.alloc (.cells A 98)).heap.size = w.heap.size + 1 by simp] at this
    exact this
  have hb1 : Below w.heap.size w ((w.alloc (.cells A 98)).alloc (.cells (bcells (List.replicate 64 0)).toArray 100)) := ((Below.refl _ w).alloc (by omega) _).alloc (by simp) _
  have hs1 : ((w.alloc (.cells A 98)).alloc (.cells (bcells (List.replicate 64 0)).toArray 100)).heap.size = w.heap.size + 2 := by simp
  generalize (w.alloc (.cells A 98)).alloc (.cells (bcells (List.replicate 64 0)).toArray 100) = w1 at ha1 hz1 hb1 hs1 ⊢
  have HA1 := hidden ha1
  have HZ1 := hidden hz1
  have HB1 := hidden hb1
  have HS1 := hidden hs1
  have hone : A.all (·.oneCell') = true := by rw [← HA.out]; simp [wcells, Value.oneCell']
  have HO := hidden hone
  have hAs : A.size = 16 := by rw [← HA.out]; simp [wcells, hL]
  have HAS := hidden hAs
  clear ha1 hz1 hb1 hs1 hone hAs
  go_wp2_with (first
    | (refine wpList_loadRow rfl 98 (.tmp 1) rfl w.heap.size A 98 (0, 0) 16 70 rfl HA1.out Tryd.underlying98 HS.out ?_)
    | (refine wpList_store_row rfl 98 (.tmp 3) (.tmp 8) rfl w1.heap.size A rfl rfl 98 _ (heap_alloc_new w1 _) HS.out HAS.out.symm HO.out ?_))
  rw [World.setRow_alloc_new]
  have hw2 : WB (w1.alloc (.cells A 98)) w1.heap.size 98 L := by
    unfold WB
    rw [HA.out]
    exact heap_alloc_new w1 _
  have ha2 : (w1.alloc (.cells A 98)).heap[w.heap.size]? = some (.cells A 98 (0, 0)) := by
    rw [Below.heap_alloc _ _ _ (by rw [HS1.out]; omega)]
    exact HA1.out
  have hz2 : (w1.alloc (.cells A 98)).heap[w.heap.size + 1]? = some (.cells (bcells (List.replicate 64 0)).toArray 100 (0, 0)) := by
    rw [Below.heap_alloc _ _ _ (by rw [HS1.out]; omega)]
    exact HZ1.out
  have hb2 : Below w.heap.size w (w1.alloc (.cells A 98)) := HB1.out.alloc (by rw [HS1.out]; omega) _
  generalize w1.alloc (.cells A 98) = w2 at hw2 ha2 hz2 hb2 ⊢
  clear HA1 HZ1 HB1
  generalize w1.heap.size = G at hw2 HS1 ⊢
  go_loopw [9] (fun i wr => ∃ j : Nat, j ≤ 20 ∧ i = .int .i64 (j : Int) ∧ WB wr G 98 (mixTo L j) ∧ wr.heap[w.heap.size]? = some (.cells A 98 (0, 0)) ∧ wr.heap[w.heap.size + 1]? = some (.cells (bcells (List.replicate 64 0)).toArray 100 (0, 0)) ∧ Below w.heap.size w wr) (fun i _ => 20 - (intOf i).toNat)
  case atStart => exact ⟨0, by omega, by simp, hw2, ha2, hz2, hb2⟩
  case round =>
    clear hw2 ha2 hz2 hb2
    obtain ⟨j, hj, rfl, hw3, ha3, hz3, hb3⟩ := hrel
    have HW3 := hidden hw3
    have HA3 := hidden ha3
    have HZ3 := hidden hz3
    have HB3 := hidden hb3
    clear hw3 ha3 hz3 hb3
    by_cases hlt : j < 20
    · have hlt' : (j : Int) < 20 := by omega
      have E1 : Hid ((j : Int) % 2 = ((j % 2 : Nat) : Int)) := by show _ = _; omega
      go_wp2_with fail
      rw [E1.out]
      refine (round_c (j % 2) (by omega) G (mixTo L j) (by rw [mixTo_length]; exact hL) wr HW3.out).mono ?_
      rintro e w4 ⟨rfl, hw4, hk4⟩
      have HK4 := hidden hk4
      have HW4 := hidden hw4
      clear hw4 hk4
      go_wp2
      go_roundw
      case rel =>
        have hG := HS1.out
        refine ⟨j + 1, by omega, by go_num, HW4.out, ?_, ?_, HB3.out.trans (HK4.out.below (B := w.heap.size) (by have := HB3.out.size; omega) (by intro k e; omega))⟩
        · rw [HK4.out.block w.heap.size (lt_of_block HA3.out) (by omega)]
          exact HA3.out
        · rw [HK4.out.block (w.heap.size + 1) (lt_of_block HZ3.out) (by omega)]
          exact HZ3.out
      case measure => simp [intOf]; omega
    · have hlt' : ¬ (j : Int) < 20 := by omega
      obtain rfl : j = 20 := by omega
      have hM : (mixTo L 20).length = 16 := by rw [mixTo_length]; exact hL
      have HM := hidden hM
      have hsB : (Tryd.prog.info? 98).map (·.size) = some (wcells (mixTo L 20)).toArray.size := by
        rw [show (wcells (mixTo L 20)).toArray.size = 16 by simp [wcells, hM]]
        kernel_rfl
      have HSB := hidden hsB
      clear hM hsB
      have HE : Hid (blockL L = outB (mixTo L 20) L 16) := rfl
      generalize mixTo L 20 = M at HW3 HM HSB HE
      have hw3 : wr.heap[G]? = some (.cells (wcells M).toArray 98 (0, 0)) := HW3.out
      go_wp2_with (first
        | (refine wpList_loadRow rfl 98 (.tmp 3) rfl G (wcells M).toArray 98 (0, 0) 16 70 rfl ?ha Tryd.underlying98 HSB.out ?_; rw [Below.heap_alloc _ _ _ (lt_of_block HW3.out)]; exact HW3.out))
      change Code.wp _ _ _ _ (wr.alloc (.cells (bcells (List.replicate 64 0)).toArray 100))
      have hf5 : (wr.alloc (.cells (bcells (List.replicate 64 0)).toArray 100)).heap[wr.heap.size]? = some (.cells (bcells (List.replicate 64 0)).toArray 100 (0, 0)) := heap_alloc_new wr _
      have ha5 : WB (wr.alloc (.cells (bcells (List.replicate 64 0)).toArray 100)) w.heap.size 98 L := by
        unfold WB
        rw [Below.heap_alloc _ _ _ (lt_of_block HA3.out), HA.out]
        exact HA3.out
      have hz5 : (wr.alloc (.cells (bcells (List.replicate 64 0)).toArray 100)).heap[w.heap.size + 1]? = some (.cells (bcells (List.replicate 64 0)).toArray 100 (0, 0)) := by
        rw [Below.heap_alloc _ _ _ (lt_of_block HZ3.out)]
        exact HZ3.out
      have hb5 : Below w.heap.size w (wr.alloc (.cells (bcells (List.replicate 64 0)).toArray 100)) := HB3.out.alloc HB3.out.size _
      have HF : Hid (w.heap.size + 2 < wr.heap.size) := by
        show w.heap.size + 2 < wr.heap.size
        have := lt_of_block HW3.out
        have := HS1.out
        omega
      generalize wr.alloc (.cells (bcells (List.replicate 64 0)).toArray 100) = w5 at hf5 ha5 hz5 hb5 ⊢
      generalize wr.heap.size = F at hf5 HF ⊢
      have HX : Hid (∀ i, i < 16 → (wcells M).toArray[i]? = some (.int .u32 (M.getD i 0))) := by
        intro i hi
        have := HM.out
        simp [wcells, show i < M.length by omega]
      generalize (wcells M).toArray = Bv at HX ⊢
      clear HW3 hw3 HA3 HZ3 HB3 HSB
      have HD : Hid ((bcells (List.replicate 64 0)).length = 64) := by simp [bcells, Hid]
      generalize bcells (List.replicate 64 0) = D at hf5 hz5 HD
      have HO5 : Hid (D.toArray.size = 64) := by show _ = 64; simpa using HD.out
      go_loopw [17] (fun i wx => ∃ j : Nat, j ≤ 16 ∧ i = .int .i64 (j : Int) ∧ wx.heap[F]? = some (.cells (bcells (outB M L j) ++ D.drop (4 * j)).toArray 100 (0, 0)) ∧ WB wx w.heap.size 98 L ∧ wx.heap[w.heap.size + 1]? = some (.cells D.toArray 100 (0, 0)) ∧ Below w.heap.size w wx) (fun i _ => 16 - (intOf i).toNat)
      case atStart => exact ⟨0, by omega, by simp, by simpa [outB, bcells] using hf5, ha5, hz5, hb5⟩
      case round =>
        clear hf5 ha5 hz5 hb5
        obtain ⟨j, hj, rfl, hf6, ha6, hz6, hb6⟩ := hrel
        by_cases hlt2 : j < 16
        · have hlt3 : (j : Int) < 16 := by omega
          have hbv := run_index_arr (w := wr) hlt2 (HX.out j hlt2)
          have hca := ha6.cell j (by omega)
          have hlen : (bcells (outB M L j)).length = 4 * j := by rw [bcells_length, outB_length]
          have hdl : (D.drop (4 * j)).length = 64 - 4 * j := by rw [List.length_drop, HD.out]
          have cc : ∀ r, r < 4 → ∃ u, wr.cell? ⟨F, 4 * j + r, none⟩ = some u := fun r hr => by
            rw [cell_row hf6]
            exact ⟨_, List.getElem?_eq_getElem (by rw [List.length_append, hlen, hdl]; omega)⟩
          obtain ⟨d0, cc0⟩ := cc 0 (by omega)
          obtain ⟨d1, cc1⟩ := cc 1 (by omega)
          obtain ⟨d2, cc2⟩ := cc 2 (by omega)
          obtain ⟨d3, cc3⟩ := cc 3 (by omega)
          rw [Nat.add_zero] at cc0
          have fzF := frozen_row hf6
          have HS4 := hidden (fun u0 u1 u2 u3 => set4 hf6 hlen (by omega) u0 u1 u2 u3)
          have HA6 := hidden ha6
          have HZ6 := hidden hz6
          have HB6 := hidden hb6
          have HN : Hid (outB M L (j + 1) = outB M L j ++ wordB ((M.getD j 0 + L.getD j 0) % 4294967296)) := rfl
          generalize M.getD j 0 = m at hbv HN
          generalize L.getD j 0 = l at hca HN
          clear hf6 ha6 hz6 hb6 hlen hdl cc
          go_wp2
          go_roundw
          case rel =>
            have hk : ∀ u0 u1 u2 u3, Keeps (fun k => k = F) wr ((((wr.setCell ⟨F, 4 * j, none⟩ u0).setCell ⟨F, 4 * j + 1, none⟩ u1).setCell ⟨F, 4 * j + 2, none⟩ u2).setCell ⟨F, 4 * j + 3, none⟩ u3) := fun u0 u1 u2 u3 =>
              ((((Keeps.refl (fun k => k = F) wr).setCell (p := ⟨F, 4 * j, none⟩) (.inl rfl) u0).setCell (p := ⟨F, 4 * j + 1, none⟩) (.inl rfl) u1).setCell (p := ⟨F, 4 * j + 2, none⟩) (.inl rfl) u2).setCell (p := ⟨F, 4 * j + 3, none⟩) (.inl rfl) u3
            have hF := HF.out
            refine ⟨j + 1, by omega, by go_num, ?_, ?_, ?_, ?_⟩
            · rw [HS4.out, HN.out, bcells_append, wordB_cells, List.drop_drop]
              congr 3
            · exact HA6.out.keep (hk _ _ _ _) (by omega)
            · rw [(hk _ _ _ _).block (w.heap.size + 1) (lt_of_block HZ6.out) (by omega)]
              exact HZ6.out
            · exact HB6.out.trans ((hk _ _ _ _).below (B := w.heap.size) HB6.out.size (by intro k e; omega))
          case measure => simp [intOf]; omega
        · have hlt3 : ¬ (j : Int) < 16 := by omega
          obtain rfl : j = 16 := by omega
          rw [List.drop_of_length_le (by rw [HD.out]; omega), List.append_nil, ← HE.out] at hf6
          have hsz : (Tryd.prog.info? 100).map (·.size) = some (bcells (blockL L)).toArray.size := by
            rw [show (bcells (blockL L)).toArray.size = 64 by rw [List.size_toArray, bcells_length, blockL, outB_length]]
            kernel_rfl
          have hold : D.toArray.size = (bcells (blockL L)).toArray.size := by rw [HO5.out, List.size_toArray, bcells_length, blockL, outB_length]
          have hone : (bcells (blockL L)).toArray.all (·.oneCell') = true := by simp [bcells, Value.oneCell']
          have hres : (wr.setRow (w.heap.size + 1) (bcells (blockL L)).toArray).heap[w.heap.size + 1]? = some (.cells (bcells (blockL L)).toArray 100 (0, 0)) := setRow_heap wr (w.heap.size + 1) _ _ _ _ hz6
          have hbel : Below w.heap.size w (wr.setRow (w.heap.size + 1) (bcells (blockL L)).toArray) := below_setRow hb6 (by omega) _
          have HF6 := hidden hf6
          have HZ6 := hidden hz6
          have HS6 := hidden hsz
          have HO6 := hidden hone
          have HD6 := hidden hold
          have HR6 := hidden hres
          have HL6 := hidden hbel
          clear hf6 ha6 hz6 hb6 hsz hold hone hres hbel HE
          generalize hRe : (bcells (blockL L)).toArray = R at HF6 HS6 HO6 HD6 HR6 HL6 ⊢
          have HRe := hidden hRe
          clear hRe
          go_wp2_with (first
            | (refine wpList_loadRow rfl 100 (.tmp 5) rfl F R 100 (0, 0) 64 5 rfl HF6.out Tryd.underlying100 HS6.out ?_)
            | (refine wpList_store_row rfl 100 (.tmp 2) (.tmp 53) rfl (w.heap.size + 1) R rfl rfl 100 _ HZ6.out HS6.out HD6.out HO6.out ?_))
          (try simp only [Exit.inBlock, Exit.then])
          refine bodyPost_ret (results_cell1 rfl _ _ _ (w.heap.size + 1) R 100 (0, 0) 64 5 rfl HR6.out Tryd.underlying100 HS6.out) rfl ?_
          exact ⟨by rw [HRe.out], HL6.out⟩
end Go.Proofs.YthkaibkmpenclaaDoor
