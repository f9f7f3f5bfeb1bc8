/- The words of a block: sixteen out of its bytes, the others out of these. -/
import Derived.Test.YtllkafhooapcbaaDoorKdB
namespace Go.Proofs.YtllkafhooapcbaaDoor
open Go Go.RowKit

/-- Four bytes, the highest first. -/
def beW (b0 b1 b2 b3 : Nat) : Int :=
  bits BinOp.or IntKind.u32 (bits BinOp.or IntKind.u32 (bits BinOp.or IntKind.u32 ((b0 : Int) % 4294967296 * 16777216 % 4294967296) ((b1 : Int) % 4294967296 * 65536 % 4294967296)) ((b2 : Int) % 4294967296 * 256 % 4294967296)) ((b3 : Int) % 4294967296)
def beAt (xs : List UInt8) (k : Nat) : Int := beW (xs.getD k 0).toNat (xs.getD (k + 1) 0).toNat (xs.getD (k + 2) 0).toNat (xs.getD (k + 3) 0).toNat
def zero64 : List Int := List.replicate 64 0
def fillTo (xs : List UInt8) : Nat → List Int
  | 0 => zero64
  | i + 1 => (fillTo xs i).set i (beAt xs (4 * i))
theorem fillTo_length (xs : List UInt8) (i : Nat) : (fillTo xs i).length = 64 := by
  induction i with
  | zero => simp [fillTo, zero64]
  | succ i ih => rw [fillTo, List.length_set, ih]
def smN (y : Int) : Int := x32 (x32 (r17 y) (r19 y)) (y / 1024)
def smF (x : Int) : Int := x32 (x32 (r7 x) (r18 x)) (x / 8)
def nextW (L : List Int) (i : Nat) : Int := (smN (L.getD (i - 2) 0) + L.getD (i - 7) 0 + smF (L.getD (i - 15) 0) + L.getD (i - 16) 0) % 4294967296
def schTo (xs : List UInt8) : Nat → List Int
  | 0 => fillTo xs 16
  | j + 1 => (schTo xs j).set (16 + j) (nextW (schTo xs j) (16 + j))
theorem schTo_length (xs : List UInt8) (i : Nat) : (schTo xs i).length = 64 := by
  induction i with
  | zero => exact fillTo_length xs 16
  | succ i ih => rw [schTo, List.length_set, ih]
/-- The sixty-four words of a block. -/
def words (xs : List UInt8) : List Int := schTo xs 48
theorem words_length (xs : List UInt8) : (words xs).length = 64 := schTo_length xs 48
theorem row64 {L : List Int} (h : L.length = 64) : (Tryd.prog.info? 57).map (·.size) = some (wcells L).toArray.size ∧ (wcells L).toArray.all (·.oneCell') = true ∧ (wcells zero64).toArray.size = (wcells L).toArray.size := by
  have hpl : (wcells L).toArray.size = 64 := by rw [List.size_toArray, wcells_length]; omega
  exact ⟨by rw [hpl]; kernel_rfl, by simp [wcells, Value.oneCell'], by rw [hpl]; rfl⟩

/-- Where the words lie while they are made. -/
structure SI (w : World) (wr : World) (L : List Int) : Prop where
  r : WB wr w.heap.size 57 zero64
  n : WB wr (w.heap.size + 1) 57 L
  b : Below w.heap.size w wr
theorem SI.start (w : World) : SI w ((w.alloc (.cells (wcells zero64).toArray 57)).alloc (.cells (wcells zero64).toArray 57)) zero64 := by
  have b1 : Below w.heap.size w (w.alloc (.cells (wcells zero64).toArray 57)) := (Below.refl _ w).alloc (by omega) _
  refine ⟨?_, ?_, b1.alloc (by simp) _⟩
  · unfold WB
    rw [Below.heap_alloc _ _ _ (by simp)]
    exact heap_alloc_new w _
  · unfold WB
    have := heap_alloc_new (w.alloc (.cells (wcells zero64).toArray 57)) (.cells (wcells zero64).toArray 57)
    rwa [show (w.alloc (.cells (wcells zero64).toArray 57)).heap.size = w.heap.size + 1 by simp] at this
theorem SI.set {w wr : World} {L : List Int} (h : SI w wr L) (i : Nat) (x : Int) : SI w (wr.setCell ⟨w.heap.size + 1, i, none⟩ (.int .u32 x)) (L.set i x) := by
  have hk := (Keeps.refl (fun k => k = w.heap.size + 1) wr).setCell (p := ⟨w.heap.size + 1, i, none⟩) (.inl rfl) (.int .u32 x)
  exact ⟨h.r.keep hk (by omega), h.n.set i x, h.b.trans (hk.below (B := w.heap.size) h.b.size (by intro k e; omega))⟩
theorem SI.drew {w wr : World} {L : List Int} (h : SI w wr L) : SI w wr.drew L := ⟨h.r, h.n, h.b.drew⟩

set_option maxHeartbeats 1600000 in
set_option maxRecDepth 100000 in
theorem spread_c (B O C : Nat) (xs : List UInt8) (hx : xs.length = 64) (hC0 : 64 ≤ C) (w : World) (hv : BSl w (.slice (some ⟨B, O, none⟩) 64 C) xs) :
    Calls Tryd.prog 50 #[.slice (some ⟨B, O, none⟩) 64 C] w fun e w' => e = .returned (.agg (wcells (words xs)).toArray) ∧ Below w.heap.size w w' := by
  have H := hidden (SI.start w)
  have HV := hidden hv
  clear hv
  go_enter Tryd.func50, Tryd.ntmps50
  go_upto_region 2 with fail
  change Code.wp _ _ _ _ ((w.alloc (.cells (wcells zero64).toArray 57)).alloc (.cells (wcells zero64).toArray 57))
  generalize (w.alloc (.cells (wcells zero64).toArray 57)).alloc (.cells (wcells zero64).toArray 57) = w3 at H ⊢
  go_wp2_with fail
  go_loopw [9] (fun c wr => ∃ i : Nat, i ≤ 16 ∧ c = .int .i64 (i : Int) ∧ SI w wr (fillTo xs i)) (fun c _ => 16 - (intOf c).toNat)
  case atStart => exact ⟨0, by omega, rfl, H.out⟩
  case round =>
    clear H
    obtain ⟨i, hi, rfl, ht⟩ := hrel
    have HT := hidden ht
    clear ht
    by_cases hlt : i < 16
    · have hlt' : (i : Int) < 16 := by omega
      have hv1 := HV.out.fresh HT.out.b
      have k0 := hv1.cellD (4 * i) (by omega)
      have k1 := hv1.cellD (4 * i + 1) (by omega)
      have k2 := hv1.cellD (4 * i + 2) (by omega)
      have k3 := hv1.cellD (4 * i + 3) (by omega)
      rw [← Nat.add_assoc] at k1 k2 k3
      have hl : (4 * (i : Int) + 4) ≤ 64 := by omega
      have hl2 : (4 * (i : Int) + 4) ≤ (C : Int) := by omega
      have cg := HT.out.n.cell i (by rw [fillTo_length]; omega)
      have fz := HT.out.n.frozen i
      have HE : Hid (fillTo xs (i + 1) = (fillTo xs i).set i (beW (xs.getD (4 * i) 0).toNat (xs.getD (4 * i + 1) 0).toNat (xs.getD (4 * i + 2) 0).toNat (xs.getD (4 * i + 3) 0).toNat)) := rfl
      clear hv1
      generalize (xs.getD (4 * i) 0).toNat = b0 at k0 HE
      generalize (xs.getD (4 * i + 1) 0).toNat = b1 at k1 HE
      generalize (xs.getD (4 * i + 2) 0).toNat = b2 at k2 HE
      generalize (xs.getD (4 * i + 3) 0).toNat = b3 at k3 HE
      generalize (fillTo xs i).getD i 0 = old at cg
      go_wp2_with fail
      go_big_region
      go_wp2
      go_roundw
      case rel =>
        refine ⟨i + 1, by omega, by go_num, ?_⟩
        rw [HE.out]
        exact (HT.out.set i _).drew
      case measure => simp [intOf]; omega
    · have hlt' : ¬ (i : Int) < 16 := by omega
      obtain rfl : i = 16 := by omega
      go_wp2_with fail
      go_loopw [6] (fun c wr => ∃ j : Nat, j ≤ 48 ∧ c = .int .i64 ((16 + j : Nat) : Int) ∧ SI w wr (schTo xs j)) (fun c _ => 64 - (intOf c).toNat)
      case atStart => exact ⟨0, by omega, rfl, HT.out⟩
      case round =>
        clear HT
        obtain ⟨j, hj, rfl, ht⟩ := hrel
        have HT := hidden ht
        clear ht
        by_cases hlt2 : j < 48
        · have hlt3 : ((16 + j : Nat) : Int) < 64 := by omega
          have hlen := schTo_length xs j
          have c2 := HT.out.n.cell (16 + j - 2) (by omega)
          have c15 := HT.out.n.cell (16 + j - 15) (by omega)
          have c7 := HT.out.n.cell (16 + j - 7) (by omega)
          have c16 := HT.out.n.cell (16 + j - 16) (by omega)
          have cg := HT.out.n.cell (16 + j) (by omega)
          have fz := HT.out.n.frozen
          have HE : Hid (schTo xs (j + 1) = (schTo xs j).set (16 + j) ((smN ((schTo xs j).getD (16 + j - 2) 0) + (schTo xs j).getD (16 + j - 7) 0 + smF ((schTo xs j).getD (16 + j - 15) 0) + (schTo xs j).getD (16 + j - 16) 0) % 4294967296)) := rfl
          clear hlen
          generalize (schTo xs j).getD (16 + j - 2) 0 = y2 at c2 HE
          generalize (schTo xs j).getD (16 + j - 7) 0 = y7 at c7 HE
          generalize (schTo xs j).getD (16 + j - 15) 0 = y15 at c15 HE
          generalize (schTo xs j).getD (16 + j - 16) 0 = y16 at c16 HE
          generalize (schTo xs j).getD (16 + j) 0 = old at cg
          have hm0 : 16 ≤ 16 + j := by omega
          have hm1 : 16 + j < 64 := by omega
          have HM : Hid (∀ x : Int, SI w (wr.setCell ⟨w.heap.size + 1, 16 + j, none⟩ (.int .u32 x)) ((schTo xs j).set (16 + j) x)) := fun x => HT.out.set (16 + j) x
          generalize hme : 16 + j = m at hlt3 c2 c7 c15 c16 HE cg hm0 hm1 HM ⊢
          have HME := hidden hme
          clear hme
          go_wp2_with fail
          go_big_region
          go_wp2_with fail
          refine (rot17_c _ _).mono ?_
          rintro en w1 ⟨rfl, rfl⟩
          go_wp2_with fail
          refine (rot19_c _ _).mono ?_
          rintro en w1 ⟨rfl, rfl⟩
          go_wp2_with fail
          refine (rot7_c _ _).mono ?_
          rintro en w1 ⟨rfl, rfl⟩
          go_wp2_with fail
          refine (rot18_c _ _).mono ?_
          rintro en w1 ⟨rfl, rfl⟩
          go_wp2_with fail
          go_big_region
          go_wp2
          go_roundw
          case rel =>
            refine ⟨j + 1, by omega, by have := HME.out; go_num, ?_⟩
            rw [HE.out]
            exact (HM.out _).drew.drew
          case measure => simp [intOf]; omega
        · have hlt3 : ¬ ((16 + j : Nat) : Int) < 64 := by omega
          obtain rfl : j = 48 := by omega
          obtain ⟨hs, ho, hd⟩ := row64 (words_length xs)
          have hr : (wr.setRow w.heap.size (wcells (words xs)).toArray).heap[w.heap.size]? = some (.cells (wcells (words xs)).toArray 57 (0, 0)) := setRow_heap wr w.heap.size _ _ _ _ HT.out.r
          have HR := hidden hr
          have HS := hidden hs
          have HO := hidden ho
          have HD := hidden hd
          have hn := HT.out.n
          rw [show schTo xs 48 = words xs from rfl] at hn
          have HN := hidden hn
          have HZ := hidden HT.out.r
          have HB := hidden (below_setRow HT.out.b (Nat.le_refl _) (wcells (words xs)).toArray)
          clear hs ho hd hn HT hr
          have HN1 : Hid (wr.heap[w.heap.size + 1]? = some (.cells (wcells (words xs)).toArray 57 (0, 0))) := HN.out
          have HZ1 : Hid (wr.heap[w.heap.size]? = some (.cells (wcells zero64).toArray 57 (0, 0))) := HZ.out
          clear HN HZ
          generalize hRe : (wcells (words xs)).toArray = R at HS HO HD HB HR HN1 ⊢
          have HRe := hidden hRe
          clear hRe
          generalize (wcells zero64).toArray = Z at HZ1 HD
          go_wp2_with (first
            | (refine wpList_loadRow rfl 57 (.tmp 3) rfl (w.heap.size + 1) R 57 (0, 0) 64 53 rfl HN1.out Tryd.underlying57 HS.out ?_)
            | (refine wpList_store_row rfl 57 (.tmp 2) (.tmp 87) rfl w.heap.size R rfl rfl 57 _ HZ1.out HS.out HD.out HO.out ?_))
          (try simp only [Exit.inBlock, Exit.then])
          refine bodyPost_ret (results_cell1 rfl _ _ _ w.heap.size R 57 (0, 0) 64 53 rfl HR.out Tryd.underlying57 HS.out) rfl ?_
          exact ⟨by rw [HRe.out], HB.out⟩
end Go.Proofs.YtllkafhooapcbaaDoor
