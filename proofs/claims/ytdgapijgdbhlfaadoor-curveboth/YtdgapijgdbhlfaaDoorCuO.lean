/- numberOf: the walk. -/
import Derived.Test.YtdgapijgdbhlfaaDoorCuN
namespace Go.Proofs.YtdgapijgdbhlfaaDoor
open Go Go.RowKit

theorem or_lowS (x wd s : Nat) (hx : x < 2 ^ s) (hw : wd % 2251799813685248 % 2 ^ s = 0) (hs : s ≤ 50) : bits BinOp.or IntKind.u64 (x : Int) ((wd % 2251799813685248 : Nat) : Int) = ((x + wd % 2251799813685248 : Nat) : Int) := by
  have h1 : (2 : Nat) ^ s ≤ 2 ^ 50 := Nat.pow_le_pow_right (by omega) hs
  rw [u64_or_nat x _ (by omega) (by omega), Nat.or_comm, nat_join s _ x hw hx, Nat.add_comm]
theorem or_zeroS (y : Nat) (hy : y ≤ 18446744073709551615) : bits BinOp.or IntKind.u64 0 (y : Int) = (y : Int) := by
  have := u64_or_nat 0 y (by omega) (by omega)
  rw [show ((0 : Nat) : Int) = 0 from rfl] at this
  rw [this, Nat.zero_or]
theorem mod_pow_zero (b s : Nat) (hs : s ≤ 50) : b * 2 ^ s % 2251799813685248 % 2 ^ s = 0 := by
  obtain ⟨r, hr⟩ : ∃ r, 51 = s + r := ⟨51 - s, by omega⟩
  rw [show 2251799813685248 = 2 ^ s * 2 ^ r by rw [← Nat.pow_add, ← hr], Nat.mod_mul_right_mod, Nat.mul_mod_left]
def numV (S : List UInt8) : Nat := leV S 32 % 57896044618658097711785492504343953926634992332820282019728792003956564819968

structure NI (w wr : World) (L : List Nat) : Prop where
  r : NB .u64 wr w.heap.size 40 [0, 0, 0, 0, 0]
  n : NB .u64 wr (w.heap.size + 1) 40 L
  b : Below w.heap.size w wr
theorem NI.set {w wr : World} {L : List Nat} (h : NI w wr L) (i x : Nat) : NI w (wr.setCell ⟨w.heap.size + 1, i, none⟩ (.int .u64 (x : Int))) (L.set i x) :=
  ⟨h.r.keep (S := fun k => k = w.heap.size + 1) ((Keeps.refl (fun k => k = w.heap.size + 1) wr).setCell (p := ⟨w.heap.size + 1, i, none⟩) (.inl rfl) _) (by omega), h.n.set i x, h.b.setCell (by show w.heap.size ≤ w.heap.size + 1; omega) _⟩

set_option maxHeartbeats 800000 in
set_option maxRecDepth 100000 in
theorem numberOf_c (v : Value) (S : List UInt8) (hS : S.length = 32) (w : World) (h : BSl w v S) :
    Calls Tryd.prog 18 #[v] w fun e w' => ∃ r, e = .returned r ∧ IsN r (numV S % pC) ∧ Ex w w' := by
  have HV := hidden h
  obtain ⟨ao, cap, rfl, hc1, hc2, _⟩ := h
  rw [hS] at hc1
  go_enter Tryd.func18, Tryd.ntmps18
  go_upto_region 2 with fail
  change Code.wp _ _ _ _ ((w.alloc (.cells (ncells .u64 [0, 0, 0, 0, 0]).toArray 40)).alloc (.cells (ncells .u64 [0, 0, 0, 0, 0]).toArray 40))
  obtain ⟨w1, e1⟩ : ∃ x, x = w.alloc (.cells (ncells .u64 [0, 0, 0, 0, 0]).toArray 40) := ⟨_, rfl⟩
  obtain ⟨w2, e2⟩ : ∃ x, x = w1.alloc (.cells (ncells .u64 [0, 0, 0, 0, 0]).toArray 40) := ⟨_, rfl⟩
  rw [← e1, ← e2]
  have s1 : w1.heap.size = w.heap.size + 1 := by rw [e1]; simp
  have n1 : NB .u64 w1 w.heap.size 40 [0, 0, 0, 0, 0] := by rw [e1]; exact NB.new w _
  have n2 : NB .u64 w2 (w.heap.size + 1) 40 [0, 0, 0, 0, 0] := by rw [e2, ← s1]; exact NB.new w1 _
  have x1 : Ex w w1 := by rw [e1]; exact Ex.alloc w _
  have x2 : Ex w1 w2 := by rw [e2]; exact Ex.alloc w1 _
  have HM : Hid (NI w w2 (L51 (leV S 0 % 57896044618658097711785492504343953926634992332820282019728792003956564819968))) := ⟨n1.fresh x2, by rw [show leV S 0 % 57896044618658097711785492504343953926634992332820282019728792003956564819968 = 0 from Nat.zero_mod _]; exact n2, x1.trans x2⟩
  have HSL := hidden hS
  rw [hS]
  clear e1 e2 s1 n1 n2 x1 x2 hS
  go_wp2_with fail
  go_loopw [11] (fun c wr => ∃ i : Nat, i ≤ 32 ∧ c = .int .i64 (i : Int) ∧ NI w wr (L51 (leV S i % 57896044618658097711785492504343953926634992332820282019728792003956564819968))) (fun c _ => 32 - (intOf c).toNat)
  case atStart => exact ⟨0, by omega, rfl, HM.out⟩
  case round =>
    clear HM
    obtain ⟨i, hi, rfl, ht⟩ := hrel
    have HT := hidden ht
    clear ht
    by_cases hlt : i < 32
    · have hlt' : (i : Int) < 32 := by omega
      have hv := HV.out.fresh HT.out.b
      obtain ⟨bb, oo, cp, e, hbl⟩ := hv.nonnil (by intro e; rw [e] at HSL; have := HSL.out; simp at this)
      rw [HSL.out] at e
      cases e
      have cb := hv.cellD i (by rw [HSL.out]; exact hlt)
      have hb := (S.getD i 0).toNat_lt
      obtain ⟨V, hV⟩ : ∃ V, V = leV S i % 57896044618658097711785492504343953926634992332820282019728792003956564819968 := ⟨_, rfl⟩
      have hVl : V < 256 ^ i := by rw [hV]; exact Nat.lt_of_le_of_lt (Nat.mod_le _ _) (leV_lt S i)
      have HN : Hid (leV S (i + 1) % 57896044618658097711785492504343953926634992332820282019728792003956564819968 = (V + (S.getD i 0).toNat * 256 ^ i) % 57896044618658097711785492504343953926634992332820282019728792003956564819968) := by
        show (leV S i + (S.getD i 0).toNat * 256 ^ i) % _ = _
        rw [hV, Nat.mod_add_mod]
      rw [← hV] at HT
      generalize (S.getD i 0).toNat = b at cb hb HN
      obtain ⟨g1, g2, g3⟩ := nb_all i V b hlt hVl (by omega)
      have HG3 := hidden g3
      have hk5 : 8 * i / 51 < 5 := by omega
      have hs50 : 8 * i % 51 ≤ 50 := by omega
      obtain ⟨wd, hwd⟩ : ∃ wd, wd = b * 2 ^ (8 * i % 51) := ⟨_, rfl⟩
      have hwl : wd ≤ 288230376151711744 := by
        have h1 : (2 : Nat) ^ (8 * i % 51) ≤ 2 ^ 50 := Nat.pow_le_pow_right (by omega) hs50
        rw [hwd]
        exact Nat.le_trans (Nat.mul_le_mul (show b ≤ 255 by omega) h1) (by decide)
      have hwi : (b : Int) * 2 ^ (8 * i % 51) = (wd : Int) := by rw [hwd]; simp
      have hww := m64w wd (by omega)
      have hwb := m64w b (by omega)
      have hand := mask51 wd (by omega)
      have c1 := HT.out.n.cell (8 * i / 51) (by rw [L51_length]; omega)
      have hf := HT.out.n.frozen
      have hor := or_lowS ((L51 V).getD (8 * i / 51) 0) wd (8 * i % 51) g1 (by rw [hwd]; exact mod_pow_zero b _ hs50) hs50
      have hdv : (wd : Int) / 2251799813685248 = ((wd / 2251799813685248 : Nat) : Int) := by omega
      unfold nbL at HG3
      rw [← hwd] at HG3
      have HN1 := hidden HN.out
      clear hV hVl HN g3
      by_cases h5 : 8 * i / 51 + 1 < 5
      · have h5' : 8 * (i : Int) / 51 + 1 < 5 := by omega
        rw [if_pos h5] at HG3
        have c2 := HT.out.n.cell (8 * i / 51 + 1) (by rw [L51_length]; omega)
        rw [g2 h5] at c2
        have hoz := or_zeroS (wd / 2251799813685248) (by omega)
        have HSet := hidden ((HT.out.set (8 * i / 51) ((L51 V).getD (8 * i / 51) 0 + wd % 2251799813685248)).set (8 * i / 51 + 1) (wd / 2251799813685248))
        generalize (L51 V).getD (8 * i / 51) 0 + wd % 2251799813685248 = z1 at hor HG3 HSet
        generalize (L51 V).getD (8 * i / 51) 0 = x1 at c1 hor
        generalize wd % 2251799813685248 = z0 at hand hor
        generalize wd / 2251799813685248 = z2 at hdv hoz HG3 HSet
        clear g1 g2 hwd hb hwl
        go_wp2
        go_roundw
        case rel =>
          refine ⟨i + 1, by omega, by go_num, ?_⟩
          rw [HN1.out, HG3.out]
          exact HSet.out
        case measure => simp [intOf]; omega
      · have h5' : ¬ 8 * (i : Int) / 51 + 1 < 5 := by omega
        rw [if_neg h5] at HG3
        have HSet := hidden (HT.out.set (8 * i / 51) ((L51 V).getD (8 * i / 51) 0 + wd % 2251799813685248))
        generalize (L51 V).getD (8 * i / 51) 0 + wd % 2251799813685248 = z1 at hor HG3 HSet
        generalize (L51 V).getD (8 * i / 51) 0 = x1 at c1 hor
        generalize wd % 2251799813685248 = z0 at hand hor
        clear g1 g2 hwd hb hwl hdv
        go_wp2
        go_roundw
        case rel =>
          refine ⟨i + 1, by omega, by go_num, ?_⟩
          rw [HN1.out, HG3.out]
          exact HSet.out
        case measure => simp [intOf]; omega
    · have hlt' : ¬ (i : Int) < 32 := by omega
      obtain rfl : i = 32 := by omega
      have HTm : Hid (Tm (L51 (numV S)) (numV S % pC)) := L51_tm _ (Nat.mod_lt _ (by decide))
      have HT2 : Hid (NI w wr (L51 (numV S))) := HT.out
      clear HT
      obtain ⟨hsz, hone, hdd⟩ := row_facts (L51 (numV S)) rfl
      have HPP : Hid (wr.heap[w.heap.size + 1]? = some (.cells (ncells .u64 (L51 (numV S))).toArray 40 (0, 0))) := HT2.out.n
      have HRR : Hid (wr.heap[w.heap.size]? = some (.cells (ncells .u64 [0, 0, 0, 0, 0]).toArray 40 (0, 0))) := HT2.out.r
      have HB4 := hidden HT2.out.b
      obtain ⟨R, hR⟩ : ∃ R, R = (ncells .u64 (L51 (numV S))).toArray := ⟨_, rfl⟩
      rw [← hR] at hsz hone hdd HPP
      have HRE := hidden hR
      have HSZ := hidden hsz
      have HON := hidden hone
      have HD := hidden hdd
      have HR1 : Hid ((wr.setRow w.heap.size R).heap[w.heap.size]? = some (.cells R 40 (0, 0))) := setRow_heap wr w.heap.size _ _ _ _ HRR.out
      have HL1 : Hid (Below w.heap.size w (wr.setRow w.heap.size R)) := below_setRow HB4.out (Nat.le_refl _) _
      clear hsz hone hdd HT2 hR
      go_wp2_with (first
        | (refine wpList_loadRow rfl 40 (.tmp 3) rfl (w.heap.size + 1) R 40 (0, 0) 5 38 rfl HPP.out Tryd.underlying40 HSZ.out ?_)
        | (refine wpList_store_row rfl 40 (.tmp 2) (.tmp 45) rfl w.heap.size R rfl rfl 40 _ HRR.out HSZ.out HD.out HON.out ?_))
      (try simp only [Exit.inBlock, Exit.then])
      refine bodyPost_ret (results_cell1 rfl _ _ _ w.heap.size R 40 (0, 0) 5 38 rfl HR1.out Tryd.underlying40 HSZ.out) rfl ?_
      exact ⟨_, rfl, ⟨L51 (numV S), by rw [HRE.out], HTm.out⟩, HL1.out⟩
end Go.Proofs.YtdgapijgdbhlfaaDoor
