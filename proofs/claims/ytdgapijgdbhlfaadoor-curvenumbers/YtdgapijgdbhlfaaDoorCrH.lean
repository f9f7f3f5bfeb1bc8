/- The document's read: the walk. -/
import Derived.Test.YtdgapijgdbhlfaaDoorCrG
namespace Go.Proofs.YtdgapijgdbhlfaaDoor
open Go Go.RowKit

structure DI (w wr : World) (L : List Int) : Prop where
  r : IB wr w.heap.size 46 Z16
  n : IB wr (w.heap.size + 1) 46 L
  b : Below w.heap.size w wr
theorem DI.set {w wr : World} {L : List Int} (h : DI w wr L) (i : Nat) (x : Int) : DI w (wr.setCell ⟨w.heap.size + 1, i, none⟩ (.int .i64 x)) (L.set i x) :=
  ⟨h.r.keep (S := fun k => k = w.heap.size + 1) ((Keeps.refl (fun k => k = w.heap.size + 1) wr).setCell (p := ⟨w.heap.size + 1, i, none⟩) (.inl rfl) _) (by omega), h.n.set i x, h.b.setCell (by show w.heap.size ≤ w.heap.size + 1; omega) _⟩
theorem DI.setd {w wr : World} {L : List Int} (h : DI w wr L) (i : Nat) (x : Int) : DI w (wr.setCell ⟨w.heap.size + 1, i, none⟩ (.int .i64 x)).drew (L.set i x) := by
  have := h.set i x
  exact ⟨this.r, this.n, this.b.drew⟩
theorem i64_and1 (n : Int) : bits .and .i64 n 1 = n % 2 := by
  have h1 : (BitVec.ofInt 64 1).toNat = 2 ^ 1 - 1 := by decide
  have h2 : (BitVec.ofInt 64 n &&& BitVec.ofInt 64 1).toNat = (n % ((2 ^ 64 : Nat) : Int)).toNat % 2 ^ 1 := by
    rw [BitVec.toNat_and, BitVec.toNat_ofInt, h1, Nat.and_two_pow_sub_one_eq_mod]
  show IntKind.i64.wrap ((BitVec.ofInt 64 n &&& BitVec.ofInt 64 1).toNat : Nat) = n % 2
  rw [h2, IntKind.wrap_i64]
  omega
theorem i64_and15 (n : Int) : bits .and .i64 n 32767 = n % 32768 := by
  have h1 : (BitVec.ofInt 64 32767).toNat = 2 ^ 15 - 1 := by decide
  have h2 : (BitVec.ofInt 64 n &&& BitVec.ofInt 64 32767).toNat = (n % ((2 ^ 64 : Nat) : Int)).toNat % 2 ^ 15 := by
    rw [BitVec.toNat_and, BitVec.toNat_ofInt, h1, Nat.and_two_pow_sub_one_eq_mod]
  show IntKind.i64.wrap ((BitVec.ofInt 64 n &&& BitVec.ofInt 64 32767).toNat : Nat) = n % 32768
  rw [h2, IntKind.wrap_i64]
  omega
theorem i64_and16 (n : Int) : bits .and .i64 n 65535 = n % 65536 := by
  have h1 : (BitVec.ofInt 64 65535).toNat = 2 ^ 16 - 1 := by decide
  have h2 : (BitVec.ofInt 64 n &&& BitVec.ofInt 64 65535).toNat = (n % ((2 ^ 64 : Nat) : Int)).toNat % 2 ^ 16 := by
    rw [BitVec.toNat_and, BitVec.toNat_ofInt, h1, Nat.and_two_pow_sub_one_eq_mod]
  show IntKind.i64.wrap ((BitVec.ofInt 64 n &&& BitVec.ofInt 64 65535).toNat : Nat) = n % 65536
  rw [h2, IntKind.wrap_i64]
  omega

set_option maxHeartbeats 800000 in
set_option maxRecDepth 100000 in
theorem rread_c (v : Value) (S : List UInt8) (hS : S.length = 32) (w : World) (h : BSl w v S) :
    Calls Tryd.prog 20 #[v] w fun e w' => ∃ r, e = .returned r ∧ IsC r (numV S % pC) ∧ Ex w w' := by
  have HV := hidden h
  obtain ⟨ao, cap, rfl, hc1, hc2, _⟩ := h
  rw [hS] at hc1
  go_enter Tryd.func20, Tryd.ntmps20
  go_upto_region 2 with fail
  change Code.wp _ _ _ _ ((w.alloc (.cells (icells Z16).toArray 46)).alloc (.cells (icells Z16).toArray 46))
  obtain ⟨w1, e1⟩ : ∃ x, x = w.alloc (.cells (icells Z16).toArray 46) := ⟨_, rfl⟩
  obtain ⟨w2, e2⟩ : ∃ x, x = w1.alloc (.cells (icells Z16).toArray 46) := ⟨_, rfl⟩
  rw [← e1, ← e2]
  have s1 : w1.heap.size = w.heap.size + 1 := by rw [e1]; simp
  have n1 : IB w1 w.heap.size 46 Z16 := by rw [e1]; exact IB.new w _
  have n2 : IB w2 (w.heap.size + 1) 46 Z16 := by rw [e2, ← s1]; exact IB.new w1 _
  have x1 : Ex w w1 := by rw [e1]; exact Ex.alloc w _
  have x2 : Ex w1 w2 := by rw [e2]; exact Ex.alloc w1 _
  have HM : Hid (DI w w2 (rdTo S 0)) := ⟨n1.fresh x2, n2, x1.trans x2⟩
  have HSL := hidden hS
  rw [hS]
  clear e1 e2 s1 n1 n2 x1 x2 hS
  go_wp2_with fail
  go_loopw [4] (fun c wr => ∃ i : Nat, i ≤ 16 ∧ c = .int .i64 (i : Int) ∧ DI w wr (rdTo S i)) (fun c _ => 16 - (intOf c).toNat)
  case atStart => exact ⟨0, by omega, rfl, HM.out⟩
  case round =>
    clear HM
    obtain ⟨i, hi, rfl, ht⟩ := hrel
    have HT := hidden ht
    clear ht
    by_cases hlt : i < 16
    · have hlt' : (i : Int) < 16 := by omega
      have hv := HV.out.fresh HT.out.b
      obtain ⟨bb, oo, cp, e, hbl⟩ := hv.nonnil (by intro e; rw [e] at HSL; have := HSL.out; simp at this)
      rw [HSL.out] at e
      cases e
      have cb0 := hv.cellD (2 * i) (by rw [HSL.out]; omega)
      have cb1 := hv.cellD (2 * i + 1) (by rw [HSL.out]; omega)
      have hb0 := (S.getD (2 * i) 0).toNat_lt
      have hb1 := (S.getD (2 * i + 1) 0).toNat_lt
      have hl := rdTo_length S i
      have c1 := HT.out.n.cell i (by omega)
      have hf := HT.out.n.frozen
      have HS : Hid (rdTo S (i + 1) = (rdTo S i).set i (((S.getD (2 * i) 0).toNat : Int) + ((S.getD (2 * i + 1) 0).toNat : Int) * 256)) := rfl
      generalize (S.getD (2 * i) 0).toNat = y0 at cb0 hb0 HS
      generalize (S.getD (2 * i + 1) 0).toNat = y1 at cb1 hb1 HS
      generalize (rdTo S i).getD i 0 = z at c1
      obtain ⟨m1, hm1⟩ : ∃ m1, m1 = (y1 : Int) * 256 := ⟨_, rfl⟩
      obtain ⟨s, hs⟩ : ∃ s, s = (y0 : Int) + m1 := ⟨_, rfl⟩
      have hm2 : (y1 : Int) * 256 = m1 := hm1.symm
      have hs2 : (y0 : Int) + m1 = s := hs.symm
      rw [hm2, hs2] at HS
      have hw0 := i64w (y0 : Int) (by omega)
      have hw1 := i64w (y1 : Int) (by omega)
      have hw2 := i64w m1 (by omega)
      have hw3 := i64w s (by omega)
      have hi2 : 2 * (i : Int) < 32 := by omega
      have hi3 : 2 * (i : Int) + 1 < 32 := by omega
      have hwi := i64w (2 * (i : Int)) (by omega)
      have hwj := i64w (2 * (i : Int) + 1) (by omega)
      clear hm1 hs hl hv hb0 hb1
      go_wp2_with fail
      go_region
      go_wp2
      go_roundw
      case rel =>
        refine ⟨i + 1, by omega, by go_num, ?_⟩
        rw [HS.out]
        exact HT.out.setd i s
      case measure => simp [intOf]; omega
    · have hlt' : ¬ (i : Int) < 16 := by omega
      obtain rfl : i = 16 := by omega
      have hl := rdTo_length S 16
      have c1 := HT.out.n.cell 15 (by omega)
      have hf := HT.out.n.frozen
      have hm := i64_and15 ((rdTo S 16).getD 15 0)
      obtain ⟨x, hx⟩ : ∃ x, x = (rdTo S 16).getD 15 0 % 32768 := ⟨_, rfl⟩
      have HRC := hidden (read_rc S x hx)
      rw [← hx] at hm
      have HS := hidden (HT.out.set 15 x)
      generalize (rdTo S 16).getD 15 0 = y at c1 hm
      obtain ⟨P, hP⟩ : ∃ P, P = (rdTo S 16).set 15 x := ⟨_, rfl⟩
      rw [← hP] at HRC HS
      clear hP hx hl HT
      go_upto_region 7 with fail
      generalize wr.setCell ⟨w.heap.size + 1, 15, none⟩ (.int .i64 x) = w5 at HS ⊢
      clear c1 hf hm
      obtain ⟨hsz, hone, hdd⟩ := row16 P HRC.out.len
      have HPP : Hid (w5.heap[w.heap.size + 1]? = some (.cells (icells P).toArray 46 (0, 0))) := HS.out.n
      have HRR : Hid (w5.heap[w.heap.size]? = some (.cells (icells Z16).toArray 46 (0, 0))) := HS.out.r
      have HB4 := hidden HS.out.b
      obtain ⟨R, hR⟩ : ∃ R, R = (icells P).toArray := ⟨_, rfl⟩
      rw [← hR] at hsz hone hdd HPP
      have HRE := hidden hR
      have HSZ := hidden hsz
      have HON := hidden hone
      have HD := hidden hdd
      have HR1 : Hid ((w5.setRow w.heap.size R).heap[w.heap.size]? = some (.cells R 46 (0, 0))) := setRow_heap w5 w.heap.size _ _ _ _ HRR.out
      have HL1 : Hid (Below w.heap.size w (w5.setRow w.heap.size R)) := below_setRow HB4.out (Nat.le_refl _) _
      clear hsz hone hdd HS hR
      go_wp2_with (first
        | (refine wpList_loadRow rfl 46 (.tmp 3) rfl (w.heap.size + 1) R 46 (0, 0) 16 2 rfl HPP.out Tryd.underlying46 HSZ.out ?_)
        | (refine wpList_store_row rfl 46 (.tmp 2) (.tmp 30) rfl w.heap.size R rfl rfl 46 _ HRR.out HSZ.out HD.out HON.out ?_))
      (try simp only [Exit.inBlock, Exit.then])
      refine bodyPost_ret (results_cell1 rfl _ _ _ w.heap.size R 46 (0, 0) 16 2 rfl HR1.out Tryd.underlying46 HSZ.out) rfl ?_
      exact ⟨_, rfl, ⟨P, by rw [HRE.out], HRC.out⟩, HL1.out⟩
end Go.Proofs.YtdgapijgdbhlfaaDoor
