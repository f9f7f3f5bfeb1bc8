/- The document's sums and differences. -/
import Derived.Test.YtdgapijgdbhlfaaDoorCrA
namespace Go.Proofs.YtdgapijgdbhlfaaDoor
open Go Go.RowKit

def Z16 : List Int := [0, 0, 0, 0, 0, 0, 0, 0, 0, 0, 0, 0, 0, 0, 0, 0]
/-- Part by part, behind i rounds. -/
def zpTo (f : Int → Int → Int) (L M : List Int) : Nat → List Int
  | 0 => L
  | i + 1 => (zpTo f L M i).set i (f (L.getD i 0) (M.getD i 0))
theorem zpTo_length (f : Int → Int → Int) (L M : List Int) (i : Nat) : (zpTo f L M i).length = L.length := by
  induction i with
  | zero => rfl
  | succ i ih => simp [zpTo, ih]
theorem zpTo_off (f : Int → Int → Int) (L M : List Int) (i j : Nat) (h : i ≤ j) : (zpTo f L M i).getD j 0 = L.getD j 0 := by
  induction i with
  | zero => rfl
  | succ i ih => rw [zpTo, getD_setI, if_neg (by omega), ih (by omega)]
theorem zpTo_on (f : Int → Int → Int) (L M : List Int) (i j : Nat) (h : j < i) (hl : j < L.length) : (zpTo f L M i).getD j 0 = f (L.getD j 0) (M.getD j 0) := by
  induction i with
  | zero => omega
  | succ i ih =>
    rw [zpTo, getD_setI]
    split
    · rename_i e; rw [e.1]
    · exact ih (by rename_i e; rw [zpTo_length] at e; omega)
theorem vI_add (L M K : List Int) (n : Nat) (h : ∀ i, i < n → K.getD i 0 = L.getD i 0 + M.getD i 0) : vI K n = vI L n + vI M n := by
  induction n with
  | zero => rfl
  | succ n ih => rw [vI, vI, vI, ih (fun i hi => h i (by omega)), h n (by omega), Int.add_mul]; omega
theorem vI_sub (L M K : List Int) (n : Nat) (h : ∀ i, i < n → K.getD i 0 = L.getD i 0 - M.getD i 0) : vI K n = vI L n - vI M n := by
  induction n with
  | zero => rfl
  | succ n ih => rw [vI, vI, vI, ih (fun i hi => h i (by omega)), h n (by omega), Int.sub_mul]; omega
theorem radd_val {L M : List Int} {a b : Nat} (h : Rc L a) (k : Rc M b) : Rb (zpTo (· + ·) L M 16) (fadd a b) := by
  have hl := zpTo_length (· + ·) L M 16
  have hL := h.len
  have on : ∀ i, i < 16 → (zpTo (· + ·) L M 16).getD i 0 = L.getD i 0 + M.getD i 0 := fun i hi => zpTo_on _ L M 16 i hi (by omega)
  refine ⟨by omega, fun i => ?_, ?_⟩
  · by_cases hi : i < 16
    · have := h.all i
      have := k.all i
      rw [on i hi]
      omega
    · rw [List.getD_eq_getElem?_getD, List.getElem?_eq_none (by omega)]; simp
  · rw [vI_add L M _ 16 on, Int.add_emod, h.val, k.val]
    unfold fadd
    rw [Int.natCast_emod, Int.natCast_add]
theorem rsub_val {L M : List Int} {a b : Nat} (h : Rc L a) (k : Rc M b) : Rb (zpTo (· - ·) L M 16) (fsub a b) := by
  have hl := zpTo_length (· - ·) L M 16
  have hL := h.len
  have hb := k.rb.lt
  have on : ∀ i, i < 16 → (zpTo (· - ·) L M 16).getD i 0 = L.getD i 0 - M.getD i 0 := fun i hi => zpTo_on _ L M 16 i hi (by omega)
  refine ⟨by omega, fun i => ?_, ?_⟩
  · by_cases hi : i < 16
    · have := h.all i
      have := k.all i
      rw [on i hi]
      omega
    · rw [List.getD_eq_getElem?_getD, List.getElem?_eq_none (by omega)]; simp
  · rw [vI_sub L M _ 16 on, Int.sub_emod, h.val, k.val]
    unfold fsub
    have e : (((a + (pC - b)) % pC : Nat) : Int) = ((a : Int) + ((pC : Int) - (b : Int))) % (pC : Int) := by
      rw [Int.natCast_emod, Int.natCast_add, Int.natCast_sub (by omega)]
    rw [e, show (a : Int) + ((pC : Int) - (b : Int)) = (a : Int) - (b : Int) + (pC : Int) by omega, Int.add_emod_right]
/-- Both numbers and the answer's place. -/
structure QI (w : World) (m : List Int) (wr : World) (P : List Int) : Prop where
  n : IB wr w.heap.size 46 P
  m : IB wr (w.heap.size + 1) 46 m
  r : IB wr (w.heap.size + 2) 46 Z16
  b : Below w.heap.size w wr
theorem QI.start (w : World) (n m : List Int) :
    QI w m (((w.alloc (.cells (icells n).toArray 46)).alloc (.cells (icells m).toArray 46)).alloc (.cells (icells Z16).toArray 46)) n := by
  obtain ⟨w1, e1⟩ : ∃ x, x = w.alloc (.cells (icells n).toArray 46) := ⟨_, rfl⟩
  obtain ⟨w2, e2⟩ : ∃ x, x = w1.alloc (.cells (icells m).toArray 46) := ⟨_, rfl⟩
  obtain ⟨w3, e3⟩ : ∃ x, x = w2.alloc (.cells (icells Z16).toArray 46) := ⟨_, rfl⟩
  have s1 : w1.heap.size = w.heap.size + 1 := by rw [e1]; simp
  have s2 : w2.heap.size = w.heap.size + 2 := by rw [e2]; simp; omega
  have n1 : IB w1 w.heap.size 46 n := by rw [e1]; exact IB.new w _
  have n2 : IB w2 (w.heap.size + 1) 46 m := by rw [e2, ← s1]; exact IB.new w1 _
  have n3 : IB w3 (w.heap.size + 2) 46 Z16 := by rw [e3, ← s2]; exact IB.new w2 _
  have x1 : Ex w w1 := by rw [e1]; exact Ex.alloc w _
  have x2 : Ex w1 w2 := by rw [e2]; exact Ex.alloc w1 _
  have x3 : Ex w2 w3 := by rw [e3]; exact Ex.alloc w2 _
  rw [← e1, ← e2, ← e3]
  exact ⟨n1.fresh (x2.trans x3), n2.fresh x3, n3, x1.trans (x2.trans x3)⟩
theorem QI.keep {w : World} {m : List Int} {wr wr' : World} {P P' : List Int} (h : QI w m wr P) (hk : Keeps (fun k => k = w.heap.size) wr wr') (hp : IB wr' w.heap.size 46 P') : QI w m wr' P' :=
  ⟨hp, h.m.keep hk (by omega), h.r.keep hk (by omega), h.b.trans (hk.below (B := w.heap.size) h.b.size (by intro k e; omega))⟩
theorem QI.set {w : World} {m : List Int} {wr : World} {P : List Int} (h : QI w m wr P) (i : Nat) (x : Int) : QI w m (wr.setCell ⟨w.heap.size, i, none⟩ (.int .i64 x)).drew (P.set i x) :=
  h.keep ((Keeps.refl (fun k => k = w.heap.size) wr).setCell (p := ⟨w.heap.size, i, none⟩) (.inl rfl) _).drew (h.n.set i x)
theorem row16 (R0 : List Int) (h : R0.length = 16) : (Tryd.prog.info? 46).map (·.size) = some (icells R0).toArray.size ∧ (icells R0).toArray.all (·.oneCell') = true ∧ (icells Z16).toArray.size = (icells R0).toArray.size := by
  have hpl : (icells R0).toArray.size = 16 := by rw [List.size_toArray, icells_length]; omega
  exact ⟨by rw [hpl]; kernel_rfl, by simp [icells, Value.oneCell'], by rw [hpl]; rfl⟩
/-- The value of a number of the document's. -/
def IsB (v : Value) (a : Nat) : Prop := ∃ R, v = .agg (icells R).toArray ∧ Rb R a
def IsC (v : Value) (a : Nat) : Prop := ∃ R, v = .agg (icells R).toArray ∧ Rc R a
theorem IsC.b {v : Value} {a : Nat} (h : IsC v a) : IsB v a := by obtain ⟨R, h1, h2⟩ := h; exact ⟨R, h1, h2.rb⟩

set_option maxHeartbeats 800000 in
set_option maxRecDepth 100000 in
theorem radd_c {va vb : Value} {a b : Nat} (ha : IsC va a) (hb : IsC vb b) (w : World) :
    Calls Tryd.prog 22 #[va, vb] w fun e w' => ∃ v, e = .returned v ∧ IsB v (fadd a b) ∧ Ex w w' := by
  obtain ⟨L, rfl, h⟩ := ha
  obtain ⟨M, rfl, k⟩ := hb
  have HL := hidden h.all
  have HM := hidden k.all
  have hL := h.len
  have hM := k.len
  have HV := hidden (radd_val h k)
  have H := hidden (QI.start w L M)
  clear h k
  go_enter Tryd.func22, Tryd.ntmps22
  generalize hLA : (icells L).toArray = LA at H ⊢
  generalize hMA : (icells M).toArray = MA at H ⊢
  clear hLA hMA
  go_upto_region 1 with fail
  change Code.wp _ _ _ _ (((w.alloc (.cells LA 46)).alloc (.cells MA 46)).alloc (.cells (icells Z16).toArray 46))
  generalize ((w.alloc (.cells LA 46)).alloc (.cells MA 46)).alloc (.cells (icells Z16).toArray 46) = w3 at H ⊢
  rw [show w.heap.size + 1 + 1 = w.heap.size + 2 from rfl]
  go_wp2_with fail
  go_loopw [5] (fun c wr => ∃ i : Nat, i ≤ 16 ∧ c = .int .i64 (i : Int) ∧ QI w M wr (zpTo (· + ·) L M i)) (fun c _ => 16 - (intOf c).toNat)
  case atStart => exact ⟨0, by omega, rfl, H.out⟩
  case round =>
    clear H
    obtain ⟨i, hi, rfl, ht⟩ := hrel
    have HT := hidden ht
    clear ht
    by_cases hlt : i < 16
    · have hlt' : (i : Int) < 16 := by omega
      have hlen := zpTo_length (· + ·) L M i
      have hc := HT.out.n.cell i (by omega)
      have hc2 := HT.out.m.cell i (by omega)
      have hf := HT.out.n.frozen i
      rw [zpTo_off (· + ·) L M i i (Nat.le_refl _)] at hc
      have hb1 := HL.out i
      have hb2 := HM.out i
      obtain ⟨s, hs⟩ : ∃ s, s = L.getD i 0 + M.getD i 0 := ⟨_, rfl⟩
      have HS : Hid (zpTo (· + ·) L M (i + 1) = (zpTo (· + ·) L M i).set i s) := by rw [hs]; rfl
      have hs3 : L.getD i 0 + M.getD i 0 = s := hs.symm
      have hsw := i64w s (by omega)
      generalize L.getD i 0 = x at hc hs3
      generalize M.getD i 0 = y at hc2 hs3
      clear hb1 hb2 hs hlen
      go_wp2_with fail
      go_region
      go_wp2
      go_roundw
      case rel =>
        refine ⟨i + 1, by omega, by go_num, ?_⟩
        rw [HS.out]
        exact HT.out.set i s
      case measure => simp [intOf]; omega
    · have hlt' : ¬ (i : Int) < 16 := by omega
      obtain rfl : i = 16 := by omega
      obtain ⟨P, hP⟩ : ∃ P, P = zpTo (· + ·) L M 16 := ⟨_, rfl⟩
      rw [← hP] at HT HV
      clear hP HL HM
      obtain ⟨hsz, hone, hdd⟩ := row16 P HV.out.len
      have HPP : Hid (wr.heap[w.heap.size]? = some (.cells (icells P).toArray 46 (0, 0))) := HT.out.n
      have HRR : Hid (wr.heap[w.heap.size + 2]? = some (.cells (icells Z16).toArray 46 (0, 0))) := HT.out.r
      have HB4 := hidden HT.out.b
      obtain ⟨R, hR⟩ : ∃ R, R = (icells P).toArray := ⟨_, rfl⟩
      rw [← hR] at hsz hone hdd HPP
      have HRE := hidden hR
      have HSZ := hidden hsz
      have HON := hidden hone
      have HD := hidden hdd
      have HR1 : Hid ((wr.setRow (w.heap.size + 2) R).heap[w.heap.size + 2]? = some (.cells R 46 (0, 0))) := setRow_heap wr (w.heap.size + 2) _ _ _ _ HRR.out
      have HL1 : Hid (Below w.heap.size w (wr.setRow (w.heap.size + 2) R)) := below_setRow HB4.out (by omega) _
      clear hsz hone hdd HT hR
      go_wp2_with (first
        | (refine wpList_loadRow rfl 46 (.tmp 2) rfl w.heap.size R 46 (0, 0) 16 2 rfl HPP.out Tryd.underlying46 HSZ.out ?_)
        | (refine wpList_store_row rfl 46 (.tmp 4) (.tmp 19) rfl (w.heap.size + 2) R rfl rfl 46 _ HRR.out HSZ.out HD.out HON.out ?_))
      (try simp only [Exit.inBlock, Exit.then])
      refine bodyPost_ret (results_cell1 rfl _ _ _ (w.heap.size + 2) R 46 (0, 0) 16 2 rfl HR1.out Tryd.underlying46 HSZ.out) rfl ?_
      exact ⟨_, rfl, ⟨P, by rw [HRE.out], HV.out⟩, HL1.out⟩

set_option maxHeartbeats 800000 in
set_option maxRecDepth 100000 in
theorem rsub_c {va vb : Value} {a b : Nat} (ha : IsC va a) (hb : IsC vb b) (w : World) :
    Calls Tryd.prog 23 #[va, vb] w fun e w' => ∃ v, e = .returned v ∧ IsB v (fsub a b) ∧ Ex w w' := by
  obtain ⟨L, rfl, h⟩ := ha
  obtain ⟨M, rfl, k⟩ := hb
  have HL := hidden h.all
  have HM := hidden k.all
  have hL := h.len
  have hM := k.len
  have HV := hidden (rsub_val h k)
  have H := hidden (QI.start w L M)
  clear h k
  go_enter Tryd.func23, Tryd.ntmps23
  generalize hLA : (icells L).toArray = LA at H ⊢
  generalize hMA : (icells M).toArray = MA at H ⊢
  clear hLA hMA
  go_upto_region 1 with fail
  change Code.wp _ _ _ _ (((w.alloc (.cells LA 46)).alloc (.cells MA 46)).alloc (.cells (icells Z16).toArray 46))
  generalize ((w.alloc (.cells LA 46)).alloc (.cells MA 46)).alloc (.cells (icells Z16).toArray 46) = w3 at H ⊢
  rw [show w.heap.size + 1 + 1 = w.heap.size + 2 from rfl]
  go_wp2_with fail
  go_loopw [5] (fun c wr => ∃ i : Nat, i ≤ 16 ∧ c = .int .i64 (i : Int) ∧ QI w M wr (zpTo (· - ·) L M i)) (fun c _ => 16 - (intOf c).toNat)
  case atStart => exact ⟨0, by omega, rfl, H.out⟩
  case round =>
    clear H
    obtain ⟨i, hi, rfl, ht⟩ := hrel
    have HT := hidden ht
    clear ht
    by_cases hlt : i < 16
    · have hlt' : (i : Int) < 16 := by omega
      have hlen := zpTo_length (· - ·) L M i
      have hc := HT.out.n.cell i (by omega)
      have hc2 := HT.out.m.cell i (by omega)
      have hf := HT.out.n.frozen i
      rw [zpTo_off (· - ·) L M i i (Nat.le_refl _)] at hc
      have hb1 := HL.out i
      have hb2 := HM.out i
      obtain ⟨s, hs⟩ : ∃ s, s = L.getD i 0 - M.getD i 0 := ⟨_, rfl⟩
      have HS : Hid (zpTo (· - ·) L M (i + 1) = (zpTo (· - ·) L M i).set i s) := by rw [hs]; rfl
      have hs3 : L.getD i 0 - M.getD i 0 = s := hs.symm
      have hsw := i64w s (by omega)
      generalize L.getD i 0 = x at hc hs3
      generalize M.getD i 0 = y at hc2 hs3
      clear hb1 hb2 hs hlen
      go_wp2_with fail
      go_region
      go_wp2
      go_roundw
      case rel =>
        refine ⟨i + 1, by omega, by go_num, ?_⟩
        rw [HS.out]
        exact HT.out.set i s
      case measure => simp [intOf]; omega
    · have hlt' : ¬ (i : Int) < 16 := by omega
      obtain rfl : i = 16 := by omega
      obtain ⟨P, hP⟩ : ∃ P, P = zpTo (· - ·) L M 16 := ⟨_, rfl⟩
      rw [← hP] at HT HV
      clear hP HL HM
      obtain ⟨hsz, hone, hdd⟩ := row16 P HV.out.len
      have HPP : Hid (wr.heap[w.heap.size]? = some (.cells (icells P).toArray 46 (0, 0))) := HT.out.n
      have HRR : Hid (wr.heap[w.heap.size + 2]? = some (.cells (icells Z16).toArray 46 (0, 0))) := HT.out.r
      have HB4 := hidden HT.out.b
      obtain ⟨R, hR⟩ : ∃ R, R = (icells P).toArray := ⟨_, rfl⟩
      rw [← hR] at hsz hone hdd HPP
      have HRE := hidden hR
      have HSZ := hidden hsz
      have HON := hidden hone
      have HD := hidden hdd
      have HR1 : Hid ((wr.setRow (w.heap.size + 2) R).heap[w.heap.size + 2]? = some (.cells R 46 (0, 0))) := setRow_heap wr (w.heap.size + 2) _ _ _ _ HRR.out
      have HL1 : Hid (Below w.heap.size w (wr.setRow (w.heap.size + 2) R)) := below_setRow HB4.out (by omega) _
      clear hsz hone hdd HT hR
      go_wp2_with (first
        | (refine wpList_loadRow rfl 46 (.tmp 2) rfl w.heap.size R 46 (0, 0) 16 2 rfl HPP.out Tryd.underlying46 HSZ.out ?_)
        | (refine wpList_store_row rfl 46 (.tmp 4) (.tmp 19) rfl (w.heap.size + 2) R rfl rfl 46 _ HRR.out HSZ.out HD.out HON.out ?_))
      (try simp only [Exit.inBlock, Exit.then])
      refine bodyPost_ret (results_cell1 rfl _ _ _ (w.heap.size + 2) R 46 (0, 0) 16 2 rfl HR1.out Tryd.underlying46 HSZ.out) rfl ?_
      exact ⟨_, rfl, ⟨P, by rw [HRE.out], HV.out⟩, HL1.out⟩
end Go.Proofs.YtdgapijgdbhlfaaDoor
