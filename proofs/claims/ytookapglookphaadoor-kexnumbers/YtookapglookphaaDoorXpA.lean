/- The document's curve: numbers. -/
import Derived.Test.YtookapglookphaaDoorXcA
import Derived.Deep.QuietTactic
import Derived.BigQuiet
namespace Go.Proofs.YtookapglookphaaDoor
section
open Go Go.RowKit

/-- What the first n parts are worth. -/
def vI (L : List Int) : Nat → Int
  | 0 => 0
  | n + 1 => vI L n + L.getD n 0 * 65536 ^ n
theorem getD_setI (P : List Int) (k : Nat) (x : Int) (l : Nat) : (P.set k x).getD l 0 = if l = k ∧ k < P.length then x else P.getD l 0 := by
  simp only [List.getD_eq_getElem?_getD, List.getElem?_set]
  by_cases h : k = l
  · subst h
    by_cases h2 : k < P.length
    · simp [h2]
    · rw [if_pos rfl, if_neg h2, if_neg (fun h3 => h2 h3.2), List.getElem?_eq_none (by omega)]
  · rw [if_neg h, if_neg (fun h3 => h h3.1.symm)]
theorem vI_congr {L M : List Int} (n : Nat) (h : ∀ i, i < n → L.getD i 0 = M.getD i 0) : vI L n = vI M n := by
  induction n with
  | zero => rfl
  | succ n ih => rw [vI, vI, ih (fun i hi => h i (by omega)), h n (by omega)]
theorem vI_set (L : List Int) (k : Nat) (x : Int) (n : Nat) (hk : k < n) (hl : k < L.length) : vI (L.set k x) n = vI L n + (x - L.getD k 0) * 65536 ^ k := by
  induction n with
  | zero => omega
  | succ n ih =>
    rw [vI, vI]
    by_cases h : k = n
    · subst h
      rw [getD_setI, if_pos ⟨rfl, hl⟩, vI_congr (L := L.set k x) (M := L) k (fun i hi => by rw [getD_setI, if_neg (by omega)]), Int.sub_mul]
      omega
    · rw [ih (by omega), getD_setI, if_neg (by omega)]
      omega
/-- What goes on into part i. -/
def qp (L : List Int) : Nat → Int
  | 0 => 0
  | i + 1 => (L.getD i 0 + qp L i) / 65536
/-- The carry, behind i rounds. -/
def crTo (L : List Int) : Nat → List Int
  | 0 => L
  | i + 1 =>
    if i < 15 then ((crTo L i).set (i + 1) ((crTo L i).getD (i + 1) 0 + (crTo L i).getD i 0 / 65536)).set i ((crTo L i).getD i 0 - 65536 * ((crTo L i).getD i 0 / 65536))
    else ((crTo L i).set 0 ((crTo L i).getD 0 0 + 38 * ((crTo L i).getD i 0 / 65536))).set i ((crTo L i).getD i 0 - 65536 * ((crTo L i).getD i 0 / 65536))
theorem crTo_length (L : List Int) (i : Nat) : (crTo L i).length = L.length := by
  induction i with
  | zero => rfl
  | succ i ih => unfold crTo; split <;> simp [ih]
theorem crTo_form (L : List Int) (hL : L.length = 16) (i : Nat) (hi : i ≤ 15) (j : Nat) : (crTo L i).getD j 0 = if j < i then (L.getD j 0 + qp L j) % 65536 else if j = i then L.getD j 0 + qp L j else L.getD j 0 := by
  induction i generalizing j with
  | zero =>
    show L.getD j 0 = _
    rw [if_neg (by omega)]
    split
    · rename_i h; subst h; simp [qp]
    · rfl
  | succ i ih =>
    have hl := crTo_length L i
    have e1 := ih (by omega) i
    rw [if_neg (by omega), if_pos rfl] at e1
    have e2 := ih (by omega) (i + 1)
    rw [if_neg (by omega), if_neg (by omega)] at e2
    have ej := ih (by omega) j
    unfold crTo
    rw [if_pos (by omega), getD_setI, getD_setI, e1, e2, ej, List.length_set, hl, hL]
    by_cases h1 : j = i
    · subst h1
      rw [if_pos ⟨rfl, by omega⟩, if_pos (by omega)]
      omega
    · rw [if_neg (by omega)]
      by_cases h2 : j = i + 1
      · subst h2
        rw [if_pos ⟨rfl, by omega⟩, if_neg (by omega), if_pos rfl]
        rfl
      · rw [if_neg (by omega)]
        by_cases h3 : j < i
        · rw [if_pos h3, if_pos (by omega)]
        · rw [if_neg h3, if_neg h1, if_neg (by omega), if_neg h2]
theorem crTo_end (L : List Int) (hL : L.length = 16) (j : Nat) (hj : j < 16) : (crTo L 16).getD j 0 = if j = 0 then (L.getD 0 0 + qp L 0) % 65536 + 38 * qp L 16 else (L.getD j 0 + qp L j) % 65536 := by
  have hl := crTo_length L 15
  have e1 := crTo_form L hL 15 (by omega) 15
  rw [if_neg (by omega), if_pos rfl] at e1
  have e0 := crTo_form L hL 15 (by omega) 0
  rw [if_pos (by omega)] at e0
  have ej := crTo_form L hL 15 (by omega) j
  have hq : qp L 16 = (L.getD 15 0 + qp L 15) / 65536 := rfl
  rw [crTo, if_neg (by omega), getD_setI, getD_setI, e1, e0, ej, List.length_set, hl, hL, ← hq]
  by_cases h1 : j = 15
  · subst h1
    rw [if_pos ⟨rfl, by omega⟩, if_neg (by omega)]
    omega
  · rw [if_neg (by omega)]
    by_cases h2 : j = 0
    · subst h2
      rw [if_pos ⟨rfl, by omega⟩, if_pos rfl]
    · rw [if_neg (by omega), if_pos (by omega), if_neg h2]
theorem pow_step (i : Nat) : (65536 : Int) ^ (i + 1) = 65536 * 65536 ^ i := by rw [Int.pow_succ, Int.mul_comm]
/-- The carry leaves what the parts are worth, but for a multiple of twice the prime. -/
theorem crTo_val15 (L : List Int) (hL : L.length = 16) (i : Nat) (hi : i ≤ 15) : vI (crTo L i) 16 = vI L 16 := by
  induction i with
  | zero => rfl
  | succ i ih =>
    have hl := crTo_length L i
    have h := ih (by omega)
    unfold crTo
    rw [if_pos (by omega), vI_set _ i _ 16 (by omega) (by rw [List.length_set]; omega), vI_set _ (i + 1) _ 16 (by omega) (by omega), h, getD_setI, if_neg (by omega), pow_step]
    generalize (crTo L i).getD i 0 / 65536 = q
    generalize (crTo L i).getD i 0 = x
    generalize (crTo L i).getD (i + 1) 0 = y
    generalize (65536 : Int) ^ i = P
    rw [show y + q - y = q by omega, show x - 65536 * q - x = -(65536 * q) by omega, Int.neg_mul, Int.mul_comm 65536 q, Int.mul_assoc]
    omega
theorem crTo_val (L : List Int) (hL : L.length = 16) : vI (crTo L 16) 16 = vI L 16 - qp L 16 * 115792089237316195423570985008687907853269984665640564039457584007913129639898 := by
  have hl := crTo_length L 15
  have h := crTo_val15 L hL 15 (by omega)
  have e1 := crTo_form L hL 15 (by omega) 15
  rw [if_neg (by omega), if_pos rfl] at e1
  have hq : qp L 16 = (L.getD 15 0 + qp L 15) / 65536 := rfl
  rw [crTo, if_neg (by omega), vI_set _ 15 _ 16 (by omega) (by rw [List.length_set]; omega), vI_set _ 0 _ 16 (by omega) (by omega), h, getD_setI, if_neg (by omega), e1, ← hq]
  rw [show (65536 : Int) ^ 15 = 1766847064778384329583297500742918515827483896875618958121606201292619776 by decide +kernel, show (65536 : Int) ^ 0 = 1 from rfl]
  omega
theorem qp_bound (L : List Int) (M K : Int) (hM : ∀ j, -M ≤ L.getD j 0 ∧ L.getD j 0 ≤ M) (hK : M + K ≤ 65536 * K) (h0 : 0 ≤ K) (i : Nat) : -K ≤ qp L i ∧ qp L i ≤ K := by
  induction i with
  | zero => simp [qp]; omega
  | succ i ih =>
    have := hM i
    unfold qp
    omega
/-- A number that may be added, taken away or multiplied by itself. -/
structure Rb (L : List Int) (a : Nat) : Prop where
  len : L.length = 16
  bd : ∀ i, -131146 ≤ L.getD i 0 ∧ L.getD i 0 ≤ 131146
  val : vI L 16 % (pC : Int) = (a : Int)
/-- A number as a product leaves it. -/
structure Rc (L : List Int) (a : Nat) : Prop where
  len : L.length = 16
  low : -38 ≤ L.getD 0 0 ∧ L.getD 0 0 ≤ 65573
  rest : ∀ i, 0 < i → 0 ≤ L.getD i 0 ∧ L.getD i 0 ≤ 65535
  val : vI L 16 % (pC : Int) = (a : Int)
theorem Rc.all {L : List Int} {a : Nat} (h : Rc L a) (i : Nat) : -38 ≤ L.getD i 0 ∧ L.getD i 0 ≤ 65573 := by
  by_cases hi : i = 0
  · subst hi; exact h.low
  · have := h.rest i (by omega); omega
theorem Rc.rb {L : List Int} {a : Nat} (h : Rc L a) : Rb L a := ⟨h.len, fun i => by have := h.all i; omega, h.val⟩
theorem Rb.lt {L : List Int} {a : Nat} (h : Rb L a) : a < pC := by
  have := Int.emod_lt_of_pos (vI L 16) (show (0 : Int) < (pC : Int) by decide)
  rw [h.val] at this
  omega
/-- Two carries. -/
theorem carry_twice {L : List Int} (hL : L.length = 16) (hb : ∀ j, -200000000000000 ≤ L.getD j 0 ∧ L.getD j 0 ≤ 200000000000000) :
    (∀ j, -200000000000 ≤ (crTo L 16).getD j 0 ∧ (crTo L 16).getD j 0 ≤ 200000000000) ∧ ∃ a, Rc (crTo (crTo L 16) 16) a ∧ vI L 16 % (pC : Int) = (a : Int) := by
  have q1 := qp_bound L 200000000000000 3100000000 hb (by omega) (by omega)
  have hl := crTo_length L 16
  have f1 : ∀ j, j < 16 → (crTo L 16).getD j 0 = if j = 0 then (L.getD 0 0 + qp L 0) % 65536 + 38 * qp L 16 else (L.getD j 0 + qp L j) % 65536 := crTo_end L hL
  have b1 : ∀ j, 0 < j → 0 ≤ (crTo L 16).getD j 0 ∧ (crTo L 16).getD j 0 ≤ 65535 := by
    intro j hj
    by_cases h16 : j < 16
    · rw [f1 j h16, if_neg (by omega)]; omega
    · rw [List.getD_eq_getElem?_getD, List.getElem?_eq_none (by omega)]; simp
  have b0 : -200000000000 ≤ (crTo L 16).getD 0 0 ∧ (crTo L 16).getD 0 0 ≤ 200000000000 := by
    have := q1 16
    rw [f1 0 (by omega), if_pos rfl]
    omega
  have ball : ∀ j, -200000000000 ≤ (crTo L 16).getD j 0 ∧ (crTo L 16).getD j 0 ≤ 200000000000 := by
    intro j
    by_cases h : j = 0
    · subst h; exact b0
    · have := b1 j (by omega); omega
  refine ⟨ball, ?_⟩
  generalize hM : crTo L 16 = M at *
  have hl2 := crTo_length M 16
  have f2 := crTo_end M (by omega)
  have k1 : -3200000 ≤ qp M 1 ∧ qp M 1 ≤ 3200000 := by show -3200000 ≤ (M.getD 0 0 + 0) / 65536 ∧ (M.getD 0 0 + 0) / 65536 ≤ _; omega
  have k2 : -50 ≤ qp M 2 ∧ qp M 2 ≤ 50 := by have := b1 1 (by omega); show -50 ≤ (M.getD 1 0 + qp M 1) / 65536 ∧ (M.getD 1 0 + qp M 1) / 65536 ≤ _; omega
  have k3 : ∀ i, -1 ≤ qp M (i + 3) ∧ qp M (i + 3) ≤ 1 := by
    intro i
    induction i with
    | zero => have := b1 2 (by omega); show -1 ≤ (M.getD 2 0 + qp M 2) / 65536 ∧ (M.getD 2 0 + qp M 2) / 65536 ≤ _; omega
    | succ i ih => have := b1 (i + 3) (by omega); show -1 ≤ (M.getD (i + 3) 0 + qp M (i + 3)) / 65536 ∧ (M.getD (i + 3) 0 + qp M (i + 3)) / 65536 ≤ _; omega
  have k16 : -1 ≤ qp M 16 ∧ qp M 16 ≤ 1 := k3 13
  have v1 := crTo_val L hL
  have v2 := crTo_val M (by omega)
  rw [hM] at v1
  have hv : vI (crTo M 16) 16 % (pC : Int) = vI L 16 % (pC : Int) := by
    have : vI (crTo M 16) 16 = vI L 16 - (pC : Int) * (2 * qp L 16 + 2 * qp M 16) := by
      rw [v2, v1, show (pC : Int) = 57896044618658097711785492504343953926634992332820282019728792003956564819949 from rfl]
      omega
    rw [this, Int.sub_mul_emod_self_left]
  refine ⟨(vI L 16 % (pC : Int)).toNat, ⟨by omega, ?_, ?_, ?_⟩, ?_⟩
  · rw [f2 0 (by omega), if_pos rfl]
    omega
  · intro j hj
    by_cases h16 : j < 16
    · rw [f2 j h16, if_neg (by omega)]; omega
    · rw [List.getD_eq_getElem?_getD, List.getElem?_eq_none (by omega)]; simp
  · rw [hv, Int.toNat_of_nonneg (Int.emod_nonneg _ (by decide))]
  · rw [Int.toNat_of_nonneg (Int.emod_nonneg _ (by decide))]
end
section
open Go Go.RowKit

def icells (L : List Int) : List Value := L.map fun x : Int => Value.int .i64 x
theorem icells_length (L : List Int) : (icells L).length = L.length := by simp [icells]
/-- The block g holds the numbers L. -/
def IB (w : World) (g : Nat) (t : TypeId) (L : List Int) : Prop := w.heap[g]? = some (.cells (icells L).toArray t (0, 0))
section
variable {w : World} {g : Nat} {t : TypeId} {L : List Int}
theorem IB.lt (h : IB w g t L) : g < w.heap.size := lt_of_block h
theorem IB.cell (h : IB w g t L) (i : Nat) (hi : i < L.length) : w.cell? ⟨g, i, none⟩ = some (.int .i64 (L.getD i 0)) := by
  rw [cell_row h]
  simp [icells, hi]
theorem IB.frozen (h : IB w g t L) (i : Nat) : w.frozen? ⟨g, i, none⟩ = false := frozen_row h i
theorem IB.set (h : IB w g t L) (i : Nat) (x : Int) : IB (w.setCell ⟨g, i, none⟩ (.int .i64 x)) g t (L.set i x) := by
  unfold IB
  rw [heap_setCell_same _ _ _ _ _ _ h]
  simp [icells, List.map_set]
theorem IB.keep {S : Nat → Prop} {w' : World} (h : IB w g t L) (hk : Keeps S w w') (hn : ¬ S g) : IB w' g t L := (hk.block g (lt_of_block h) hn).trans h
theorem IB.fresh {w' : World} (h : IB w g t L) (hb : Below w.heap.size w w') : IB w' g t L := h.keep (S := fun _ => False) (Keeps.ofFresh hb) (fun h => h)
theorem IB.new (w : World) (L : List Int) : IB (w.alloc (.cells (icells L).toArray t)) w.heap.size t L := heap_alloc_new w _
end
theorem i64w (x : Int) (h : -9000000000000000000 ≤ x ∧ x ≤ 9000000000000000000) : IntKind.i64.wrap x = x := by rw [IntKind.wrap_i64]; omega
theorem crTo_bd (L : List Int) (M : Int) (hM : ∀ j, -M ≤ L.getD j 0 ∧ L.getD j 0 ≤ M) (h0 : 0 ≤ M) (hL : L.length = 16) (i : Nat) (hi : i ≤ 15) (j : Nat) : -(2 * M + 65536) ≤ (crTo L i).getD j 0 ∧ (crTo L i).getD j 0 ≤ 2 * M + 65536 := by
  have hq := qp_bound L M M hM (by omega) h0
  rw [crTo_form L hL i hi j]
  have := hM j
  have := hq j
  split
  · omega
  · split <;> omega

set_option maxHeartbeats 800000 in
set_option maxRecDepth 100000 in
theorem rcarry_c (g : Nat) (L : List Int) (hL : L.length = 16) (hb : ∀ j, -200000000000000 ≤ L.getD j 0 ∧ L.getD j 0 ≤ 200000000000000) (w : World) (h : IB w g 96 L) :
    Calls Tryd.prog 88 #[.pointer (some ⟨g, 0, none⟩)] w fun e w' => e = .returned (.tuple #[]) ∧ IB w' g 96 (crTo L 16) ∧ Keeps (fun k => k = g) w w' := by
  have HB := hidden (crTo_bd L 200000000000000 hb (by omega) hL)
  have H := hidden h
  clear hb h
  go_enter Tryd.func88, Tryd.ntmps88
  go_wp2_with fail
  go_loopw [2] (fun c wr => ∃ i : Nat, i ≤ 16 ∧ c = .int .i64 (i : Int) ∧ IB wr g 96 (crTo L i) ∧ Keeps (fun k => k = g) w wr) (fun c _ => 16 - (intOf c).toNat)
  case atStart => exact ⟨0, by omega, rfl, H.out, Keeps.refl _ w⟩
  case round =>
    clear H
    obtain ⟨i, hi, rfl, hn, hk⟩ := hrel
    have HN := hidden hn
    have HK := hidden hk
    clear hn hk
    by_cases hlt : i < 16
    · have hlt' : (i : Int) < 16 := by omega
      have hlen := crTo_length L i
      have hc := HN.out.cell i (by omega)
      have hf := HN.out.frozen
      have hbx := HB.out i (by omega) i
      obtain ⟨x, hx⟩ : ∃ x, x = (crTo L i).getD i 0 := ⟨_, rfl⟩
      rw [← hx] at hc hbx
      obtain ⟨x1, hx1⟩ : ∃ x1, x1 = x + 65536 := ⟨_, rfl⟩
      have hx12 : x + 65536 = x1 := hx1.symm
      have hw1 := i64w x1 (by omega)
      have HN1 : Hid (IB (wr.setCell ⟨g, i, none⟩ (.int .i64 x1)).drew g 96 ((crTo L i).set i x1)) := HN.out.set i _
      have HK1 : Hid (Keeps (fun k => k = g) w (wr.setCell ⟨g, i, none⟩ (.int .i64 x1)).drew) := (HK.out.setCell (p := ⟨g, i, none⟩) (.inl rfl) _).drew
      have HX := hidden hx
      obtain ⟨c, hc1⟩ : ∃ c, c = x1 / 65536 := ⟨_, rfl⟩
      have hcq : x1 / 65536 = c := hc1.symm
      have hcq1 : c = x / 65536 + 1 := by omega
      obtain ⟨cs, hcs1⟩ : ∃ cs, cs = c * 65536 := ⟨_, rfl⟩
      have hcs : c * 65536 = cs := hcs1.symm
      have hwc := i64w cs (by omega)
      obtain ⟨z, hz1⟩ : ∃ z, z = x1 - cs := ⟨_, rfl⟩
      have hz : x1 - cs = z := hz1.symm
      have hwzz := i64w z (by omega)
      clear hx
      have HX1 := hidden hx1
      have HC1 := hidden hc1
      have HCS1 := hidden hcs1
      have HZ1 := hidden hz1
      by_cases h15 : i < 15
      · have h15' : (i : Int) < 15 := by omega
        have hw0 : IntKind.i64.wrap ((i : Int) + 1) = (i : Int) + 1 := i64w _ (by omega)
        have hi1 : (i : Int) + 1 < 16 := by omega
        have HS : Hid (crTo L (i + 1) = ((crTo L i).set (i + 1) ((crTo L i).getD (i + 1) 0 + x / 65536)).set i (x - 65536 * (x / 65536))) := by
          show _ = _
          rw [crTo, if_pos h15, ← HX.out]
        have hby := HB.out i (by omega) (i + 1)
        obtain ⟨y, hy⟩ : ∃ y, y = (crTo L i).getD (i + 1) 0 := ⟨_, rfl⟩
        rw [← hy] at HS hby
        obtain ⟨yc, hyc⟩ : ∃ yc, yc = y + c := ⟨_, rfl⟩
        have hyc2 : y + c = yc := hyc.symm
        obtain ⟨y2, hy2⟩ : ∃ y2, y2 = yc - 1 := ⟨_, rfl⟩
        have hy3 : yc - 1 = y2 := hy2.symm
        have hwy := i64w yc (by omega)
        have hwz := i64w y2 (by omega)
        rw [show y + x / 65536 = y2 by omega, show x - 65536 * (x / 65536) = z by omega] at HS
        have HY := hidden hy
        clear hy hyc hy2
        clear hcq1 hbx hby hx1 hc1 hcs1 hz1
        go_wp2_with fail
        go_region
        go_upto_region 4 with fail
        generalize (wr.setCell ⟨g, i, none⟩ (.int .i64 x1)).drew = w1 at HN1 HK1 ⊢
        have d1 := HN1.out.cell i (by rw [List.length_set]; omega)
        rw [getD_setI, if_pos ⟨rfl, by omega⟩] at d1
        have d2 := HN1.out.cell (i + 1) (by rw [List.length_set]; omega)
        rw [getD_setI, if_neg (by omega), ← HY.out] at d2
        have f1 := HN1.out.frozen
        clear hc hf HN HK
        go_wp2_with fail
        go_region
        go_upto_region 8 with fail
        have HN2 : Hid (IB (w1.setCell ⟨g, i + 1, none⟩ (.int .i64 y2)).drew g 96 (((crTo L i).set i x1).set (i + 1) y2)) := HN1.out.set (i + 1) _
        have HK2 : Hid (Keeps (fun k => k = g) w (w1.setCell ⟨g, i + 1, none⟩ (.int .i64 y2)).drew) := (HK1.out.setCell (p := ⟨g, i + 1, none⟩) (.inl rfl) _).drew
        generalize (w1.setCell ⟨g, i + 1, none⟩ (.int .i64 y2)).drew = w2 at HN2 HK2 ⊢
        have d3 := HN2.out.cell i (by rw [List.length_set, List.length_set]; omega)
        rw [getD_setI, if_neg (by omega), getD_setI, if_pos ⟨rfl, by omega⟩] at d3
        have f2 := HN2.out.frozen
        clear d1 d2 f1 HN1 HK1
        go_wp2_with fail
        go_region
        go_wp2
        go_roundw
        case rel =>
          refine ⟨i + 1, by omega, by go_num, ?_, (HK2.out.setCell (p := ⟨g, i, none⟩) (.inl rfl) _).drew⟩
          rw [HS.out]
          have hset := HN2.out.set i z
          rw [show (((crTo L i).set i x1).set (i + 1) y2).set i z = ((crTo L i).set (i + 1) y2).set i z by rw [List.set_comm x1 y2 (by omega), List.set_set]] at hset
          exact hset
        case measure => simp [intOf]; omega
      · have h15' : ¬ (i : Int) < 15 := by omega
        obtain rfl : i = 15 := by omega
        have HS : Hid (crTo L 16 = ((crTo L 15).set 0 ((crTo L 15).getD 0 0 + 38 * (x / 65536))).set 15 (x - 65536 * (x / 65536))) := by
          show _ = _
          rw [crTo, if_neg h15, ← HX.out]
        have hby := HB.out 15 (by omega) 0
        obtain ⟨y, hy⟩ : ∃ y, y = (crTo L 15).getD 0 0 := ⟨_, rfl⟩
        rw [← hy] at HS hby
        obtain ⟨yc, hyc⟩ : ∃ yc, yc = c - 1 := ⟨_, rfl⟩
        have hyc2 : c - 1 = yc := hyc.symm
        obtain ⟨y1, hy1⟩ : ∃ y1, y1 = 38 * yc := ⟨_, rfl⟩
        have hy12 : 38 * yc = y1 := hy1.symm
        obtain ⟨y2, hy2⟩ : ∃ y2, y2 = y + y1 := ⟨_, rfl⟩
        have hy3 : y + y1 = y2 := hy2.symm
        have hwy := i64w yc (by omega)
        have hwy1 := i64w y1 (by omega)
        have hwz := i64w y2 (by omega)
        rw [show y + 38 * (x / 65536) = y2 by omega, show x - 65536 * (x / 65536) = z by omega] at HS
        have HY := hidden hy
        clear hy hyc hy1 hy2
        clear hcq1 hbx hby hx1 hc1 hcs1 hz1
        go_wp2_with fail
        go_region
        go_upto_region 4 with fail
        generalize (wr.setCell ⟨g, 15, none⟩ (.int .i64 x1)).drew = w1 at HN1 HK1 ⊢
        have d1 := HN1.out.cell 15 (by rw [List.length_set]; omega)
        rw [getD_setI, if_pos ⟨rfl, by omega⟩] at d1
        have d2 := HN1.out.cell 0 (by rw [List.length_set]; omega)
        rw [getD_setI, if_neg (by omega), ← HY.out] at d2
        have f1 := HN1.out.frozen
        clear hc hf HN HK
        go_wp2_with fail
        go_region
        go_upto_region 8 with fail
        have HN2 : Hid (IB (w1.setCell ⟨g, 0, none⟩ (.int .i64 y2)).drew g 96 (((crTo L 15).set 15 x1).set 0 y2)) := HN1.out.set 0 _
        have HK2 : Hid (Keeps (fun k => k = g) w (w1.setCell ⟨g, 0, none⟩ (.int .i64 y2)).drew) := (HK1.out.setCell (p := ⟨g, 0, none⟩) (.inl rfl) _).drew
        generalize (w1.setCell ⟨g, 0, none⟩ (.int .i64 y2)).drew = w2 at HN2 HK2 ⊢
        have d3 := HN2.out.cell 15 (by rw [List.length_set, List.length_set]; omega)
        rw [getD_setI, if_neg (by omega), getD_setI, if_pos ⟨rfl, by omega⟩] at d3
        have f2 := HN2.out.frozen
        clear d1 d2 f1 HN1 HK1
        go_wp2_with fail
        go_region
        go_wp2
        go_roundw
        case rel =>
          refine ⟨15 + 1, by omega, by go_num, ?_, (HK2.out.setCell (p := ⟨g, 15, none⟩) (.inl rfl) _).drew⟩
          rw [show 15 + 1 = 16 from rfl, HS.out]
          have hset := HN2.out.set 15 z
          rw [show (((crTo L 15).set 15 x1).set 0 y2).set 15 z = ((crTo L 15).set 0 y2).set 15 z by rw [List.set_comm x1 y2 (by omega), List.set_set]] at hset
          exact hset
        case measure => simp [intOf]
    · have hlt' : ¬ (i : Int) < 16 := by omega
      obtain rfl : i = 16 := by omega
      go_wp2
      go_end0
      exact ⟨rfl, HN.out, HK.out⟩
end
section
open Go Go.RowKit

def Z16 : List Int := [0, 0, 0, 0, 0, 0, 0, 0, 0, 0, 0, 0, 0, 0, 0, 0]
/-- Part by part, behind i rounds. -/
def zpTo (f : Int → Int → Int) (L M : List Int) : Nat → List Int
  | 0 => L
  | i + 1 => (zpTo f L M i).set i (f (L.getD i 0) (M.getD i 0))
theorem zpTo_length (f : Int → Int → Int) (L M : List Int) (i : Nat) : (zpTo f L M i).length = L.length := by
  induction i with
  | zero => rfl
  | succ i ih => simp [zpTo, ih]
theorem zpTo_off (f : Int → Int → Int) (L M : List Int) (i j : Nat) (h : i ≤ j) : (zpTo f L M i).getD j 0 = L.getD j 0 := by
  induction i with
  | zero => rfl
  | succ i ih => rw [zpTo, getD_setI, if_neg (by omega), ih (by omega)]
theorem zpTo_on (f : Int → Int → Int) (L M : List Int) (i j : Nat) (h : j < i) (hl : j < L.length) : (zpTo f L M i).getD j 0 = f (L.getD j 0) (M.getD j 0) := by
  induction i with
  | zero => omega
  | succ i ih =>
    rw [zpTo, getD_setI]
    split
    · rename_i e; rw [e.1]
    · exact ih (by rename_i e; rw [zpTo_length] at e; omega)
theorem vI_add (L M K : List Int) (n : Nat) (h : ∀ i, i < n → K.getD i 0 = L.getD i 0 + M.getD i 0) : vI K n = vI L n + vI M n := by
  induction n with
  | zero => rfl
  | succ n ih => rw [vI, vI, vI, ih (fun i hi => h i (by omega)), h n (by omega), Int.add_mul]; omega
theorem vI_sub (L M K : List Int) (n : Nat) (h : ∀ i, i < n → K.getD i 0 = L.getD i 0 - M.getD i 0) : vI K n = vI L n - vI M n := by
  induction n with
  | zero => rfl
  | succ n ih => rw [vI, vI, vI, ih (fun i hi => h i (by omega)), h n (by omega), Int.sub_mul]; omega
theorem radd_val {L M : List Int} {a b : Nat} (h : Rc L a) (k : Rc M b) : Rb (zpTo (· + ·) L M 16) (fadd a b) := by
  have hl := zpTo_length (· + ·) L M 16
  have hL := h.len
  have on : ∀ i, i < 16 → (zpTo (· + ·) L M 16).getD i 0 = L.getD i 0 + M.getD i 0 := fun i hi => zpTo_on _ L M 16 i hi (by omega)
  refine ⟨by omega, fun i => ?_, ?_⟩
  · by_cases hi : i < 16
    · have := h.all i
      have := k.all i
      rw [on i hi]
      omega
    · rw [List.getD_eq_getElem?_getD, List.getElem?_eq_none (by omega)]; simp
  · rw [vI_add L M _ 16 on, Int.add_emod, h.val, k.val]
    unfold fadd
    rw [Int.natCast_emod, Int.natCast_add]
theorem rsub_val {L M : List Int} {a b : Nat} (h : Rc L a) (k : Rc M b) : Rb (zpTo (· - ·) L M 16) (fsub a b) := by
  have hl := zpTo_length (· - ·) L M 16
  have hL := h.len
  have hb := k.rb.lt
  have on : ∀ i, i < 16 → (zpTo (· - ·) L M 16).getD i 0 = L.getD i 0 - M.getD i 0 := fun i hi => zpTo_on _ L M 16 i hi (by omega)
  refine ⟨by omega, fun i => ?_, ?_⟩
  · by_cases hi : i < 16
    · have := h.all i
      have := k.all i
      rw [on i hi]
      omega
    · rw [List.getD_eq_getElem?_getD, List.getElem?_eq_none (by omega)]; simp
  · rw [vI_sub L M _ 16 on, Int.sub_emod, h.val, k.val]
    unfold fsub
    have e : (((a + (pC - b)) % pC : Nat) : Int) = ((a : Int) + ((pC : Int) - (b : Int))) % (pC : Int) := by
      rw [Int.natCast_emod, Int.natCast_add, Int.natCast_sub (by omega)]
    rw [e, show (a : Int) + ((pC : Int) - (b : Int)) = (a : Int) - (b : Int) + (pC : Int) by omega, Int.add_emod_right]
/-- Both numbers and the answer's place. -/
structure QI (w : World) (m : List Int) (wr : World) (P : List Int) : Prop where
  n : IB wr w.heap.size 96 P
  m : IB wr (w.heap.size + 1) 96 m
  r : IB wr (w.heap.size + 2) 96 Z16
  b : Below w.heap.size w wr
theorem QI.start (w : World) (n m : List Int) :
    QI w m (((w.alloc (.cells (icells n).toArray 96)).alloc (.cells (icells m).toArray 96)).alloc (.cells (icells Z16).toArray 96)) n := by
  obtain ⟨w1, e1⟩ : ∃ x, x = w.alloc (.cells (icells n).toArray 96) := ⟨_, rfl⟩
  obtain ⟨w2, e2⟩ : ∃ x, x = w1.alloc (.cells (icells m).toArray 96) := ⟨_, rfl⟩
  obtain ⟨w3, e3⟩ : ∃ x, x = w2.alloc (.cells (icells Z16).toArray 96) := ⟨_, rfl⟩
  have s1 : w1.heap.size = w.heap.size + 1 := by rw [e1]; simp
  have s2 : w2.heap.size = w.heap.size + 2 := by rw [e2]; simp; omega
  have n1 : IB w1 w.heap.size 96 n := by rw [e1]; exact IB.new w _
  have n2 : IB w2 (w.heap.size + 1) 96 m := by rw [e2, ← s1]; exact IB.new w1 _
  have n3 : IB w3 (w.heap.size + 2) 96 Z16 := by rw [e3, ← s2]; exact IB.new w2 _
  have x1 : Ex w w1 := by rw [e1]; exact Ex.alloc w _
  have x2 : Ex w1 w2 := by rw [e2]; exact Ex.alloc w1 _
  have x3 : Ex w2 w3 := by rw [e3]; exact Ex.alloc w2 _
  rw [← e1, ← e2, ← e3]
  exact ⟨n1.fresh (x2.trans x3), n2.fresh x3, n3, x1.trans (x2.trans x3)⟩
theorem QI.keep {w : World} {m : List Int} {wr wr' : World} {P P' : List Int} (h : QI w m wr P) (hk : Keeps (fun k => k = w.heap.size) wr wr') (hp : IB wr' w.heap.size 96 P') : QI w m wr' P' :=
  ⟨hp, h.m.keep hk (by omega), h.r.keep hk (by omega), h.b.trans (hk.below (B := w.heap.size) h.b.size (by intro k e; omega))⟩
theorem QI.set {w : World} {m : List Int} {wr : World} {P : List Int} (h : QI w m wr P) (i : Nat) (x : Int) : QI w m (wr.setCell ⟨w.heap.size, i, none⟩ (.int .i64 x)).drew (P.set i x) :=
  h.keep ((Keeps.refl (fun k => k = w.heap.size) wr).setCell (p := ⟨w.heap.size, i, none⟩) (.inl rfl) _).drew (h.n.set i x)
theorem row16 (R0 : List Int) (h : R0.length = 16) : (Tryd.prog.info? 96).map (·.size) = some (icells R0).toArray.size ∧ (icells R0).toArray.all (·.oneCell') = true ∧ (icells Z16).toArray.size = (icells R0).toArray.size := by
  have hpl : (icells R0).toArray.size = 16 := by rw [List.size_toArray, icells_length]; omega
  exact ⟨by rw [hpl]; kernel_rfl, by simp [icells, Value.oneCell'], by rw [hpl]; rfl⟩
/-- The value of a number of the document's. -/
def IsB (v : Value) (a : Nat) : Prop := ∃ R, v = .agg (icells R).toArray ∧ Rb R a
def IsC (v : Value) (a : Nat) : Prop := ∃ R, v = .agg (icells R).toArray ∧ Rc R a
theorem IsC.b {v : Value} {a : Nat} (h : IsC v a) : IsB v a := by obtain ⟨R, h1, h2⟩ := h; exact ⟨R, h1, h2.rb⟩

set_option maxHeartbeats 800000 in
set_option maxRecDepth 100000 in
theorem radd_c {va vb : Value} {a b : Nat} (ha : IsC va a) (hb : IsC vb b) (w : World) :
    Calls Tryd.prog 63 #[va, vb] w fun e w' => ∃ v, e = .returned v ∧ IsB v (fadd a b) ∧ Ex w w' := by
  obtain ⟨L, rfl, h⟩ := ha
  obtain ⟨M, rfl, k⟩ := hb
  have HL := hidden h.all
  have HM := hidden k.all
  have hL := h.len
  have hM := k.len
  have HV := hidden (radd_val h k)
  have H := hidden (QI.start w L M)
  clear h k
  go_enter Tryd.func63, Tryd.ntmps63
  generalize hLA : (icells L).toArray = LA at H ⊢
  generalize hMA : (icells M).toArray = MA at H ⊢
  clear hLA hMA
  go_upto_region 1 with fail
  change Code.wp _ _ _ _ (((w.alloc (.cells LA 96)).alloc (.cells MA 96)).alloc (.cells (icells Z16).toArray 96))
  generalize ((w.alloc (.cells LA 96)).alloc (.cells MA 96)).alloc (.cells (icells Z16).toArray 96) = w3 at H ⊢
  rw [show w.heap.size + 1 + 1 = w.heap.size + 2 from rfl]
  go_wp2_with fail
  go_loopw [5] (fun c wr => ∃ i : Nat, i ≤ 16 ∧ c = .int .i64 (i : Int) ∧ QI w M wr (zpTo (· + ·) L M i)) (fun c _ => 16 - (intOf c).toNat)
  case atStart => exact ⟨0, by omega, rfl, H.out⟩
  case round =>
    clear H
    obtain ⟨i, hi, rfl, ht⟩ := hrel
    have HT := hidden ht
    clear ht
    by_cases hlt : i < 16
    · have hlt' : (i : Int) < 16 := by omega
      have hlen := zpTo_length (· + ·) L M i
      have hc := HT.out.n.cell i (by omega)
      have hc2 := HT.out.m.cell i (by omega)
      have hf := HT.out.n.frozen i
      rw [zpTo_off (· + ·) L M i i (Nat.le_refl _)] at hc
      have hb1 := HL.out i
      have hb2 := HM.out i
      obtain ⟨s, hs⟩ : ∃ s, s = L.getD i 0 + M.getD i 0 := ⟨_, rfl⟩
      have HS : Hid (zpTo (· + ·) L M (i + 1) = (zpTo (· + ·) L M i).set i s) := by rw [hs]; rfl
      have hs3 : L.getD i 0 + M.getD i 0 = s := hs.symm
      have hsw := i64w s (by omega)
      generalize L.getD i 0 = x at hc hs3
      generalize M.getD i 0 = y at hc2 hs3
      clear hb1 hb2 hs hlen
      go_wp2_with fail
      go_region
      go_wp2
      go_roundw
      case rel =>
        refine ⟨i + 1, by omega, by go_num, ?_⟩
        rw [HS.out]
        exact HT.out.set i s
      case measure => simp [intOf]; omega
    · have hlt' : ¬ (i : Int) < 16 := by omega
      obtain rfl : i = 16 := by omega
      obtain ⟨P, hP⟩ : ∃ P, P = zpTo (· + ·) L M 16 := ⟨_, rfl⟩
      rw [← hP] at HT HV
      clear hP HL HM
      obtain ⟨hsz, hone, hdd⟩ := row16 P HV.out.len
      have HPP : Hid (wr.heap[w.heap.size]? = some (.cells (icells P).toArray 96 (0, 0))) := HT.out.n
      have HRR : Hid (wr.heap[w.heap.size + 2]? = some (.cells (icells Z16).toArray 96 (0, 0))) := HT.out.r
      have HB4 := hidden HT.out.b
      obtain ⟨R, hR⟩ : ∃ R, R = (icells P).toArray := ⟨_, rfl⟩
      rw [← hR] at hsz hone hdd HPP
      have HRE := hidden hR
      have HSZ := hidden hsz
      have HON := hidden hone
      have HD := hidden hdd
      have HR1 : Hid ((wr.setRow (w.heap.size + 2) R).heap[w.heap.size + 2]? = some (.cells R 96 (0, 0))) := setRow_heap wr (w.heap.size + 2) _ _ _ _ HRR.out
      have HL1 : Hid (Below w.heap.size w (wr.setRow (w.heap.size + 2) R)) := below_setRow HB4.out (by omega) _
      clear hsz hone hdd HT hR
      go_wp2_with (first
        | (refine wpList_loadRow rfl 96 (.tmp 2) rfl w.heap.size R 96 (0, 0) 16 2 rfl HPP.out Tryd.underlying96 HSZ.out ?_)
        | (refine wpList_store_row rfl 96 (.tmp 4) (.tmp 19) rfl (w.heap.size + 2) R rfl rfl 96 _ HRR.out HSZ.out HD.out HON.out ?_))
      (try simp only [Exit.inBlock, Exit.then])
      refine bodyPost_ret (results_cell1 rfl _ _ _ (w.heap.size + 2) R 96 (0, 0) 16 2 rfl HR1.out Tryd.underlying96 HSZ.out) rfl ?_
      exact ⟨_, rfl, ⟨P, by rw [HRE.out], HV.out⟩, HL1.out⟩

set_option maxHeartbeats 800000 in
set_option maxRecDepth 100000 in
theorem rsub_c {va vb : Value} {a b : Nat} (ha : IsC va a) (hb : IsC vb b) (w : World) :
    Calls Tryd.prog 64 #[va, vb] w fun e w' => ∃ v, e = .returned v ∧ IsB v (fsub a b) ∧ Ex w w' := by
  obtain ⟨L, rfl, h⟩ := ha
  obtain ⟨M, rfl, k⟩ := hb
  have HL := hidden h.all
  have HM := hidden k.all
  have hL := h.len
  have hM := k.len
  have HV := hidden (rsub_val h k)
  have H := hidden (QI.start w L M)
  clear h k
  go_enter Tryd.func64, Tryd.ntmps64
  generalize hLA : (icells L).toArray = LA at H ⊢
  generalize hMA : (icells M).toArray = MA at H ⊢
  clear hLA hMA
  go_upto_region 1 with fail
  change Code.wp _ _ _ _ (((w.alloc (.cells LA 96)).alloc (.cells MA 96)).alloc (.cells (icells Z16).toArray 96))
  generalize ((w.alloc (.cells LA 96)).alloc (.cells MA 96)).alloc (.cells (icells Z16).toArray 96) = w3 at H ⊢
  rw [show w.heap.size + 1 + 1 = w.heap.size + 2 from rfl]
  go_wp2_with fail
  go_loopw [5] (fun c wr => ∃ i : Nat, i ≤ 16 ∧ c = .int .i64 (i : Int) ∧ QI w M wr (zpTo (· - ·) L M i)) (fun c _ => 16 - (intOf c).toNat)
  case atStart => exact ⟨0, by omega, rfl, H.out⟩
  case round =>
    clear H
    obtain ⟨i, hi, rfl, ht⟩ := hrel
    have HT := hidden ht
    clear ht
    by_cases hlt : i < 16
    · have hlt' : (i : Int) < 16 := by omega
      have hlen := zpTo_length (· - ·) L M i
      have hc := HT.out.n.cell i (by omega)
      have hc2 := HT.out.m.cell i (by omega)
      have hf := HT.out.n.frozen i
      rw [zpTo_off (· - ·) L M i i (Nat.le_refl _)] at hc
      have hb1 := HL.out i
      have hb2 := HM.out i
      obtain ⟨s, hs⟩ : ∃ s, s = L.getD i 0 - M.getD i 0 := ⟨_, rfl⟩
      have HS : Hid (zpTo (· - ·) L M (i + 1) = (zpTo (· - ·) L M i).set i s) := by rw [hs]; rfl
      have hs3 : L.getD i 0 - M.getD i 0 = s := hs.symm
      have hsw := i64w s (by omega)
      generalize L.getD i 0 = x at hc hs3
      generalize M.getD i 0 = y at hc2 hs3
      clear hb1 hb2 hs hlen
      go_wp2_with fail
      go_region
      go_wp2
      go_roundw
      case rel =>
        refine ⟨i + 1, by omega, by go_num, ?_⟩
        rw [HS.out]
        exact HT.out.set i s
      case measure => simp [intOf]; omega
    · have hlt' : ¬ (i : Int) < 16 := by omega
      obtain rfl : i = 16 := by omega
      obtain ⟨P, hP⟩ : ∃ P, P = zpTo (· - ·) L M 16 := ⟨_, rfl⟩
      rw [← hP] at HT HV
      clear hP HL HM
      obtain ⟨hsz, hone, hdd⟩ := row16 P HV.out.len
      have HPP : Hid (wr.heap[w.heap.size]? = some (.cells (icells P).toArray 96 (0, 0))) := HT.out.n
      have HRR : Hid (wr.heap[w.heap.size + 2]? = some (.cells (icells Z16).toArray 96 (0, 0))) := HT.out.r
      have HB4 := hidden HT.out.b
      obtain ⟨R, hR⟩ : ∃ R, R = (icells P).toArray := ⟨_, rfl⟩
      rw [← hR] at hsz hone hdd HPP
      have HRE := hidden hR
      have HSZ := hidden hsz
      have HON := hidden hone
      have HD := hidden hdd
      have HR1 : Hid ((wr.setRow (w.heap.size + 2) R).heap[w.heap.size + 2]? = some (.cells R 96 (0, 0))) := setRow_heap wr (w.heap.size + 2) _ _ _ _ HRR.out
      have HL1 : Hid (Below w.heap.size w (wr.setRow (w.heap.size + 2) R)) := below_setRow HB4.out (by omega) _
      clear hsz hone hdd HT hR
      go_wp2_with (first
        | (refine wpList_loadRow rfl 96 (.tmp 2) rfl w.heap.size R 96 (0, 0) 16 2 rfl HPP.out Tryd.underlying96 HSZ.out ?_)
        | (refine wpList_store_row rfl 96 (.tmp 4) (.tmp 19) rfl (w.heap.size + 2) R rfl rfl 96 _ HRR.out HSZ.out HD.out HON.out ?_))
      (try simp only [Exit.inBlock, Exit.then])
      refine bodyPost_ret (results_cell1 rfl _ _ _ (w.heap.size + 2) R 96 (0, 0) 16 2 rfl HR1.out Tryd.underlying96 HSZ.out) rfl ?_
      exact ⟨_, rfl, ⟨P, by rw [HRE.out], HV.out⟩, HL1.out⟩
end
section
open Go Go.RowKit

theorem vI_succ (L : List Int) (n : Nat) : vI L (n + 1) = vI L n + L.getD n 0 * 65536 ^ n := rfl
def Z31 : List Int := [0, 0, 0, 0, 0, 0, 0, 0, 0, 0, 0, 0, 0, 0, 0, 0, 0, 0, 0, 0, 0, 0, 0, 0, 0, 0, 0, 0, 0, 0, 0]
def muR (a b T : List Int) (i : Nat) : Nat → List Int
  | 0 => T
  | j + 1 => (muR a b T i j).set (i + j) ((muR a b T i j).getD (i + j) 0 + a.getD i 0 * b.getD j 0)
def muT (a b : List Int) : Nat → List Int
  | 0 => Z31
  | i + 1 => muR a b (muT a b i) i 16
theorem muR_length (a b T : List Int) (i j : Nat) : (muR a b T i j).length = T.length := by
  induction j with
  | zero => rfl
  | succ j ih => simp [muR, ih]
theorem muT_length (a b : List Int) (i : Nat) : (muT a b i).length = 31 := by
  induction i with
  | zero => rfl
  | succ i ih => rw [muT, muR_length, ih]
theorem prod_bd {x y : Int} (hx : -131146 ≤ x ∧ x ≤ 131146) (hy : -131146 ≤ y ∧ y ≤ 131146) : -17200000000 ≤ x * y ∧ x * y ≤ 17200000000 := by
  have h1 := Int.mul_nonneg (show 0 ≤ 131146 - x by omega) (show 0 ≤ 131146 - y by omega)
  have h2 := Int.mul_nonneg (show 0 ≤ 131146 + x by omega) (show 0 ≤ 131146 + y by omega)
  have h3 := Int.mul_nonneg (show 0 ≤ 131146 - x by omega) (show 0 ≤ 131146 + y by omega)
  have h4 := Int.mul_nonneg (show 0 ≤ 131146 + x by omega) (show 0 ≤ 131146 - y by omega)
  simp only [Int.sub_mul, Int.add_mul, Int.mul_sub, Int.mul_add] at h1 h2 h3 h4
  omega
theorem muR_bd {a b T : List Int} {B : Int} (ha : ∀ i, -131146 ≤ a.getD i 0 ∧ a.getD i 0 ≤ 131146) (hb : ∀ i, -131146 ≤ b.getD i 0 ∧ b.getD i 0 ≤ 131146) (hT : ∀ k, -B ≤ T.getD k 0 ∧ T.getD k 0 ≤ B) (i j k : Nat) : -(B + 17200000000 * j) ≤ (muR a b T i j).getD k 0 ∧ (muR a b T i j).getD k 0 ≤ B + 17200000000 * j := by
  induction j generalizing k with
  | zero => have := hT k; rw [muR]; omega
  | succ j ih =>
    have h1 := ih k
    have h2 := ih (i + j)
    have h3 := prod_bd (ha i) (hb j)
    rw [muR, getD_setI]
    split <;> omega
theorem muT_bd {a b : List Int} (ha : ∀ i, -131146 ≤ a.getD i 0 ∧ a.getD i 0 ≤ 131146) (hb : ∀ i, -131146 ≤ b.getD i 0 ∧ b.getD i 0 ≤ 131146) (i k : Nat) : -(275200000000 * i) ≤ (muT a b i).getD k 0 ∧ (muT a b i).getD k 0 ≤ 275200000000 * (i : Int) := by
  induction i generalizing k with
  | zero =>
    have : Z31.getD k 0 = 0 := by
      by_cases h : k < 31
      · have : ∀ k : Fin 31, Z31.getD k.val 0 = 0 := by decide
        exact this ⟨k, h⟩
      · rw [List.getD_eq_getElem?_getD, List.getElem?_eq_none (by simp [Z31]; omega)]; rfl
    rw [muT, this]
    omega
  | succ i ih =>
    have := muR_bd (B := 275200000000 * (i : Int)) ha hb (fun k => ih k) i 16 k
    rw [muT]
    omega
theorem muR_val {a b T : List Int} (hT : T.length = 31) (i j : Nat) (hi : i < 16) (hj : j ≤ 16) : vI (muR a b T i j) 31 = vI T 31 + a.getD i 0 * 65536 ^ i * vI b j := by
  induction j with
  | zero => simp [muR, vI]
  | succ j ih =>
    have hl := muR_length a b T i j
    rw [muR, vI_set _ (i + j) _ 31 (by omega) (by omega), ih (by omega), vI_succ b j]
    generalize (muR a b T i j).getD (i + j) 0 = x
    rw [show x + a.getD i 0 * b.getD j 0 - x = a.getD i 0 * b.getD j 0 by omega, Int.pow_add, Int.mul_add]
    have e : a.getD i 0 * b.getD j 0 * ((65536 : Int) ^ i * 65536 ^ j) = a.getD i 0 * 65536 ^ i * (b.getD j 0 * 65536 ^ j) := by
      rw [Int.mul_assoc, Int.mul_assoc, Int.mul_left_comm (b.getD j 0)]
    rw [e]
    omega
theorem zero_valI (n : Nat) : vI Z31 n = 0 := by
  induction n with
  | zero => rfl
  | succ n ih =>
    have : Z31.getD n 0 = 0 := by
      by_cases h : n < 31
      · have : ∀ k : Fin 31, Z31.getD k.val 0 = 0 := by decide
        exact this ⟨n, h⟩
      · rw [List.getD_eq_getElem?_getD, List.getElem?_eq_none (by simp [Z31]; omega)]; rfl
    rw [vI, ih, this]
    simp
theorem muT_val (a b : List Int) (i : Nat) (hi : i ≤ 16) : vI (muT a b i) 31 = vI a i * vI b 16 := by
  induction i with
  | zero => rw [muT, zero_valI, vI, Int.zero_mul]
  | succ i ih => rw [muT, muR_val (muT_length a b i) i 16 (by omega) (by omega), ih (by omega), vI_succ a i, Int.add_mul]
/-- The upper parts brought in again, behind i rounds. -/
def fdTo (T : List Int) : Nat → List Int
  | 0 => T
  | i + 1 => (fdTo T i).set i (T.getD i 0 + 38 * T.getD (i + 16) 0)
theorem fdTo_length (T : List Int) (i : Nat) : (fdTo T i).length = T.length := by
  induction i with
  | zero => rfl
  | succ i ih => simp [fdTo, ih]
theorem fdTo_off (T : List Int) (i j : Nat) (h : i ≤ j) : (fdTo T i).getD j 0 = T.getD j 0 := by
  induction i with
  | zero => rfl
  | succ i ih => rw [fdTo, getD_setI, if_neg (by omega), ih (by omega)]
theorem fdTo_on (T : List Int) (i j : Nat) (h : j < i) (hl : j < T.length) : (fdTo T i).getD j 0 = T.getD j 0 + 38 * T.getD (j + 16) 0 := by
  induction i with
  | zero => omega
  | succ i ih =>
    rw [fdTo, getD_setI]
    split
    · rename_i e; rw [e.1]
    · exact ih (by rename_i e; rw [fdTo_length] at e; omega)
theorem vI_split (T : List Int) (n : Nat) : vI T (16 + n) = vI T 16 + 65536 ^ 16 * vI (T.drop 16) n := by
  induction n with
  | zero => simp [vI]
  | succ n ih =>
    have e : (T.drop 16).getD n 0 = T.getD (16 + n) 0 := by rw [List.getD_eq_getElem?_getD, List.getElem?_drop, ← List.getD_eq_getElem?_getD]
    rw [← Nat.add_assoc, vI_succ T (16 + n), ih, vI_succ (T.drop 16) n, e, Int.pow_add, Int.mul_add, Int.mul_left_comm]
    omega
theorem vI_fold (T : List Int) (hT : T.length = 31) : vI (fdTo T 15) 16 = vI T 16 + 38 * vI (T.drop 16) 15 := by
  have h : ∀ i, i ≤ 15 → vI (fdTo T i) 16 = vI T 16 + 38 * vI (T.drop 16) i := by
    intro i hi
    induction i with
    | zero => simp [fdTo, vI]
    | succ i ih =>
      have hl := fdTo_length T i
      have e : (T.drop 16).getD i 0 = T.getD (i + 16) 0 := by rw [List.getD_eq_getElem?_getD, List.getElem?_drop, Nat.add_comm, ← List.getD_eq_getElem?_getD]
      rw [fdTo, vI_set _ i _ 16 (by omega) (by omega), ih (by omega), fdTo_off T i i (Nat.le_refl _), vI_succ (T.drop 16) i, e]
      generalize T.getD i 0 = x
      rw [show x + 38 * T.getD (i + 16) 0 - x = 38 * T.getD (i + 16) 0 by omega, Int.mul_add, Int.mul_assoc]
      omega
  exact h 15 (by omega)
/-- What is carried at last. -/
def cpI (T : List Int) : List Int := zpTo (fun _ y => y) Z16 (fdTo T 15) 16
theorem mulI_val {a b : List Int} {x y : Nat} (ha : Rb a x) (hb : Rb b y) :
    (cpI (muT a b 16)).length = 16 ∧ (∀ j, -200000000000000 ≤ (cpI (muT a b 16)).getD j 0 ∧ (cpI (muT a b 16)).getD j 0 ≤ 200000000000000) ∧ (∀ j, -200000000000 ≤ (crTo (cpI (muT a b 16)) 16).getD j 0 ∧ (crTo (cpI (muT a b 16)) 16).getD j 0 ≤ 200000000000) ∧ Rc (crTo (crTo (cpI (muT a b 16)) 16) 16) (fmul x y) := by
  obtain ⟨T, hT⟩ : ∃ T, T = muT a b 16 := ⟨_, rfl⟩
  have hTl : T.length = 31 := by rw [hT]; exact muT_length a b 16
  have hTb : ∀ k, -4403200000000 ≤ T.getD k 0 ∧ T.getD k 0 ≤ 4403200000000 := fun k => by have := muT_bd ha.bd hb.bd 16 k; rw [hT]; omega
  have hTv : vI T 31 = vI a 16 * vI b 16 := by rw [hT]; exact muT_val a b 16 (by omega)
  rw [← hT]
  have hl : (cpI T).length = 16 := by unfold cpI; rw [zpTo_length]; rfl
  have hon : ∀ i, i < 16 → (cpI T).getD i 0 = (fdTo T 15).getD i 0 := fun i hi => zpTo_on (fun _ y => y) Z16 (fdTo T 15) 16 i hi hi
  have hbd : ∀ j, -200000000000000 ≤ (cpI T).getD j 0 ∧ (cpI T).getD j 0 ≤ 200000000000000 := by
    intro j
    by_cases hj : j < 16
    · rw [hon j hj]
      have h1 := hTb j
      have h2 := hTb (j + 16)
      by_cases h15 : j < 15
      · rw [fdTo_on T 15 j h15 (by omega)]; omega
      · rw [fdTo_off T 15 j (by omega)]; omega
    · rw [List.getD_eq_getElem?_getD, List.getElem?_eq_none (by omega)]; simp
  obtain ⟨c1, z, c2, c3⟩ := carry_twice hl hbd
  refine ⟨hl, hbd, c1, ?_⟩
  have hz : z = fmul x y := by
    have h1 : vI (cpI T) 16 = vI (fdTo T 15) 16 := vI_congr 16 hon
    have h2 := vI_fold T hTl
    have h3 := vI_split T 15
    rw [show 16 + 15 = 31 from rfl, hTv] at h3
    have h4 : vI (cpI T) 16 = vI a 16 * vI b 16 - (pC : Int) * (2 * vI (T.drop 16) 15) := by
      rw [h1, h2, h3, show (65536 : Int) ^ 16 = 115792089237316195423570985008687907853269984665640564039457584007913129639936 by decide +kernel, show (pC : Int) = 57896044618658097711785492504343953926634992332820282019728792003956564819949 from rfl]
      omega
    rw [h4, Int.sub_mul_emod_self_left, Int.mul_emod, ha.val, hb.val] at c3
    have h5 : ((fmul x y : Nat) : Int) = (x : Int) * (y : Int) % (pC : Int) := by unfold fmul; rw [Int.natCast_emod, Int.natCast_mul]
    omega
  rw [← hz]
  exact c2
end
section
open Go Go.RowKit

/-- What lies ready while a product is made. -/
structure MI (w : World) (n m : List Int) (wr : World) (T : List Int) : Prop where
  n : IB wr w.heap.size 96 n
  m : IB wr (w.heap.size + 1) 96 m
  r : IB wr (w.heap.size + 2) 96 Z16
  t : IB wr (w.heap.size + 3) 127 T
  b : Below w.heap.size w wr
theorem MI.start (w : World) (n m : List Int) :
    MI w n m ((((w.alloc (.cells (icells n).toArray 96)).alloc (.cells (icells m).toArray 96)).alloc (.cells (icells Z16).toArray 96)).alloc (.cells (icells Z31).toArray 127)) Z31 := by
  have h := QI.start w n m
  generalize hw : ((w.alloc (.cells (icells n).toArray 96)).alloc (.cells (icells m).toArray 96)).alloc (.cells (icells Z16).toArray 96) = w3 at h ⊢
  have hs : w3.heap.size = w.heap.size + 3 := by rw [← hw]; simp
  have hk : Keeps (fun _ => False) w3 (w3.alloc (.cells (icells Z31).toArray 127)) := (Keeps.refl _ w3).alloc _
  refine ⟨h.n.keep hk (fun h => h), h.m.keep hk (fun h => h), h.r.keep hk (fun h => h), ?_, h.b.alloc (by omega) _⟩
  rw [← hs]
  exact IB.new w3 _
theorem MI.keep {w : World} {n m : List Int} {wr wr' : World} {P P' : List Int} (h : MI w n m wr P) {S : Nat → Prop} (hS : ∀ k, S k → w.heap.size + 3 ≤ k) (hk : Keeps S wr wr') (hp : IB wr' (w.heap.size + 3) 127 P') : MI w n m wr' P' :=
  ⟨h.n.keep hk (fun e => by have := hS _ e; omega), h.m.keep hk (fun e => by have := hS _ e; omega), h.r.keep hk (fun e => by have := hS _ e; omega), hp, h.b.trans (hk.below (B := w.heap.size) h.b.size (by intro k e; have := hS _ e; omega))⟩
theorem MI.set {w : World} {n m : List Int} {wr : World} {P : List Int} (h : MI w n m wr P) (i : Nat) (x : Int) : MI w n m (wr.setCell ⟨w.heap.size + 3, i, none⟩ (.int .i64 x)).drew (P.set i x) :=
  h.keep (S := fun k => k = w.heap.size + 3) (by omega) ((Keeps.refl (fun k => k = w.heap.size + 3) wr).setCell (p := ⟨w.heap.size + 3, i, none⟩) (.inl rfl) _).drew (h.t.set i x)

set_option maxHeartbeats 1600000 in
set_option maxRecDepth 100000 in
theorem rmul_c {va vb : Value} {a b : Nat} (ha : IsB va a) (hb : IsB vb b) (w : World) :
    Calls Tryd.prog 65 #[va, vb] w fun e w' => ∃ v, e = .returned v ∧ IsC v (fmul a b) ∧ Ex w w' := by
  obtain ⟨L, rfl, h⟩ := ha
  obtain ⟨M, rfl, k⟩ := hb
  have HL := hidden h.bd
  have HM := hidden k.bd
  have hL := h.len
  have hM := k.len
  have HV := hidden (mulI_val h k)
  have H := hidden (MI.start w L M)
  clear h k
  go_enter Tryd.func65, Tryd.ntmps65
  generalize hLA : (icells L).toArray = LA at H ⊢
  generalize hMA : (icells M).toArray = MA at H ⊢
  clear hLA hMA
  go_upto_region 2 with fail
  change Code.wp _ _ _ _ ((((w.alloc (.cells LA 96)).alloc (.cells MA 96)).alloc (.cells (icells Z16).toArray 96)).alloc (.cells (icells Z31).toArray 127))
  generalize (((w.alloc (.cells LA 96)).alloc (.cells MA 96)).alloc (.cells (icells Z16).toArray 96)).alloc (.cells (icells Z31).toArray 127) = w3 at H ⊢
  rw [show w.heap.size + 1 + 1 = w.heap.size + 2 from rfl, show w.heap.size + 2 + 1 = w.heap.size + 3 from rfl]
  go_wp2_with fail
  go_loopw [6, 7] (fun c _ wr => ∃ i : Nat, i ≤ 16 ∧ c = .int .i64 (i : Int) ∧ MI w L M wr (muT L M i)) (fun c _ _ => 16 - (intOf c).toNat)
  case atStart => exact ⟨0, by omega, rfl, H.out⟩
  case round =>
    clear H
    obtain ⟨i, hi, rfl, ht⟩ := hrel
    have HT := hidden ht
    clear ht
    by_cases hlt : i < 16
    · have hlt' : (i : Int) < 16 := by omega
      go_wp2_with fail
      obtain ⟨wo, ewo⟩ : ∃ x, x = wr := ⟨wr, rfl⟩
      subst ewo
      go_loopw [7] (fun c wr => ∃ j : Nat, j ≤ 16 ∧ c = .int .i64 (j : Int) ∧ MI w L M wr (muR L M (muT L M i) i j)) (fun c _ => 16 - (intOf c).toNat)
      case atStart => exact ⟨0, by omega, rfl, HT.out⟩
      case round =>
        clear HT
        obtain ⟨j, hj, rfl, ht⟩ := hrel
        have HT := hidden ht
        clear ht
        by_cases hltj : j < 16
        · have hltj' : (j : Int) < 16 := by omega
          have hpb := prod_bd (HL.out i) (HM.out j)
          have hTb := muR_bd (B := 275200000000 * (i : Int)) HL.out HM.out (fun k => muT_bd HL.out HM.out i k) i j (i + j)
          have hPl : (muR L M (muT L M i) i j).length = 31 := by rw [muR_length, muT_length]
          have hcn := HT.out.n.cell i (by omega)
          have hcm := HT.out.m.cell j (by omega)
          have hcp := HT.out.t.cell (i + j) (by omega)
          have hfz := HT.out.t.frozen
          obtain ⟨p, hp⟩ : ∃ p, p = L.getD i 0 * M.getD j 0 := ⟨_, rfl⟩
          have hp2 : L.getD i 0 * M.getD j 0 = p := hp.symm
          obtain ⟨s, hs⟩ : ∃ s, s = (muR L M (muT L M i) i j).getD (i + j) 0 + p := ⟨_, rfl⟩
          have hs2 : (muR L M (muT L M i) i j).getD (i + j) 0 + p = s := hs.symm
          have HS : Hid (muR L M (muT L M i) i (j + 1) = (muR L M (muT L M i) i j).set (i + j) s) := by rw [hs, hp]; rfl
          have hpw := i64w p (by omega)
          have hsw := i64w s (by omega)
          obtain ⟨kk, hkk⟩ : ∃ kk, kk = i + j := ⟨_, rfl⟩
          have hk2 : (i : Int) + (j : Int) = (kk : Int) := by omega
          have hk31 : (kk : Int) < 31 := by omega
          have hkw := i64w (kk : Int) (by omega)
          rw [← hkk] at hcp HS hs2
          generalize (muR L M (muT L M i) i j).getD kk 0 = x0 at hcp hs2
          generalize L.getD i 0 = x1 at hcn hp2
          generalize M.getD j 0 = x2 at hcm hp2
          clear hp hs hkk hpb hTb hPl
          go_wp2_with fail
          go_region
          go_wp2
          go_roundw
          case rel =>
            refine ⟨j + 1, by omega, by go_num, ?_⟩
            rw [HS.out]
            exact HT.out.set kk s
          case measure => simp [intOf]; omega
        · have hltj' : ¬ (j : Int) < 16 := by omega
          obtain rfl : j = 16 := by omega
          go_wp2
          go_roundw
          case rel => exact ⟨i + 1, by omega, by go_num, HT.out⟩
          case measure => simp [intOf]; omega
    · have hlt' : ¬ (i : Int) < 16 := by omega
      obtain rfl : i = 16 := by omega
      obtain ⟨T, hT⟩ : ∃ T, T = muT L M 16 := ⟨_, rfl⟩
      have hTb : ∀ k, -4403200000000 ≤ T.getD k 0 ∧ T.getD k 0 ≤ 4403200000000 := fun k => by have := muT_bd HL.out HM.out 16 k; rw [hT]; omega
      have hTl : T.length = 31 := by rw [hT]; exact muT_length L M 16
      rw [← hT] at HT HV
      have HTB := hidden hTb
      clear hT HL HM hTb
      go_upto_region 10 with fail
      change Code.wp _ _ _ _ (wr.alloc (.cells (icells Z16).toArray 96))
      obtain ⟨g8, hg8⟩ : ∃ x, x = wr.heap.size := ⟨_, rfl⟩
      have hg4 : w.heap.size + 4 ≤ g8 := by have := HT.out.t.lt; omega
      have hk8 : Keeps (fun _ => False) wr (wr.alloc (.cells (icells Z16).toArray 96)) := (Keeps.refl _ wr).alloc _
      have HT8 := hidden (HT.out.keep (S := fun _ => False) (fun _ h => h.elim) hk8 (HT.out.t.keep hk8 (fun h => h)))
      have HO8 : Hid (IB (wr.alloc (.cells (icells Z16).toArray 96)) g8 96 Z16) := by rw [hg8]; exact IB.new wr _
      rw [← hg8]
      generalize wr.alloc (.cells (icells Z16).toArray 96) = wa at HT8 HO8 ⊢
      clear HT hk8 hg8
      go_wp2_with fail
      go_loopw [9] (fun c wr => ∃ i : Nat, i ≤ 15 ∧ c = .int .i64 (i : Int) ∧ MI w L M wr (fdTo T i) ∧ IB wr g8 96 Z16) (fun c _ => 15 - (intOf c).toNat)
      case atStart => exact ⟨0, by omega, rfl, HT8.out, HO8.out⟩
      case round =>
        clear HT8 HO8
        obtain ⟨i, hi3, rfl, ht, ho⟩ := hrel
        have HT := hidden ht
        have HO := hidden ho
        clear ht ho
        by_cases hl3 : i < 15
        · have hl3' : (i : Int) < 15 := by omega
          have hPl : (fdTo T i).length = 31 := by rw [fdTo_length]; exact hTl
          have c1 := HT.out.t.cell i (by omega)
          have c2 := HT.out.t.cell (i + 16) (by omega)
          rw [fdTo_off T i i (Nat.le_refl _)] at c1
          rw [fdTo_off T i (i + 16) (by omega)] at c2
          have hf := HT.out.t.frozen
          have b1 := HTB.out i
          have b2 := HTB.out (i + 16)
          obtain ⟨p, hp⟩ : ∃ p, p = 38 * T.getD (i + 16) 0 := ⟨_, rfl⟩
          have hp2 : 38 * T.getD (i + 16) 0 = p := hp.symm
          obtain ⟨s, hs⟩ : ∃ s, s = T.getD i 0 + p := ⟨_, rfl⟩
          have hs2 : T.getD i 0 + p = s := hs.symm
          have HS : Hid (fdTo T (i + 1) = (fdTo T i).set i s) := by rw [hs, hp]; rfl
          have hpw := i64w p (by omega)
          have hsw := i64w s (by omega)
          have hk31 : (i : Int) + 16 < 31 := by omega
          have hkw := i64w ((i : Int) + 16) (by omega)
          generalize T.getD (i + 16) 0 = x2 at c2 hp2
          generalize T.getD i 0 = x1 at c1 hs2
          clear hp hs b1 b2 hPl
          go_wp2_with fail
          go_region
          go_wp2
          go_roundw
          case rel =>
            refine ⟨i + 1, by omega, by go_num, ?_, HO.out.keep (S := fun k => k = w.heap.size + 3) ((Keeps.refl (fun k => k = w.heap.size + 3) wr).setCell (p := ⟨w.heap.size + 3, i, none⟩) (.inl rfl) _).drew (by omega)⟩
            rw [HS.out]
            exact HT.out.set i s
          case measure => simp [intOf]; omega
        · have hl3' : ¬ (i : Int) < 15 := by omega
          obtain rfl : i = 15 := by omega
          obtain ⟨F, hF⟩ : ∃ F, F = fdTo T 15 := ⟨_, rfl⟩
          have hFl : F.length = 31 := by rw [hF, fdTo_length]; exact hTl
          have HCP : Hid (cpI T = zpTo (fun _ y => y) Z16 F 16) := by rw [hF]; rfl
          rw [← hF] at HT
          clear hF HTB
          go_wp2_with fail
          obtain ⟨wo, ewo⟩ : ∃ x, x = wr := ⟨wr, rfl⟩
          subst ewo
          go_loopw [10] (fun c wr => ∃ i : Nat, i ≤ 16 ∧ c = .int .i64 (i : Int) ∧ MI w L M wr F ∧ IB wr g8 96 (zpTo (fun _ y => y) Z16 F i)) (fun c _ => 16 - (intOf c).toNat)
          case atStart => exact ⟨0, by omega, rfl, HT.out, HO.out⟩
          case round =>
            clear HT HO
            obtain ⟨i, hi4, rfl, ht, ho⟩ := hrel
            have HT := hidden ht
            have HO := hidden ho
            clear ht ho
            by_cases hl4 : i < 16
            · have hl4' : (i : Int) < 16 := by omega
              have hi31 : (i : Int) < 31 := by omega
              have c1 := HT.out.t.cell i (by omega)
              have hol : (zpTo (fun _ y => y) Z16 F i).length = 16 := by rw [zpTo_length]; rfl
              have c2 := HO.out.cell i (by omega)
              have hf := HO.out.frozen
              have HS : Hid (zpTo (fun _ y => y) Z16 F (i + 1) = (zpTo (fun _ y => y) Z16 F i).set i (F.getD i 0)) := rfl
              generalize F.getD i 0 = x1 at c1 HS
              generalize (zpTo (fun _ y => y) Z16 F i).getD i 0 = x2 at c2
              clear hol
              go_wp2
              go_roundw
              case rel =>
                refine ⟨i + 1, by omega, by go_num, ?_, ?_⟩
                · exact HT.out.keep (S := fun k => k = g8) (by omega) ((Keeps.refl (fun k => k = g8) wr).setCell (p := ⟨g8, i, none⟩) (.inl rfl) _) (HT.out.t.keep (S := fun k => k = g8) ((Keeps.refl (fun k => k = g8) wr).setCell (p := ⟨g8, i, none⟩) (.inl rfl) _) (by omega))
                · rw [HS.out]
                  exact HO.out.set i x1
              case measure => simp [intOf]; omega
            · have hl4' : ¬ (i : Int) < 16 := by omega
              obtain rfl : i = 16 := by omega
              rw [← HCP.out] at HO
              obtain ⟨v1, v2, v3, v4⟩ := HV.out
              have HC1 := hidden (rcarry_c g8 (cpI T) v1 v2 wr HO.out)
              have HV3 : Hid (∀ j, -200000000000000 ≤ (crTo (cpI T) 16).getD j 0 ∧ (crTo (cpI T) 16).getD j 0 ≤ 200000000000000) := fun j => by have := v3 j; omega
              have HV4 := hidden v4
              have hQl : (crTo (cpI T) 16).length = 16 := by rw [crTo_length]; exact v1
              generalize crTo (cpI T) 16 = C1 at HC1 HV3 HV4 hQl
              clear v1 v2 v3 v4 HV HCP HO
              go_wp2_with fail
              refine HC1.out.mono ?_
              rintro e w5 ⟨rfl, hn5, hk5⟩
              have H5 := hidden (HT.out.keep (S := fun k => k = g8) (by omega) hk5 (HT.out.t.keep hk5 (by omega)))
              have HC2 := hidden (rcarry_c g8 C1 hQl HV3.out w5 hn5)
              generalize crTo C1 16 = C2 at HC2 HV4
              clear HC1 hn5 hk5 HT HV3
              go_wp2_with fail
              refine HC2.out.mono ?_
              rintro e w6 ⟨rfl, hn6, hk6⟩
              have H6 := hidden (H5.out.keep (S := fun k => k = g8) (by omega) hk6 (H5.out.t.keep hk6 (by omega)))
              have HN6 := hidden hn6
              clear HC2 hn6 hk6 H5
              obtain ⟨hsz, hone, hdd⟩ := row16 C2 HV4.out.len
              have HPP : Hid (w6.heap[g8]? = some (.cells (icells C2).toArray 96 (0, 0))) := HN6.out
              have HRR : Hid (w6.heap[w.heap.size + 2]? = some (.cells (icells Z16).toArray 96 (0, 0))) := H6.out.r
              have HB4 := hidden H6.out.b
              obtain ⟨R, hR⟩ : ∃ R, R = (icells C2).toArray := ⟨_, rfl⟩
              rw [← hR] at hsz hone hdd HPP
              have HRE := hidden hR
              have HSZ := hidden hsz
              have HON := hidden hone
              have HD := hidden hdd
              have HR1 : Hid ((w6.setRow (w.heap.size + 2) R).heap[w.heap.size + 2]? = some (.cells R 96 (0, 0))) := setRow_heap w6 (w.heap.size + 2) _ _ _ _ HRR.out
              have HL1 : Hid (Below w.heap.size w (w6.setRow (w.heap.size + 2) R)) := below_setRow HB4.out (by omega) _
              clear hsz hone hdd H6 hR HN6
              go_wp2_with (first
                | (refine wpList_loadRow rfl 96 (.tmp 8) rfl g8 R 96 (0, 0) 16 2 rfl HPP.out Tryd.underlying96 HSZ.out ?_)
                | (refine wpList_store_row rfl 96 (.tmp 4) (.tmp 62) rfl (w.heap.size + 2) R rfl rfl 96 _ HRR.out HSZ.out HD.out HON.out ?_))
              (try simp only [Exit.inBlock, Exit.then])
              refine bodyPost_ret (results_cell1 rfl _ _ _ (w.heap.size + 2) R 96 (0, 0) 16 2 rfl HR1.out Tryd.underlying96 HSZ.out) rfl ?_
              exact ⟨_, rfl, ⟨C2, by rw [HRE.out], HV4.out⟩, HL1.out⟩
end
end Go.Proofs.YtookapglookphaaDoor
