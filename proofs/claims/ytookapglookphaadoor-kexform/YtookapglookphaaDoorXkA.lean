/- kdf: a block. -/
import Derived.Test.YtookapglookphaaDoorXaA
import Derived.BigRegion
import Derived.Deep.RegionWith
import Derived.Deep.Cut
import Derived.Deep.CutRange
import Derived.Laws.BitsAllLaws
namespace Go.Proofs.YtookapglookphaaDoor
section
open Go Go.RowKit

/-- A word turned to the right, spelt with the powers that the two shifts multiply and divide by. -/
def rr (p q x : Int) : Int := bits BinOp.or IntKind.u32 (x * p % 4294967296) (x / q)
theorem or_comm32 (x y : Int) : bits BinOp.or IntKind.u32 x y = bits BinOp.or IntKind.u32 y x := by
  show IntKind.u32.wrap (((BitVec.ofInt IntKind.u32.bits x ||| BitVec.ofInt IntKind.u32.bits y).toNat : Nat) : Int) = _
  rw [BitVec.or_comm]
  rfl
def r6 (x : Int) : Int := rr 67108864 64 x
def r11 (x : Int) : Int := rr 2097152 2048 x
def r25 (x : Int) : Int := rr 128 33554432 x
def r2 (x : Int) : Int := rr 1073741824 4 x
def r13 (x : Int) : Int := rr 524288 8192 x
def r22 (x : Int) : Int := rr 1024 4194304 x
def r17 (x : Int) : Int := rr 32768 131072 x
def r19 (x : Int) : Int := rr 8192 524288 x
def r7 (x : Int) : Int := rr 33554432 128 x
def r18 (x : Int) : Int := rr 16384 262144 x
section
variable (x : Int) (w : World)
theorem rot6_c : Calls Tryd.prog 105 #[.int .u32 x, .int .i64 (-6)] w fun e w' => e = .returned (.int .u32 (r6 x)) ∧ w' = w := by
  have h : bits BinOp.and IntKind.u64 (IntKind.u64.wrap (-6)) 31 = 26 := by decide +kernel
  go_enter Tryd.func105, Tryd.ntmps105
  go_wp2
  go_ret
  exact ⟨rfl, rfl⟩
theorem turn6_c : Calls Tryd.prog 69 #[.int .u32 x, .int .u64 6] w fun e w' => e = .returned (.int .u32 (r6 x)) ∧ w' = w := by
  have HO := hidden (or_comm32 (x * 67108864 % 4294967296) (x / 64))
  go_enter Tryd.func69, Tryd.ntmps69
  go_wp2
  go_ret
  refine ⟨?_, rfl⟩
  unfold r6 rr
  rw [HO.out]
  rfl
theorem rot11_c : Calls Tryd.prog 105 #[.int .u32 x, .int .i64 (-11)] w fun e w' => e = .returned (.int .u32 (r11 x)) ∧ w' = w := by
  have h : bits BinOp.and IntKind.u64 (IntKind.u64.wrap (-11)) 31 = 21 := by decide +kernel
  go_enter Tryd.func105, Tryd.ntmps105
  go_wp2
  go_ret
  exact ⟨rfl, rfl⟩
theorem turn11_c : Calls Tryd.prog 69 #[.int .u32 x, .int .u64 11] w fun e w' => e = .returned (.int .u32 (r11 x)) ∧ w' = w := by
  have HO := hidden (or_comm32 (x * 2097152 % 4294967296) (x / 2048))
  go_enter Tryd.func69, Tryd.ntmps69
  go_wp2
  go_ret
  refine ⟨?_, rfl⟩
  unfold r11 rr
  rw [HO.out]
  rfl
theorem rot25_c : Calls Tryd.prog 105 #[.int .u32 x, .int .i64 (-25)] w fun e w' => e = .returned (.int .u32 (r25 x)) ∧ w' = w := by
  have h : bits BinOp.and IntKind.u64 (IntKind.u64.wrap (-25)) 31 = 7 := by decide +kernel
  go_enter Tryd.func105, Tryd.ntmps105
  go_wp2
  go_ret
  exact ⟨rfl, rfl⟩
theorem turn25_c : Calls Tryd.prog 69 #[.int .u32 x, .int .u64 25] w fun e w' => e = .returned (.int .u32 (r25 x)) ∧ w' = w := by
  have HO := hidden (or_comm32 (x * 128 % 4294967296) (x / 33554432))
  go_enter Tryd.func69, Tryd.ntmps69
  go_wp2
  go_ret
  refine ⟨?_, rfl⟩
  unfold r25 rr
  rw [HO.out]
  rfl
theorem rot2_c : Calls Tryd.prog 105 #[.int .u32 x, .int .i64 (-2)] w fun e w' => e = .returned (.int .u32 (r2 x)) ∧ w' = w := by
  have h : bits BinOp.and IntKind.u64 (IntKind.u64.wrap (-2)) 31 = 30 := by decide +kernel
  go_enter Tryd.func105, Tryd.ntmps105
  go_wp2
  go_ret
  exact ⟨rfl, rfl⟩
theorem turn2_c : Calls Tryd.prog 69 #[.int .u32 x, .int .u64 2] w fun e w' => e = .returned (.int .u32 (r2 x)) ∧ w' = w := by
  have HO := hidden (or_comm32 (x * 1073741824 % 4294967296) (x / 4))
  go_enter Tryd.func69, Tryd.ntmps69
  go_wp2
  go_ret
  refine ⟨?_, rfl⟩
  unfold r2 rr
  rw [HO.out]
  rfl
theorem rot13_c : Calls Tryd.prog 105 #[.int .u32 x, .int .i64 (-13)] w fun e w' => e = .returned (.int .u32 (r13 x)) ∧ w' = w := by
  have h : bits BinOp.and IntKind.u64 (IntKind.u64.wrap (-13)) 31 = 19 := by decide +kernel
  go_enter Tryd.func105, Tryd.ntmps105
  go_wp2
  go_ret
  exact ⟨rfl, rfl⟩
theorem turn13_c : Calls Tryd.prog 69 #[.int .u32 x, .int .u64 13] w fun e w' => e = .returned (.int .u32 (r13 x)) ∧ w' = w := by
  have HO := hidden (or_comm32 (x * 524288 % 4294967296) (x / 8192))
  go_enter Tryd.func69, Tryd.ntmps69
  go_wp2
  go_ret
  refine ⟨?_, rfl⟩
  unfold r13 rr
  rw [HO.out]
  rfl
theorem rot22_c : Calls Tryd.prog 105 #[.int .u32 x, .int .i64 (-22)] w fun e w' => e = .returned (.int .u32 (r22 x)) ∧ w' = w := by
  have h : bits BinOp.and IntKind.u64 (IntKind.u64.wrap (-22)) 31 = 10 := by decide +kernel
  go_enter Tryd.func105, Tryd.ntmps105
  go_wp2
  go_ret
  exact ⟨rfl, rfl⟩
theorem turn22_c : Calls Tryd.prog 69 #[.int .u32 x, .int .u64 22] w fun e w' => e = .returned (.int .u32 (r22 x)) ∧ w' = w := by
  have HO := hidden (or_comm32 (x * 1024 % 4294967296) (x / 4194304))
  go_enter Tryd.func69, Tryd.ntmps69
  go_wp2
  go_ret
  refine ⟨?_, rfl⟩
  unfold r22 rr
  rw [HO.out]
  rfl
theorem rot17_c : Calls Tryd.prog 105 #[.int .u32 x, .int .i64 (-17)] w fun e w' => e = .returned (.int .u32 (r17 x)) ∧ w' = w := by
  have h : bits BinOp.and IntKind.u64 (IntKind.u64.wrap (-17)) 31 = 15 := by decide +kernel
  go_enter Tryd.func105, Tryd.ntmps105
  go_wp2
  go_ret
  exact ⟨rfl, rfl⟩
theorem turn17_c : Calls Tryd.prog 69 #[.int .u32 x, .int .u64 17] w fun e w' => e = .returned (.int .u32 (r17 x)) ∧ w' = w := by
  have HO := hidden (or_comm32 (x * 32768 % 4294967296) (x / 131072))
  go_enter Tryd.func69, Tryd.ntmps69
  go_wp2
  go_ret
  refine ⟨?_, rfl⟩
  unfold r17 rr
  rw [HO.out]
  rfl
theorem rot19_c : Calls Tryd.prog 105 #[.int .u32 x, .int .i64 (-19)] w fun e w' => e = .returned (.int .u32 (r19 x)) ∧ w' = w := by
  have h : bits BinOp.and IntKind.u64 (IntKind.u64.wrap (-19)) 31 = 13 := by decide +kernel
  go_enter Tryd.func105, Tryd.ntmps105
  go_wp2
  go_ret
  exact ⟨rfl, rfl⟩
theorem turn19_c : Calls Tryd.prog 69 #[.int .u32 x, .int .u64 19] w fun e w' => e = .returned (.int .u32 (r19 x)) ∧ w' = w := by
  have HO := hidden (or_comm32 (x * 8192 % 4294967296) (x / 524288))
  go_enter Tryd.func69, Tryd.ntmps69
  go_wp2
  go_ret
  refine ⟨?_, rfl⟩
  unfold r19 rr
  rw [HO.out]
  rfl
theorem rot7_c : Calls Tryd.prog 105 #[.int .u32 x, .int .i64 (-7)] w fun e w' => e = .returned (.int .u32 (r7 x)) ∧ w' = w := by
  have h : bits BinOp.and IntKind.u64 (IntKind.u64.wrap (-7)) 31 = 25 := by decide +kernel
  go_enter Tryd.func105, Tryd.ntmps105
  go_wp2
  go_ret
  exact ⟨rfl, rfl⟩
theorem turn7_c : Calls Tryd.prog 69 #[.int .u32 x, .int .u64 7] w fun e w' => e = .returned (.int .u32 (r7 x)) ∧ w' = w := by
  have HO := hidden (or_comm32 (x * 33554432 % 4294967296) (x / 128))
  go_enter Tryd.func69, Tryd.ntmps69
  go_wp2
  go_ret
  refine ⟨?_, rfl⟩
  unfold r7 rr
  rw [HO.out]
  rfl
theorem rot18_c : Calls Tryd.prog 105 #[.int .u32 x, .int .i64 (-18)] w fun e w' => e = .returned (.int .u32 (r18 x)) ∧ w' = w := by
  have h : bits BinOp.and IntKind.u64 (IntKind.u64.wrap (-18)) 31 = 14 := by decide +kernel
  go_enter Tryd.func105, Tryd.ntmps105
  go_wp2
  go_ret
  exact ⟨rfl, rfl⟩
theorem turn18_c : Calls Tryd.prog 69 #[.int .u32 x, .int .u64 18] w fun e w' => e = .returned (.int .u32 (r18 x)) ∧ w' = w := by
  have HO := hidden (or_comm32 (x * 16384 % 4294967296) (x / 262144))
  go_enter Tryd.func69, Tryd.ntmps69
  go_wp2
  go_ret
  refine ⟨?_, rfl⟩
  unfold r18 rr
  rw [HO.out]
  rfl
end
end
section
open Go Go.RowKit

def wcells (L : List Int) : List Value := L.map (Value.int .u32)
/-- Block g holds the words L. -/
def WB (w : World) (g : Nat) (t : TypeId) (L : List Int) : Prop := w.heap[g]? = some (.cells (wcells L).toArray t (0, 0))

theorem WB.cell {w : World} {g : Nat} {t : TypeId} {L : List Int} (h : WB w g t L) (i : Nat) (hi : i < L.length) : w.cell? ⟨g, i, none⟩ = some (.int .u32 (L.getD i 0)) := by
  have h' : w.heap[g]? = some (.cells (wcells L).toArray t (0, 0)) := h
  simp [World.cell?, h', wcells, List.getElem?_eq_getElem hi]
theorem WB.frozen {w : World} {g : Nat} {t : TypeId} {L : List Int} (h : WB w g t L) (i : Nat) : w.frozen? ⟨g, i, none⟩ = false := by
  have h' : w.heap[g]? = some (.cells (wcells L).toArray t (0, 0)) := h
  simp [World.frozen?, h']
theorem WB.set {w : World} {g : Nat} {t : TypeId} {L : List Int} (h : WB w g t L) (i : Nat) (x : Int) : WB (w.setCell ⟨g, i, none⟩ (.int .u32 x)) g t (L.set i x) := by
  unfold WB at *
  rw [heap_setCell_same _ _ _ _ _ _ h]
  simp [wcells, List.map_set]
theorem WB.drew {w : World} {g : Nat} {t : TypeId} {L : List Int} (h : WB w g t L) : WB w.drew g t L := h
theorem WB.keep {S : Nat → Prop} {w w' : World} {g : Nat} {t : TypeId} {L : List Int} (h : WB w g t L) (hk : Keeps S w w') (hn : ¬ S g) : WB w' g t L :=
  (hk.block g (lt_of_block h) hn).trans h
theorem wcells_length (L : List Int) : (wcells L).length = L.length := by simp [wcells]

def x32 (x y : Int) : Int := bits BinOp.xor IntKind.u32 x y
def a32 (x y : Int) : Int := bits BinOp.and IntKind.u32 x y
def n32 (x : Int) : Int := bits BinOp.xor IntKind.u32 IntKind.u32.max x
def bigE (e : Int) : Int := x32 (x32 (r6 e) (r11 e)) (r25 e)
def bigA (a : Int) : Int := x32 (x32 (r2 a) (r13 a)) (r22 a)
def choice (e f g : Int) : Int := x32 (a32 e f) (a32 (n32 e) g)
def major (a b c : Int) : Int := x32 (x32 (a32 a b) (a32 a c)) (a32 b c)
/-- One round: two new words, the others one place on. -/
def roundL : List Int → Int → List Int
  | [a, b, c, d, e, f, g, h], x => [(h + bigE e + choice e f g + x + bigA a + major a b c) % 4294967296, a, b, c, (d + (h + bigE e + choice e f g + x)) % 4294967296, e, f, g]
  | L, _ => L

set_option maxHeartbeats 1600000 in
set_option maxRecDepth 100000 in
theorem round_c (g0 : Nat) (a b c d e f g h x : Int) (w : World) (hw : WB w g0 115 [a, b, c, d, e, f, g, h]) :
    Calls Tryd.prog 99 #[.pointer (some ⟨g0, 0, none⟩), .int .u32 x] w fun en w' => en = .returned (.tuple #[]) ∧ WB w' g0 115 (roundL [a, b, c, d, e, f, g, h] x) ∧ Keeps (fun k => k = g0) w w' := by
  have c0 := hw.cell 0 (by simp)
  have c1 := hw.cell 1 (by simp)
  have c2 := hw.cell 2 (by simp)
  have c3 := hw.cell 3 (by simp)
  have c4 := hw.cell 4 (by simp)
  have c5 := hw.cell 5 (by simp)
  have c6 := hw.cell 6 (by simp)
  have c7 := hw.cell 7 (by simp)
  have fz := hw.frozen
  simp only [List.getD_cons_zero, List.getD_cons_succ] at c0 c1 c2 c3 c4 c5 c6 c7
  have HW := hidden hw
  have hsg : ¬ IntKind.u32.signed = true := by decide
  clear hw
  go_enter Tryd.func99, Tryd.ntmps99
  go_wp2_with fail
  refine region_ord [0,1,2,4,5,6,8,9,10,12,13,14,16,17,18,20,21,22,3,24,7,25,11,26,15,27,19,28,23,29] (by kernel_rfl) (by kernel_rfl) fun K9 H9 => ?_
  simp only [List.filterMap_cons, List.filterMap_nil, List.getElem?_toArray, List.getElem?_cons_succ, List.getElem?_cons_zero]
  go_wp2_with fail
  refine (rot6_c _ _).mono ?_
  rintro en w1 ⟨rfl, rfl⟩
  go_wp2_with fail
  refine (rot11_c _ _).mono ?_
  rintro en w1 ⟨rfl, rfl⟩
  go_wp2_with fail
  refine (rot25_c _ _).mono ?_
  rintro en w1 ⟨rfl, rfl⟩
  go_wp2_with fail
  refine (rot2_c _ _).mono ?_
  rintro en w1 ⟨rfl, rfl⟩
  go_wp2_with fail
  refine (rot13_c _ _).mono ?_
  rintro en w1 ⟨rfl, rfl⟩
  go_wp2_with fail
  refine (rot22_c _ _).mono ?_
  rintro en w1 ⟨rfl, rfl⟩
  go_wp2_with fail
  go_big_region
  go_wp2_with fail
  go_big_region
  go_wp2
  go_end0
  refine ⟨rfl, ((((((((((HW.out.set 7 g).set 6 f).set 5 e).set 4 _).set 3 c).set 2 b).set 1 a).set 0 _).drew).drew).drew, ?_⟩
  exact (((((((((((Keeps.refl (fun k => k = g0) w).setCell (p := ⟨g0, 7, none⟩) (.inl rfl) _).setCell (p := ⟨g0, 6, none⟩) (.inl rfl) _).setCell (p := ⟨g0, 5, none⟩) (.inl rfl) _).setCell (p := ⟨g0, 4, none⟩) (.inl rfl) _).setCell (p := ⟨g0, 3, none⟩) (.inl rfl) _).setCell (p := ⟨g0, 2, none⟩) (.inl rfl) _).setCell (p := ⟨g0, 1, none⟩) (.inl rfl) _).setCell (p := ⟨g0, 0, none⟩) (.inl rfl) _).drew).drew).drew
/-- The same for any eight words. -/
theorem list8 {L : List Int} (h : L.length = 8) : ∃ a b c d e f g k, L = [a, b, c, d, e, f, g, k] := by
  match L, h with
  | [a0, a1, a2, a3, a4, a5, a6, a7], _ => exact ⟨a0, a1, a2, a3, a4, a5, a6, a7, rfl⟩
theorem roundL_length (L : List Int) (x : Int) : (roundL L x).length = L.length := by
  unfold roundL
  split <;> rfl
theorem round_l (g0 : Nat) (L : List Int) (hL : L.length = 8) (x : Int) (w : World) (hw : WB w g0 115 L) :
    Calls Tryd.prog 99 #[.pointer (some ⟨g0, 0, none⟩), .int .u32 x] w fun en w' => en = .returned (.tuple #[]) ∧ WB w' g0 115 (roundL L x) ∧ Keeps (fun k => k = g0) w w' := by
  obtain ⟨a, b, c, d, e, f, g, k, rfl⟩ := list8 hL
  exact round_c g0 a b c d e f g k x w hw
end
section
open Go Go.RowKit

/-- Four bytes, the highest first. -/
def beW (b0 b1 b2 b3 : Nat) : Int :=
  bits BinOp.or IntKind.u32 (bits BinOp.or IntKind.u32 (bits BinOp.or IntKind.u32 ((b0 : Int) % 4294967296 * 16777216 % 4294967296) ((b1 : Int) % 4294967296 * 65536 % 4294967296)) ((b2 : Int) % 4294967296 * 256 % 4294967296)) ((b3 : Int) % 4294967296)
def beAt (xs : List UInt8) (k : Nat) : Int := beW (xs.getD k 0).toNat (xs.getD (k + 1) 0).toNat (xs.getD (k + 2) 0).toNat (xs.getD (k + 3) 0).toNat
def zero64 : List Int := List.replicate 64 0
def fillTo (xs : List UInt8) : Nat → List Int
  | 0 => zero64
  | i + 1 => (fillTo xs i).set i (beAt xs (4 * i))
theorem fillTo_length (xs : List UInt8) (i : Nat) : (fillTo xs i).length = 64 := by
  induction i with
  | zero => simp [fillTo, zero64]
  | succ i ih => rw [fillTo, List.length_set, ih]
def smN (y : Int) : Int := x32 (x32 (r17 y) (r19 y)) (y / 1024)
def smF (x : Int) : Int := x32 (x32 (r7 x) (r18 x)) (x / 8)
def nextW (L : List Int) (i : Nat) : Int := (smN (L.getD (i - 2) 0) + L.getD (i - 7) 0 + smF (L.getD (i - 15) 0) + L.getD (i - 16) 0) % 4294967296
def schTo (xs : List UInt8) : Nat → List Int
  | 0 => fillTo xs 16
  | j + 1 => (schTo xs j).set (16 + j) (nextW (schTo xs j) (16 + j))
theorem schTo_length (xs : List UInt8) (i : Nat) : (schTo xs i).length = 64 := by
  induction i with
  | zero => exact fillTo_length xs 16
  | succ i ih => rw [schTo, List.length_set, ih]
/-- The sixty-four words of a block. -/
def words (xs : List UInt8) : List Int := schTo xs 48
theorem words_length (xs : List UInt8) : (words xs).length = 64 := schTo_length xs 48
theorem row64 {L : List Int} (h : L.length = 64) : (Tryd.prog.info? 104).map (·.size) = some (wcells L).toArray.size ∧ (wcells L).toArray.all (·.oneCell') = true ∧ (wcells zero64).toArray.size = (wcells L).toArray.size := by
  have hpl : (wcells L).toArray.size = 64 := by rw [List.size_toArray, wcells_length]; omega
  exact ⟨by rw [hpl]; kernel_rfl, by simp [wcells, Value.oneCell'], by rw [hpl]; rfl⟩

/-- Where the words lie while they are made. -/
structure SI (w : World) (wr : World) (L : List Int) : Prop where
  r : WB wr w.heap.size 104 zero64
  n : WB wr (w.heap.size + 1) 104 L
  b : Below w.heap.size w wr
theorem SI.start (w : World) : SI w ((w.alloc (.cells (wcells zero64).toArray 104)).alloc (.cells (wcells zero64).toArray 104)) zero64 := by
  have b1 : Below w.heap.size w (w.alloc (.cells (wcells zero64).toArray 104)) := (Below.refl _ w).alloc (by omega) _
  refine ⟨?_, ?_, b1.alloc (by simp) _⟩
  · unfold WB
    rw [Below.heap_alloc _ _ _ (by simp)]
    exact heap_alloc_new w _
  · unfold WB
    have := heap_alloc_new (w.alloc (.cells (wcells zero64).toArray 104)) (.cells (wcells zero64).toArray 104)
    rwa [show (w.alloc (.cells (wcells zero64).toArray 104)).heap.size = w.heap.size + 1 by simp] at this
theorem SI.set {w wr : World} {L : List Int} (h : SI w wr L) (i : Nat) (x : Int) : SI w (wr.setCell ⟨w.heap.size + 1, i, none⟩ (.int .u32 x)) (L.set i x) := by
  have hk := (Keeps.refl (fun k => k = w.heap.size + 1) wr).setCell (p := ⟨w.heap.size + 1, i, none⟩) (.inl rfl) (.int .u32 x)
  exact ⟨h.r.keep hk (by omega), h.n.set i x, h.b.trans (hk.below (B := w.heap.size) h.b.size (by intro k e; omega))⟩
theorem SI.drew {w wr : World} {L : List Int} (h : SI w wr L) : SI w wr.drew L := ⟨h.r, h.n, h.b.drew⟩

set_option maxHeartbeats 1600000 in
set_option maxRecDepth 100000 in
theorem spread_c (B O C : Nat) (xs : List UInt8) (hx : xs.length = 64) (hC0 : 64 ≤ C) (w : World) (hv : BSl w (.slice (some ⟨B, O, none⟩) 64 C) xs) :
    Calls Tryd.prog 98 #[.slice (some ⟨B, O, none⟩) 64 C] w fun e w' => e = .returned (.agg (wcells (words xs)).toArray) ∧ Below w.heap.size w w' := by
  have H := hidden (SI.start w)
  have HV := hidden hv
  clear hv
  go_enter Tryd.func98, Tryd.ntmps98
  go_upto_region 2 with fail
  change Code.wp _ _ _ _ ((w.alloc (.cells (wcells zero64).toArray 104)).alloc (.cells (wcells zero64).toArray 104))
  generalize (w.alloc (.cells (wcells zero64).toArray 104)).alloc (.cells (wcells zero64).toArray 104) = w3 at H ⊢
  go_wp2_with fail
  go_loopw [9] (fun c wr => ∃ i : Nat, i ≤ 16 ∧ c = .int .i64 (i : Int) ∧ SI w wr (fillTo xs i)) (fun c _ => 16 - (intOf c).toNat)
  case atStart => exact ⟨0, by omega, rfl, H.out⟩
  case round =>
    clear H
    obtain ⟨i, hi, rfl, ht⟩ := hrel
    have HT := hidden ht
    clear ht
    by_cases hlt : i < 16
    · have hlt' : (i : Int) < 16 := by omega
      have hv1 := HV.out.fresh HT.out.b
      have k0 := hv1.cellD (4 * i) (by omega)
      have k1 := hv1.cellD (4 * i + 1) (by omega)
      have k2 := hv1.cellD (4 * i + 2) (by omega)
      have k3 := hv1.cellD (4 * i + 3) (by omega)
      rw [← Nat.add_assoc] at k1 k2 k3
      have hl : (4 * (i : Int) + 4) ≤ 64 := by omega
      have hl2 : (4 * (i : Int) + 4) ≤ (C : Int) := by omega
      have cg := HT.out.n.cell i (by rw [fillTo_length]; omega)
      have fz := HT.out.n.frozen i
      have HE : Hid (fillTo xs (i + 1) = (fillTo xs i).set i (beW (xs.getD (4 * i) 0).toNat (xs.getD (4 * i + 1) 0).toNat (xs.getD (4 * i + 2) 0).toNat (xs.getD (4 * i + 3) 0).toNat)) := rfl
      clear hv1
      generalize (xs.getD (4 * i) 0).toNat = b0 at k0 HE
      generalize (xs.getD (4 * i + 1) 0).toNat = b1 at k1 HE
      generalize (xs.getD (4 * i + 2) 0).toNat = b2 at k2 HE
      generalize (xs.getD (4 * i + 3) 0).toNat = b3 at k3 HE
      generalize (fillTo xs i).getD i 0 = old at cg
      go_wp2_with fail
      go_big_region
      go_wp2
      go_roundw
      case rel =>
        refine ⟨i + 1, by omega, by go_num, ?_⟩
        rw [HE.out]
        exact (HT.out.set i _).drew
      case measure => simp [intOf]; omega
    · have hlt' : ¬ (i : Int) < 16 := by omega
      obtain rfl : i = 16 := by omega
      go_wp2_with fail
      go_loopw [6] (fun c wr => ∃ j : Nat, j ≤ 48 ∧ c = .int .i64 ((16 + j : Nat) : Int) ∧ SI w wr (schTo xs j)) (fun c _ => 64 - (intOf c).toNat)
      case atStart => exact ⟨0, by omega, rfl, HT.out⟩
      case round =>
        clear HT
        obtain ⟨j, hj, rfl, ht⟩ := hrel
        have HT := hidden ht
        clear ht
        by_cases hlt2 : j < 48
        · have hlt3 : ((16 + j : Nat) : Int) < 64 := by omega
          have hlen := schTo_length xs j
          have c2 := HT.out.n.cell (16 + j - 2) (by omega)
          have c15 := HT.out.n.cell (16 + j - 15) (by omega)
          have c7 := HT.out.n.cell (16 + j - 7) (by omega)
          have c16 := HT.out.n.cell (16 + j - 16) (by omega)
          have cg := HT.out.n.cell (16 + j) (by omega)
          have fz := HT.out.n.frozen
          have HE : Hid (schTo xs (j + 1) = (schTo xs j).set (16 + j) ((smN ((schTo xs j).getD (16 + j - 2) 0) + (schTo xs j).getD (16 + j - 7) 0 + smF ((schTo xs j).getD (16 + j - 15) 0) + (schTo xs j).getD (16 + j - 16) 0) % 4294967296)) := rfl
          clear hlen
          generalize (schTo xs j).getD (16 + j - 2) 0 = y2 at c2 HE
          generalize (schTo xs j).getD (16 + j - 7) 0 = y7 at c7 HE
          generalize (schTo xs j).getD (16 + j - 15) 0 = y15 at c15 HE
          generalize (schTo xs j).getD (16 + j - 16) 0 = y16 at c16 HE
          generalize (schTo xs j).getD (16 + j) 0 = old at cg
          have hm0 : 16 ≤ 16 + j := by omega
          have hm1 : 16 + j < 64 := by omega
          have HM : Hid (∀ x : Int, SI w (wr.setCell ⟨w.heap.size + 1, 16 + j, none⟩ (.int .u32 x)) ((schTo xs j).set (16 + j) x)) := fun x => HT.out.set (16 + j) x
          generalize hme : 16 + j = m at hlt3 c2 c7 c15 c16 HE cg hm0 hm1 HM ⊢
          have HME := hidden hme
          clear hme
          go_wp2_with fail
          go_big_region
          go_wp2_with fail
          refine (rot17_c _ _).mono ?_
          rintro en w1 ⟨rfl, rfl⟩
          go_wp2_with fail
          refine (rot19_c _ _).mono ?_
          rintro en w1 ⟨rfl, rfl⟩
          go_wp2_with fail
          refine (rot7_c _ _).mono ?_
          rintro en w1 ⟨rfl, rfl⟩
          go_wp2_with fail
          refine (rot18_c _ _).mono ?_
          rintro en w1 ⟨rfl, rfl⟩
          go_wp2_with fail
          go_big_region
          go_wp2
          go_roundw
          case rel =>
            refine ⟨j + 1, by omega, by have := HME.out; go_num, ?_⟩
            rw [HE.out]
            exact (HM.out _).drew.drew
          case measure => simp [intOf]; omega
        · have hlt3 : ¬ ((16 + j : Nat) : Int) < 64 := by omega
          obtain rfl : j = 48 := by omega
          obtain ⟨hs, ho, hd⟩ := row64 (words_length xs)
          have hr : (wr.setRow w.heap.size (wcells (words xs)).toArray).heap[w.heap.size]? = some (.cells (wcells (words xs)).toArray 104 (0, 0)) := setRow_heap wr w.heap.size _ _ _ _ HT.out.r
          have HR := hidden hr
          have HS := hidden hs
          have HO := hidden ho
          have HD := hidden hd
          have hn := HT.out.n
          rw [show schTo xs 48 = words xs from rfl] at hn
          have HN := hidden hn
          have HZ := hidden HT.out.r
          have HB := hidden (below_setRow HT.out.b (Nat.le_refl _) (wcells (words xs)).toArray)
          clear hs ho hd hn HT hr
          have HN1 : Hid (wr.heap[w.heap.size + 1]? = some (.cells (wcells (words xs)).toArray 104 (0, 0))) := HN.out
          have HZ1 : Hid (wr.heap[w.heap.size]? = some (.cells (wcells zero64).toArray 104 (0, 0))) := HZ.out
          clear HN HZ
          generalize hRe : (wcells (words xs)).toArray = R at HS HO HD HB HR HN1 ⊢
          have HRe := hidden hRe
          clear hRe
          generalize (wcells zero64).toArray = Z at HZ1 HD
          go_wp2_with (first
            | (refine wpList_loadRow rfl 104 (.tmp 3) rfl (w.heap.size + 1) R 104 (0, 0) 64 89 rfl HN1.out Tryd.underlying104 HS.out ?_)
            | (refine wpList_store_row rfl 104 (.tmp 2) (.tmp 87) rfl w.heap.size R rfl rfl 104 _ HZ1.out HS.out HD.out HO.out ?_))
          (try simp only [Exit.inBlock, Exit.then])
          refine bodyPost_ret (results_cell1 rfl _ _ _ w.heap.size R 104 (0, 0) 64 89 rfl HR.out Tryd.underlying104 HS.out) rfl ?_
          exact ⟨by rw [HRe.out], HB.out⟩
end
section
open Go Go.RowKit

/-- The rounds' words. -/
def kL : List Int := [1116352408, 1899447441, 3049323471, 3921009573, 961987163, 1508970993, 2453635748, 2870763221, 3624381080, 310598401, 607225278, 1426881987, 1925078388, 2162078206, 2614888103, 3248222580, 3835390401, 4022224774, 264347078, 604807628, 770255983, 1249150122, 1555081692, 1996064986, 2554220882, 2821834349, 2952996808, 3210313671, 3336571891, 3584528711, 113926993, 338241895, 666307205, 773529912, 1294757372, 1396182291, 1695183700, 1986661051, 2177026350, 2456956037, 2730485921, 2820302411, 3259730800, 3345764771, 3516065817, 3600352804, 4094571909, 275423344, 430227734, 506948616, 659060556, 883997877, 958139571, 1322822218, 1537002063, 1747873779, 1955562222, 2024104815, 2227730452, 2361852424, 2428436474, 2756734187, 3204031479, 3329325298]
/-- They lie in their variable. -/
def Rw (w : World) : Prop := 0 < w.heap.size ∧ ∀ i, i < 64 → w.cell? ⟨0, i, none⟩ = some (.int .u32 (kL.getD i 0))
theorem Rw.keep {S : Nat → Prop} {w w' : World} (h : Rw w) (hk : Keeps S w w') (hn : ¬ S 0) : Rw w' :=
  ⟨by have := hk.size; have := h.1; omega, fun i hi => by exact hk.cell (h.2 i hi) hn⟩
theorem Rw.fresh {w w' : World} (h : Rw w) (hb : Below w.heap.size w w') : Rw w' := h.keep (S := fun _ => False) (Keeps.ofFresh hb) (fun h => h)

theorem Keeps.thn {S T : Nat → Prop} {a b c : World} (h : Keeps S a b) (k : Keeps T b c) (hst : ∀ i, T i → S i ∨ a.heap.size ≤ i) : Keeps S a c :=
  ⟨k.os.trans h.os, k.tape.trans h.tape, k.output.trans h.output, Nat.le_trans h.size k.size, fun i hi hs => (k.block i (Nat.lt_of_lt_of_le hi h.size) (fun ht => (hst i ht).elim hs (by omega))).trans (h.block i hi hs)⟩

def mixTo (L W : List Int) : Nat → List Int
  | 0 => L
  | j + 1 => roundL (mixTo L W j) ((W.getD j 0 + kL.getD j 0) % 4294967296)
theorem mixTo_length (L W : List Int) (j : Nat) : (mixTo L W j).length = L.length := by
  induction j with
  | zero => rfl
  | succ j ih => rw [mixTo, roundL_length, ih]
def plusTo (L M : List Int) : Nat → List Int
  | 0 => L
  | j + 1 => (plusTo L M j).set j (((plusTo L M j).getD j 0 + M.getD j 0) % 4294967296)
theorem plusTo_length (L M : List Int) (j : Nat) : (plusTo L M j).length = L.length := by
  induction j with
  | zero => rfl
  | succ j ih => rw [plusTo, List.length_set, ih]
/-- The state behind a block. -/
def blockL (L : List Int) (xs : List UInt8) : List Int := plusTo L (mixTo L (words xs) 64) 8
theorem blockL_length (L : List Int) (xs : List UInt8) : (blockL L xs).length = L.length := plusTo_length _ _ _
theorem row8 {L : List Int} (h : L.length = 8) : (Tryd.prog.info? 115).map (·.size) = some (wcells L).toArray.size ∧ (wcells L).toArray.all (·.oneCell') = true ∧ 8 = (wcells L).toArray.size := by
  have hpl : (wcells L).toArray.size = 8 := by rw [List.size_toArray, wcells_length]; omega
  exact ⟨by rw [hpl]; kernel_rfl, by simp [wcells, Value.oneCell'], by rw [hpl]⟩

/-- What lies ready while a block is taken in: the state, the block's words, the mixed words. -/
structure TIk (w wr : World) (g A : Nat) (L W M : List Int) : Prop where
  s : WB wr g 115 L
  n : WB wr A 104 W
  m : WB wr (A + 1) 115 M
  v : Rw wr
  k : Keeps (fun k => k = g) w wr
  a : w.heap.size ≤ A
theorem TIk.start {w w1 : World} {g : Nat} {L W : List Int} (hg : WB w g 115 L) (hv : Rw w) (hb : Below w.heap.size w w1) :
    TIk w ((w1.alloc (.cells (wcells W).toArray 104)).alloc (.cells (wcells L).toArray 115)) g w1.heap.size L W L := by
  have hl := lt_of_block hg
  have hs := hb.size
  have b2 : Below w.heap.size w ((w1.alloc (.cells (wcells W).toArray 104)).alloc (.cells (wcells L).toArray 115)) := (hb.alloc hs _).alloc (by simp; omega) _
  have hk : Keeps (fun _ => False) w _ := Keeps.ofFresh b2
  refine ⟨hg.keep hk (fun h => h), ?_, ?_, hv.fresh b2, Keeps.ofFresh b2, hs⟩
  · unfold WB
    rw [Below.heap_alloc _ _ _ (by simp)]
    exact heap_alloc_new w1 _
  · unfold WB
    have := heap_alloc_new (w1.alloc (.cells (wcells W).toArray 104)) (.cells (wcells L).toArray 115)
    rwa [show (w1.alloc (.cells (wcells W).toArray 104)).heap.size = w1.heap.size + 1 by simp] at this
theorem TIk.mixed {w wr wr' : World} {g A : Nat} {L W M M' : List Int} (h : TIk w wr g A L W M) (hk : Keeps (fun k => k = A + 1) wr wr') (hm : WB wr' (A + 1) 115 M') (hg : g < w.heap.size) : TIk w wr' g A L W M' := by
  have ha := h.a
  have h0 := h.v.1
  refine ⟨h.s.keep hk (by omega), h.n.keep hk (by omega), hm, h.v.keep hk (by omega), ?_, ha⟩
  exact h.k.thn hk (by intro k e; omega)
theorem TIk.added {w wr : World} {g A : Nat} {L W M : List Int} (h : TIk w wr g A L W M) (hg : g < w.heap.size) (h0 : g ≠ 0) (i : Nat) (x : Int) : TIk w (wr.setCell ⟨g, i, none⟩ (.int .u32 x)) g A (L.set i x) W M := by
  have ha := h.a
  have hk := (Keeps.refl (fun k => k = g) wr).setCell (p := ⟨g, i, none⟩) (.inl rfl) (.int .u32 x)
  exact ⟨h.s.set i x, h.n.keep hk (by omega), h.m.keep hk (by omega), h.v.keep hk (by omega), h.k.trans hk, ha⟩
theorem TIk.drew {w wr : World} {g A : Nat} {L W M : List Int} (h : TIk w wr g A L W M) : TIk w wr.drew g A L W M := ⟨h.s, h.n, h.m, h.v, h.k.drew, h.a⟩

set_option maxHeartbeats 1600000 in
set_option maxRecDepth 100000 in
theorem takeBlock_c (g B O C : Nat) (L : List Int) (hL : L.length = 8) (xs : List UInt8) (hx : xs.length = 64) (hC0 : 64 ≤ C) (w : World) (hr : Rw w) (h0 : g ≠ 0) (hg : WB w g 115 L) (hv : BSl w (.slice (some ⟨B, O, none⟩) 64 C) xs) :
    Calls Tryd.prog 91 #[.pointer (some ⟨g, 0, none⟩), .slice (some ⟨B, O, none⟩) 64 C] w fun e w' => e = .returned (.tuple #[]) ∧ WB w' g 115 (blockL L xs) ∧ Keeps (fun k => k = g) w w' := by
  have hgl := lt_of_block hg
  have HSp := hidden (spread_c B O C xs hx hC0 w hv)
  have HG := hidden hg
  have HR := hidden hr
  have HBl : Hid (blockL L xs = plusTo L (mixTo L (words xs) 64) 8) := rfl
  generalize blockL L xs = BL at HBl ⊢
  clear hv hg hr
  go_enter Tryd.func91, Tryd.ntmps91
  go_wp2_with fail
  refine HSp.out.mono ?_
  rintro e w1 ⟨rfl, hb1⟩
  have HTI := hidden (TIk.start (W := words xs) HG.out HR.out hb1)
  obtain ⟨s1, s2, s3⟩ := row64 (words_length xs)
  obtain ⟨q1, q2, q3⟩ := row8 hL
  have hWl := words_length xs
  have HG1 : Hid ((w1.alloc (.cells (wcells (words xs)).toArray 104)).heap[g]? = some (.cells (wcells L).toArray 115 (0, 0))) := by
    show _ = _
    rw [Below.heap_alloc _ _ _ (by have := hb1.size; omega)]
    exact HG.out.keep (S := fun _ => False) (Keeps.ofFresh hb1) (fun h => h)
  have S1 := hidden s1
  have S2 := hidden s2
  have S3 : Hid (64 = (wcells (words xs)).toArray.size) := by show _ = _; rw [List.size_toArray, wcells_length, hWl]
  have Q1 := hidden q1
  have Q2 := hidden q2
  have Q3 := hidden q3
  clear s1 s2 s3 q1 q2 q3 hb1 HSp HG HR
  generalize words xs = W at HTI HG1 S1 S2 S3 HBl hWl ⊢
  have HWl := hidden hWl
  clear hWl
  generalize hWA : (wcells W).toArray = WA at HTI HG1 S1 S2 S3 ⊢
  generalize hLA : (wcells L).toArray = LA at HTI HG1 Q1 Q2 Q3
  clear hWA hLA
  have e1 : (w1.alloc (.cells WA 104)).heap.size = w1.heap.size + 1 := by simp
  have N2 : Hid (∀ o, ((w1.alloc (.cells WA 104)).alloc o).heap[w1.heap.size + 1]? = some o) := fun o => by
    have := heap_alloc_new (w1.alloc (.cells WA 104)) o
    rwa [e1] at this
  have N3 : Hid (∀ z, ((w1.alloc (.cells WA 104)).alloc (.cells z 115)).setRow (w1.heap.size + 1) LA = (w1.alloc (.cells WA 104)).alloc (.cells LA 115)) := fun z => by
    have := World.setRow_alloc_new (w1.alloc (.cells WA 104)) z LA 115
    rwa [e1] at this
  clear e1
  go_wp2_with (first
    | (refine wpList_store_row rfl 104 (.tmp 4) (.tmp 9) rfl w1.heap.size WA rfl rfl 104 _ (heap_alloc_new w1 _) S1.out S3.out S2.out ?_; rw [World.setRow_alloc_new])
    | (refine wpList_loadRow rfl 115 (.tmp 11) rfl g LA 115 (0, 0) 8 89 rfl HG1.out Tryd.underlying115 Q1.out ?_)
    | (refine wpList_store_row rfl 115 (.tmp 5) (.tmp 12) rfl (w1.heap.size + 1) LA rfl rfl 115 _ (N2.out _) Q1.out Q3.out Q2.out ?_; rw [N3.out]))
  generalize (w1.alloc (.cells WA 104)).alloc (.cells LA 115) = w3 at HTI ⊢
  clear N2 N3 HG1 S1 S2 S3 Q1 Q2 Q3
  generalize w1.heap.size = A at HTI ⊢
  go_loopw [13] (fun c wr => ∃ j : Nat, j ≤ 64 ∧ c = .int .i64 (j : Int) ∧ TIk w wr g A L W (mixTo L W j)) (fun c _ => 64 - (intOf c).toNat)
  case atStart => exact ⟨0, by omega, rfl, HTI.out⟩
  case round =>
    clear HTI
    obtain ⟨j, hj, rfl, ht⟩ := hrel
    have HT := hidden ht
    clear ht
    by_cases hlt : j < 64
    · have hlt' : (j : Int) < 64 := by omega
      have c1 := HT.out.n.cell j (by rw [HWl.out]; omega)
      have c2 := HT.out.v.2 j hlt
      have HE : Hid (mixTo L W (j + 1) = roundL (mixTo L W j) ((W.getD j 0 + kL.getD j 0) % 4294967296)) := rfl
      have HC : Hid (∀ (x : Int) (wx : World), WB wx (A + 1) 115 (mixTo L W j) → Calls Tryd.prog 99 #[.pointer (some ⟨A + 1, 0, none⟩), .int .u32 x] wx fun en w' => en = .returned (.tuple #[]) ∧ WB w' (A + 1) 115 (roundL (mixTo L W j) x) ∧ Keeps (fun k => k = A + 1) wx w') :=
        fun x wx hx => round_l (A + 1) (mixTo L W j) (by rw [mixTo_length]; exact hL) x wx hx
      generalize W.getD j 0 = x1 at c1 HE
      generalize kL.getD j 0 = x2 at c2 HE
      go_wp2_with fail
      refine region_ord [0,1,3,4,2,5,6,7] (by kernel_rfl) (by kernel_rfl) fun K9 H9 => ?_
      simp only [List.filterMap_cons, List.filterMap_nil, List.getElem?_toArray, List.getElem?_cons_succ, List.getElem?_cons_zero]
      go_wp2_with fail
      refine (HC.out _ _ HT.out.drew.m).mono ?_
      rintro e w4 ⟨rfl, hm4, hk4⟩
      have HN := hidden (HT.out.drew.mixed hk4 hm4 hgl)
      clear hm4 hk4 c1 c2 HT HC
      go_wp2
      go_roundw
      case rel => exact ⟨j + 1, by omega, by go_num, by rw [HE.out]; exact HN.out⟩
      case measure => simp [intOf]; omega
    · have hlt' : ¬ (j : Int) < 64 := by omega
      obtain rfl : j = 64 := by omega
      have hMl : (mixTo L W 64).length = 8 := by rw [mixTo_length]; exact hL
      have HMl := hidden hMl
      clear hMl
      generalize mixTo L W 64 = M at HT HMl HBl
      go_wp2_with fail
      go_loopw [25] (fun c wr => ∃ j : Nat, j ≤ 8 ∧ c = .int .i64 (j : Int) ∧ TIk w wr g A (plusTo L M j) W M) (fun c _ => 8 - (intOf c).toNat)
      case atStart => exact ⟨0, by omega, rfl, HT.out⟩
      case round =>
        clear HT
        obtain ⟨j, hj, rfl, ht⟩ := hrel
        have HT := hidden ht
        clear ht
        by_cases hlt2 : j < 8
        · have hlt3 : (j : Int) < 8 := by omega
          have c1 := HT.out.s.cell j (by rw [plusTo_length]; omega)
          have c2 := HT.out.m.cell j (by rw [HMl.out]; omega)
          have fz := HT.out.s.frozen j
          have HE : Hid (plusTo L M (j + 1) = (plusTo L M j).set j (((plusTo L M j).getD j 0 + M.getD j 0) % 4294967296)) := rfl
          generalize (plusTo L M j).getD j 0 = x1 at c1 HE
          generalize M.getD j 0 = x2 at c2 HE
          go_wp2_with fail
          refine region_ord [0,1,2,3,5,6,9,4,7,8,10,11] (by kernel_rfl) (by kernel_rfl) fun K9 H9 => ?_
          simp only [List.filterMap_cons, List.filterMap_nil, List.getElem?_toArray, List.getElem?_cons_succ, List.getElem?_cons_zero]
          go_wp2
          go_roundw
          case rel =>
            refine ⟨j + 1, by omega, by go_num, ?_⟩
            rw [HE.out]
            exact (HT.out.added hgl h0 j _).drew
          case measure => simp [intOf]; omega
        · have hlt3 : ¬ (j : Int) < 8 := by omega
          obtain rfl : j = 8 := by omega
          go_wp2
          go_end0
          exact ⟨rfl, by rw [HBl.out]; exact HT.out.s, HT.out.k⟩
end
end Go.Proofs.YtookapglookphaaDoor
