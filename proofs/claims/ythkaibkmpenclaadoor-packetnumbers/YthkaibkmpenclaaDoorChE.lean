/- The state ahead of the first round. -/
import Derived.Test.YthkaibkmpenclaaDoorChD
import Derived.Test.YthkaibkmpenclaaDoorRowl
namespace Go.Proofs.YthkaibkmpenclaaDoor
open Go Go.RowKit

def base16 : List Int := [1634760805, 857760878, 2036477234, 1797285236, 0, 0, 0, 0, 0, 0, 0, 0, 0, 0, 0, 0]
/-- The state that a key, a counter and a nonce begin with. -/
def initL (key : List UInt8) (ctr : Int) (nonce : List UInt8) : List Int := putL ((putL base16 4 key 8).set 12 ctr) 13 nonce 3
theorem initL_length (key : List UInt8) (ctr : Int) (nonce : List UInt8) : (initL key ctr nonce).length = 16 := by
  rw [initL, putL_length, List.length_set, putL_length]; rfl
theorem list16 {L : List Int} (h : L.length = 16) : L = [L.getD 0 0, L.getD 1 0, L.getD 2 0, L.getD 3 0, L.getD 4 0, L.getD 5 0, L.getD 6 0, L.getD 7 0, L.getD 8 0, L.getD 9 0, L.getD 10 0, L.getD 11 0, L.getD 12 0, L.getD 13 0, L.getD 14 0, L.getD 15 0] := by
  match L, h with
  | [a0, a1, a2, a3, a4, a5, a6, a7, a8, a9, a10, a11, a12, a13, a14, a15], _ => rfl
theorem agg16 {L : List Int} (h : L.length = 16) : (.agg (wcells L).toArray : Value) = .agg #[.int .u32 (L.getD 0 0), .int .u32 (L.getD 1 0), .int .u32 (L.getD 2 0), .int .u32 (L.getD 3 0), .int .u32 (L.getD 4 0), .int .u32 (L.getD 5 0), .int .u32 (L.getD 6 0), .int .u32 (L.getD 7 0), .int .u32 (L.getD 8 0), .int .u32 (L.getD 9 0), .int .u32 (L.getD 10 0), .int .u32 (L.getD 11 0), .int .u32 (L.getD 12 0), .int .u32 (L.getD 13 0), .int .u32 (L.getD 14 0), .int .u32 (L.getD 15 0)] := by
  match L, h with
  | [a0, a1, a2, a3, a4, a5, a6, a7, a8, a9, a10, a11, a12, a13, a14, a15], _ => rfl

set_option maxHeartbeats 1600000 in
set_option maxRecDepth 100000 in
theorem start_c (key nonce : List UInt8) (ctr : Int) (b1 o1 c1 b2 o2 c2 : Nat) (hk : key.length = 32) (hn : nonce.length = 12) (w : World)
    (h1 : BSl w (.slice (some ⟨b1, o1, none⟩) 32 c1) key) (h2 : BSl w (.slice (some ⟨b2, o2, none⟩) 12 c2) nonce) (l1 : b1 < w.heap.size) (l2 : b2 < w.heap.size) :
    Calls Tryd.prog 70 #[.slice (some ⟨b1, o1, none⟩) 32 c1, .int .u32 ctr, .slice (some ⟨b2, o2, none⟩) 12 c2] w fun e w' => e = .returned (.agg (wcells (initL key ctr nonce)).toArray) ∧ Below w.heap.size w w' := by
  go_enter Tryd.func70, Tryd.ntmps70
  go_wp2_with fail
  have hz1 : WB ((w.alloc (.cells (wcells [0, 0, 0, 0, 0, 0, 0, 0, 0, 0, 0, 0, 0, 0, 0, 0]).toArray 98)).alloc (.cells (wcells base16).toArray 98)) w.heap.size 98 [0, 0, 0, 0, 0, 0, 0, 0, 0, 0, 0, 0, 0, 0, 0, 0] := by
    unfold WB
    rw [Below.heap_alloc _ _ _ (by simp)]
    exact heap_alloc_new w _
  have hw1 : WB ((w.alloc (.cells (wcells [0, 0, 0, 0, 0, 0, 0, 0, 0, 0, 0, 0, 0, 0, 0, 0]).toArray 98)).alloc (.cells (wcells base16).toArray 98)) (w.heap.size + 1) 98 base16 := by
    have := heap_alloc_new (w.alloc (.cells (wcells [0, 0, 0, 0, 0, 0, 0, 0, 0, 0, 0, 0, 0, 0, 0, 0]).toArray 98)) (.cells (wcells base16).toArray 98)
    rw [show (w.alloc (.cells (wcells [0, 0, 0, 0, 0, 0, 0, 0, 0, 0, 0, 0, 0, 0, 0, 0]).toArray 98)).heap.size = w.heap.size + 1 by simp] at this
    exact this
  have hb1 : Below w.heap.size w ((w.alloc (.cells (wcells [0, 0, 0, 0, 0, 0, 0, 0, 0, 0, 0, 0, 0, 0, 0, 0]).toArray 98)).alloc (.cells (wcells base16).toArray 98)) := ((Below.refl _ w).alloc (by omega) _).alloc (by simp) _
  simp only [wcells, base16, List.map_cons, List.map_nil] at hz1 hw1 hb1
  generalize (w.alloc _).alloc _ = w1 at hz1 hw1 hb1 ⊢
  have HZ1 := hidden hz1
  have HB1 := hidden hb1
  have k1 := h1.fresh hb1
  have k2 := h2.fresh hb1
  have hsz1 : w.heap.size + 2 ≤ w1.heap.size := by have := lt_of_block hw1; omega
  refine (putWords_c (w.heap.size + 1) 4 8 12 (by omega) base16 rfl (by omega) b1 o1 32 c1 key (by omega) (by omega) (by omega) w1 hw1 k1).mono ?_
  rintro e w2 ⟨rfl, hw2, hk2⟩
  have HL2 : Hid ((putL base16 4 key 8).length = 16) := by show _ = 16; rw [putL_length]; rfl
  have c12 := hw2.cell 12 (by rw [HL2.out]; omega)
  have f12 := hw2.frozen 12
  have HZ2 := hidden (HZ1.out.keep hk2 (by omega))
  have HB2 := hidden (HB1.out.trans (hk2.below (B := w.heap.size) (by omega) (by intro k e; omega)))
  have K2 := hidden (k2.keep hk2 (fun k e => by simp [Value.ownBlock] at e; omega))
  have HW2 := hidden hw2
  have hsz2 : w.heap.size + 2 ≤ w2.heap.size := by have := hk2.size; omega
  clear h1 h2 hz1 hw1 hb1 k1 k2 hk2 hw2 HZ1 HB1 hsz1
  go_wp2_with fail
  have hw3 := HW2.out.set 12 ctr
  have hk3 : Keeps (fun k => k = w.heap.size + 1) w2 (w2.setCell ⟨w.heap.size + 1, 12, none⟩ (.int .u32 ctr)) := (Keeps.refl (fun k => k = w.heap.size + 1) w2).setCell (p := ⟨w.heap.size + 1, 12, none⟩) (.inl rfl) _
  have HZ3 := hidden (HZ2.out.keep hk3 (by omega))
  have HB3 := hidden (HB2.out.trans (hk3.below (B := w.heap.size) (by omega) (by intro k e; omega)))
  have k3 := K2.out.keep hk3 (fun k e => by simp [Value.ownBlock] at e; omega)
  have hsz3 : w.heap.size + 2 ≤ (w2.setCell ⟨w.heap.size + 1, 12, none⟩ (.int .u32 ctr)).heap.size := by have := hk3.size; omega
  generalize w2.setCell ⟨w.heap.size + 1, 12, none⟩ (.int .u32 ctr) = w3 at hw3 hk3 HZ3 HB3 k3 hsz3 ⊢
  clear hk3 c12 f12 HZ2 HB2 K2 HW2 hsz2
  refine (putWords_c (w.heap.size + 1) 13 3 3 (by omega) ((putL base16 4 key 8).set 12 ctr) (by rw [List.length_set]; exact HL2.out) (by omega) b2 o2 12 c2 nonce (by omega) (by omega) (by omega) w3 hw3 k3).mono ?_
  rintro e w4 ⟨rfl, hw4, hk4⟩
  have hz4 := HZ3.out.keep hk4 (by omega)
  have hb4 := HB3.out.trans (hk4.below (B := w.heap.size) (by omega) (by intro k e; omega))
  have hsz4 : w.heap.size + 2 ≤ w4.heap.size := by have := hk4.size; omega
  have HL4 : Hid ((putL ((putL base16 4 key 8).set 12 ctr) 13 nonce 3).length = 16) := initL_length key ctr nonce
  have HB4 := hidden hb4
  have hsz : (Tryd.prog.info? 98).map (·.size) = some (wcells (initL key ctr nonce)).toArray.size := by
    rw [show (wcells (initL key ctr nonce)).toArray.size = 16 by simp [wcells, initL_length]]
    kernel_rfl
  have hone : (wcells (initL key ctr nonce)).toArray.all (·.oneCell') = true := by simp [wcells, Value.oneCell']
  have hold : (wcells [0, 0, 0, 0, 0, 0, 0, 0, 0, 0, 0, 0, 0, 0, 0, 0]).toArray.size = (wcells (initL key ctr nonce)).toArray.size := by simp [wcells, initL_length]
  have hrow : w4.heap[w.heap.size + 1]? = some (.cells (wcells (initL key ctr nonce)).toArray 98 (0, 0)) := hw4
  clear hw3 k3 HZ3 HB3 hsz3 hk4 hw4 hb4 HL2 HL4
  have hres : (w4.setRow w.heap.size (wcells (initL key ctr nonce)).toArray).heap[w.heap.size]? = some (.cells (wcells (initL key ctr nonce)).toArray 98 (0, 0)) := setRow_heap w4 w.heap.size _ _ _ _ hz4
  have hbel : Below w.heap.size w (w4.setRow w.heap.size (wcells (initL key ctr nonce)).toArray) := below_setRow HB4.out (Nat.le_refl _) _
  have HR := hidden hres
  have HL := hidden hbel
  have HS := hidden hsz
  have HO := hidden hone
  have HD := hidden hold
  have HW := hidden hrow
  have HZ := hidden hz4
  clear hres hbel hsz hone hold hrow hz4
  generalize hA : (wcells (initL key ctr nonce)).toArray = A at HR HL HS HO HD HW HZ ⊢
  have HQ := hidden hA
  clear hA
  go_wp2_with (first
    | (refine wpList_loadRow rfl 98 (.tmp 7) rfl (w.heap.size + 1) A 98 (0, 0) 16 70 rfl HW.out Tryd.underlying98 HS.out ?_)
    | (refine wpList_store_row rfl 98 (.tmp 6) (.tmp 17) rfl w.heap.size A rfl rfl 98 _ HZ.out HS.out HD.out HO.out ?_))
  (try simp only [Exit.inBlock, Exit.then])
  refine bodyPost_ret (results_cell1 rfl _ _ _ w.heap.size A 98 (0, 0) 16 70 rfl HR.out Tryd.underlying98 HS.out) rfl ?_
  exact ⟨by rw [HQ.out], HL.out⟩
end Go.Proofs.YthkaibkmpenclaaDoor
