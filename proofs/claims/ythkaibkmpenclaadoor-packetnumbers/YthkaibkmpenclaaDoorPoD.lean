/- A number out of bytes: putByte at any place, numberOf, marked, clamped. -/
import Derived.Test.YthkaibkmpenclaaDoorPoC
namespace Go.Proofs.YthkaibkmpenclaaDoor
open Go Go.RowKit

theorem put_c (i : Nat) (hi : i ≤ 16) (g V b : Nat) (hV : V < 256 ^ i) (hb : b ≤ 255) (h16 : i = 16 → b ≤ 3) (w : World) (h : NB .u64 w g 103 (L26 V)) :
    Calls Tryd.prog 87 #[.pointer (some ⟨g, 0, none⟩), .int .i64 (i : Int), .int .u8 (b : Int)] w fun e w' => e = .returned (.tuple #[]) ∧ NB .u64 w' g 103 (L26 (V + b * 256 ^ i)) ∧ Keeps (fun k => k = g) w w' := by
  rcases (show i = 0 ∨ i = 1 ∨ i = 2 ∨ i = 3 ∨ i = 4 ∨ i = 5 ∨ i = 6 ∨ i = 7 ∨ i = 8 ∨ i = 9 ∨ i = 10 ∨ i = 11 ∨ i = 12 ∨ i = 13 ∨ i = 14 ∨ i = 15 ∨ i = 16 by omega) with rfl | rfl | rfl | rfl | rfl | rfl | rfl | rfl | rfl | rfl | rfl | rfl | rfl | rfl | rfl | rfl | rfl
  · rw [show (256 : Nat) ^ 0 = 1 from rfl] at hV ⊢
    exact put0_c g V b hV hb w h
  · rw [show (256 : Nat) ^ 1 = 256 from rfl] at hV ⊢
    exact put1_c g V b hV hb w h
  · rw [show (256 : Nat) ^ 2 = 65536 from rfl] at hV ⊢
    exact put2_c g V b hV hb w h
  · rw [show (256 : Nat) ^ 3 = 16777216 from rfl] at hV ⊢
    exact put3_c g V b hV hb w h
  · rw [show (256 : Nat) ^ 4 = 4294967296 from rfl] at hV ⊢
    exact put4_c g V b hV hb w h
  · rw [show (256 : Nat) ^ 5 = 1099511627776 from rfl] at hV ⊢
    exact put5_c g V b hV hb w h
  · rw [show (256 : Nat) ^ 6 = 281474976710656 from rfl] at hV ⊢
    exact put6_c g V b hV hb w h
  · rw [show (256 : Nat) ^ 7 = 72057594037927936 from rfl] at hV ⊢
    exact put7_c g V b hV hb w h
  · rw [show (256 : Nat) ^ 8 = 18446744073709551616 from rfl] at hV ⊢
    exact put8_c g V b hV hb w h
  · rw [show (256 : Nat) ^ 9 = 4722366482869645213696 from rfl] at hV ⊢
    exact put9_c g V b hV hb w h
  · rw [show (256 : Nat) ^ 10 = 1208925819614629174706176 from rfl] at hV ⊢
    exact put10_c g V b hV hb w h
  · rw [show (256 : Nat) ^ 11 = 309485009821345068724781056 from rfl] at hV ⊢
    exact put11_c g V b hV hb w h
  · rw [show (256 : Nat) ^ 12 = 79228162514264337593543950336 from rfl] at hV ⊢
    exact put12_c g V b hV hb w h
  · rw [show (256 : Nat) ^ 13 = 20282409603651670423947251286016 from rfl] at hV ⊢
    exact put13_c g V b hV hb w h
  · rw [show (256 : Nat) ^ 14 = 5192296858534827628530496329220096 from rfl] at hV ⊢
    exact put14_c g V b hV hb w h
  · rw [show (256 : Nat) ^ 15 = 1329227995784915872903807060280344576 from rfl] at hV ⊢
    exact put15_c g V b hV hb w h
  · rw [show (256 : Nat) ^ 16 = 340282366920938463463374607431768211456 from rfl] at hV ⊢
    exact put16_c g V b hV (h16 rfl) w h
/-- What the first n bytes are worth, the lowest first. -/
def leTo (xs : List UInt8) : Nat → Nat
  | 0 => 0
  | n + 1 => leTo xs n + (xs.getD n 0).toNat * 256 ^ n
theorem leTo_lt (xs : List UInt8) (n : Nat) : leTo xs n < 256 ^ n := by
  induction n with
  | zero => simp [leTo]
  | succ n ih =>
    have := UInt8.toNat_lt (xs.getD n 0)
    have h2 : (xs.getD n 0).toNat * 256 ^ n ≤ 255 * 256 ^ n := Nat.mul_le_mul_right _ (by omega)
    rw [leTo, Nat.pow_succ]
    omega
theorem L26_0 (xs : List UInt8) : L26 (leTo xs 0) = [0, 0, 0, 0, 0] := by simp [L26, leTo]
/-- Two places in new memory: the answer's, and the number's behind it. -/
structure NI (w wr : World) (P : List Nat) : Prop where
  r : NB .u64 wr w.heap.size 103 [0, 0, 0, 0, 0]
  p : NB .u64 wr (w.heap.size + 1) 103 P
  b : Below w.heap.size w wr
theorem NI.start (w : World) : NI w ((w.alloc (.cells (ncells .u64 [0, 0, 0, 0, 0]).toArray 103)).alloc (.cells (ncells .u64 [0, 0, 0, 0, 0]).toArray 103)) [0, 0, 0, 0, 0] := by
  have b1 : Below w.heap.size w (w.alloc (.cells (ncells .u64 [0, 0, 0, 0, 0]).toArray 103)) := (Below.refl _ w).alloc (by omega) _
  refine ⟨?_, ?_, b1.alloc (by simp) _⟩
  · unfold NB
    rw [Below.heap_alloc _ _ _ (by simp)]
    exact heap_alloc_new w _
  · unfold NB
    have := heap_alloc_new (w.alloc (.cells (ncells .u64 [0, 0, 0, 0, 0]).toArray 103)) (.cells (ncells .u64 [0, 0, 0, 0, 0]).toArray 103)
    rwa [show (w.alloc (.cells (ncells .u64 [0, 0, 0, 0, 0]).toArray 103)).heap.size = w.heap.size + 1 by simp] at this
theorem NI.keep {w wr wr' : World} {P P' : List Nat} (h : NI w wr P) (hk : Keeps (fun k => k = w.heap.size + 1) wr wr') (hp : NB .u64 wr' (w.heap.size + 1) 103 P') : NI w wr' P' :=
  ⟨h.r.keep hk (by omega), hp, h.b.trans (hk.below (B := w.heap.size) h.b.size (by intro k e; omega))⟩
theorem size_num {L : List Nat} (h : L.length = 5) : (Tryd.prog.info? 103).map (·.size) = some (ncells .u64 L).toArray.size := by
  rw [show (ncells .u64 L).toArray.size = 5 by rw [List.size_toArray, ncells_length, h]]
  kernel_rfl
theorem one_num (L : List Nat) : (ncells .u64 L).toArray.all (·.oneCell') = true := by simp [ncells, Value.oneCell']
theorem same_num {L M : List Nat} (h : L.length = 5) (h2 : M.length = 5) : (ncells .u64 L).toArray.size = (ncells .u64 M).toArray.size := by
  simp [ncells_length, h, h2]
set_option maxHeartbeats 800000 in
set_option maxRecDepth 100000 in
theorem numberOf_c (v : Value) (xs : List UInt8) (hx : xs.length ≤ 16) (w : World) (h : BSl w v xs) :
    Calls Tryd.prog 77 #[v] w fun e w' => e = .returned (.agg (ncells .u64 (L26 (leTo xs xs.length))).toArray) ∧ Below w.heap.size w w' := by
  have H := hidden h
  obtain ⟨ao, cap, rfl⟩ := h.len
  have HS := hidden (NI.start w)
  clear h
  go_enter Tryd.func77, Tryd.ntmps77
  go_upto_region 2 with fail
  change Code.wp _ _ _ _ ((w.alloc (.cells (ncells .u64 [0, 0, 0, 0, 0]).toArray 103)).alloc (.cells (ncells .u64 [0, 0, 0, 0, 0]).toArray 103))
  generalize (w.alloc (.cells (ncells .u64 [0, 0, 0, 0, 0]).toArray 103)).alloc (.cells (ncells .u64 [0, 0, 0, 0, 0]).toArray 103) = w1 at HS ⊢
  obtain ⟨n, hn⟩ : ∃ n, n = xs.length := ⟨_, rfl⟩
  have HNX := hidden hn
  rw [← hn] at hx H ⊢
  clear hn
  go_wp2_with fail
  go_loopw [8] (fun c wr => ∃ i : Nat, i ≤ n ∧ c = .int .i64 (i : Int) ∧ NI w wr (L26 (leTo xs i))) (fun c _ => n - (intOf c).toNat)
  case atStart => exact ⟨0, by omega, rfl, by rw [L26_0]; exact HS.out⟩
  case round =>
    clear HS
    obtain ⟨i, hi, rfl, ht⟩ := hrel
    have HN := hidden ht
    clear ht
    by_cases hlt : i < n
    · have hlt' : (i : Int) < (n : Int) := by omega
      have hne : xs ≠ [] := by intro e; have := HNX.out; rw [e] at this; simp at this; omega
      obtain ⟨b, o, rfl⟩ := H.out.addr hne
      have hc := (H.out.fresh HN.out.b).cellD i (by have := HNX.out; omega)
      have hby := UInt8.toNat_lt (xs.getD i 0)
      obtain ⟨y, hy⟩ : ∃ y, y = (xs.getD i 0).toNat := ⟨_, rfl⟩
      rw [← hy] at hc hby
      have HP := hidden (put_c i (by omega) (w.heap.size + 1) (leTo xs i) y (leTo_lt xs i) (by omega) (fun e => by omega) wr HN.out.p)
      have HV : Hid (leTo xs (i + 1) = leTo xs i + y * 256 ^ i) := by rw [hy]; rfl
      clear hy
      clear hne hby
      go_wp2_with fail
      refine HP.out.mono ?_
      rintro e w2 ⟨rfl, hp, hk⟩
      have HN2 := hidden (HN.out.keep hk hp)
      clear HN hp hk HP
      go_wp2
      go_roundw
      case rel =>
        refine ⟨i + 1, by omega, by go_num, ?_⟩
        rw [HV.out]
        exact HN2.out
      case measure => simp [intOf]; omega
    · have hlt' : ¬ (i : Int) < (n : Int) := by omega
      obtain rfl : i = n := by omega
      have hsz := size_num (L := L26 (leTo xs i)) (L26_length (leTo xs i))
      have hone := one_num (L26 (leTo xs i))
      have hdd := same_num (L := [0, 0, 0, 0, 0]) (M := L26 (leTo xs i)) rfl (L26_length (leTo xs i))
      have hpp : wr.heap[w.heap.size + 1]? = some (.cells (ncells .u64 (L26 (leTo xs i))).toArray 103 (0, 0)) := HN.out.p
      have hrr : wr.heap[w.heap.size]? = some (.cells (ncells .u64 [0, 0, 0, 0, 0]).toArray 103 (0, 0)) := HN.out.r
      have HB5 := hidden HN.out.b
      generalize hRe : (ncells .u64 (L26 (leTo xs i))).toArray = R at hsz hone hpp hdd
      have HRE := hidden hRe
      have HSZ := hidden hsz
      have HON := hidden hone
      have HPP := hidden hpp
      have HRR := hidden hrr
      have HD := hidden hdd
      have HR1 := hidden (setRow_heap wr w.heap.size _ R _ _ hrr)
      have HL1 := hidden (below_setRow (g := w.heap.size) HB5.out (by omega) R)
      clear hsz hone hpp hrr hRe hdd HN
      go_wp2_with (first
        | (refine wpList_loadRow rfl 103 (.tmp 3) rfl (w.heap.size + 1) R 103 (0, 0) 5 27 rfl HPP.out Tryd.underlying103 HSZ.out ?_)
        | (refine wpList_store_row rfl 103 (.tmp 2) (.tmp 17) rfl w.heap.size R rfl rfl 103 _ HRR.out HSZ.out HD.out HON.out ?_))
      (try simp only [Exit.inBlock, Exit.then])
      refine bodyPost_ret (results_cell1 rfl _ _ _ w.heap.size R 103 (0, 0) 5 27 rfl HR1.out Tryd.underlying103 HSZ.out) rfl ?_
      exact ⟨by rw [← HRE.out, HNX.out], HL1.out⟩
/-- The bits of the key's first half that count. -/
def clampB : List UInt8 := [255, 255, 255, 15, 252, 255, 255, 15, 252, 255, 255, 15, 252, 255, 255, 15]
/-- The table lies where the program keeps it. -/
def Cl (w : World) : Prop := 0 < w.heap.size ∧ ∀ i, i < 16 → w.cell? ⟨0, i, none⟩ = some (.int .u8 ((clampB.getD i 0).toNat))
theorem Cl.fresh {w w' : World} (h : Cl w) (hb : Below w.heap.size w w') : Cl w' :=
  ⟨Nat.lt_of_lt_of_le h.1 hb.size, fun i hi => (Keeps.ofFresh (S := fun _ => False) hb).cell (h.2 i hi) (fun h => h)⟩
def clL (xs : List UInt8) : List UInt8 := (List.range xs.length).map fun i => xs.getD i 0 &&& clampB.getD i 0
theorem clL_length (xs : List UInt8) : (clL xs).length = xs.length := by simp [clL]
theorem clL_getD (xs : List UInt8) (i : Nat) (hi : i < xs.length) : (clL xs).getD i 0 = xs.getD i 0 &&& clampB.getD i 0 := by
  simp [clL, hi]
theorem and_byte (a b : UInt8) : bits BinOp.and IntKind.u8 (a.toNat : Int) (b.toNat : Int) = ((a &&& b).toNat : Int) := by
  rw [u8_and_nat _ _ (UInt8.toNat_lt _) (UInt8.toNat_lt _), UInt8.toNat_and]
set_option maxHeartbeats 800000 in
set_option maxRecDepth 100000 in
theorem clamped_c (v : Value) (xs : List UInt8) (hx : xs.length ≤ 16) (w : World) (h : BSl w v xs) (hcl : Cl w) :
    Calls Tryd.prog 72 #[v] w fun e w' => e = .returned (.agg (ncells .u64 (L26 (leTo (clL xs) xs.length))).toArray) ∧ Below w.heap.size w w' := by
  have H := hidden h
  obtain ⟨ao, cap, rfl⟩ := h.len
  have HS := hidden (NI.start w)
  have HCL := hidden hcl
  clear hcl
  clear h
  go_enter Tryd.func72, Tryd.ntmps72
  go_upto_region 2 with fail
  change Code.wp _ _ _ _ ((w.alloc (.cells (ncells .u64 [0, 0, 0, 0, 0]).toArray 103)).alloc (.cells (ncells .u64 [0, 0, 0, 0, 0]).toArray 103))
  generalize (w.alloc (.cells (ncells .u64 [0, 0, 0, 0, 0]).toArray 103)).alloc (.cells (ncells .u64 [0, 0, 0, 0, 0]).toArray 103) = w1 at HS ⊢
  obtain ⟨n, hn⟩ : ∃ n, n = xs.length := ⟨_, rfl⟩
  have HNX := hidden hn
  rw [← hn] at hx H ⊢
  clear hn
  go_wp2_with fail
  go_loopw [8] (fun c wr => ∃ i : Nat, i ≤ n ∧ c = .int .i64 (i : Int) ∧ NI w wr (L26 (leTo (clL xs) i))) (fun c _ => n - (intOf c).toNat)
  case atStart => exact ⟨0, by omega, rfl, by rw [L26_0]; exact HS.out⟩
  case round =>
    clear HS
    obtain ⟨i, hi, rfl, ht⟩ := hrel
    have HN := hidden ht
    clear ht
    by_cases hlt : i < n
    · have hlt' : (i : Int) < (n : Int) := by omega
      have hne : xs ≠ [] := by intro e; have := HNX.out; rw [e] at this; simp at this; omega
      obtain ⟨b, o, rfl⟩ := H.out.addr hne
      have hc := (H.out.fresh HN.out.b).cellD i (by have := HNX.out; omega)
      have hby := UInt8.toNat_lt (xs.getD i 0)
      have hq := (HCL.out.fresh HN.out.b).2 i (by omega)
      obtain ⟨y, hy⟩ : ∃ y, y = ((clL xs).getD i 0).toNat := ⟨_, rfl⟩
      have hyb : y ≤ 255 := by have := UInt8.toNat_lt ((clL xs).getD i 0); omega
      have hand : bits BinOp.and IntKind.u8 ((xs.getD i 0).toNat : Int) ((clampB.getD i 0).toNat : Int) = (y : Int) := by rw [and_byte, hy, clL_getD _ _ (by have := HNX.out; omega)]
      generalize (xs.getD i 0).toNat = y1 at hc hand hby
      generalize (clampB.getD i 0).toNat = y2 at hq hand
      have HP := hidden (put_c i (by omega) (w.heap.size + 1) (leTo (clL xs) i) y (leTo_lt _ i) (by omega) (fun e => by omega) wr HN.out.p)
      have HV : Hid (leTo (clL xs) (i + 1) = leTo (clL xs) i + y * 256 ^ i) := by rw [hy]; rfl
      have hi16 : (i : Int) < 16 := by omega
      clear hy
      clear hne hby
      go_wp2_with fail
      refine HP.out.mono ?_
      rintro e w2 ⟨rfl, hp, hk⟩
      have HN2 := hidden (HN.out.keep hk hp)
      clear HN hp hk HP
      go_wp2
      go_roundw
      case rel =>
        refine ⟨i + 1, by omega, by go_num, ?_⟩
        rw [HV.out]
        exact HN2.out
      case measure => simp [intOf]; omega
    · have hlt' : ¬ (i : Int) < (n : Int) := by omega
      obtain rfl : i = n := by omega
      have hsz := size_num (L := L26 (leTo (clL xs) i)) (L26_length (leTo (clL xs) i))
      have hone := one_num (L26 (leTo (clL xs) i))
      have hdd := same_num (L := [0, 0, 0, 0, 0]) (M := L26 (leTo (clL xs) i)) rfl (L26_length (leTo (clL xs) i))
      have hpp : wr.heap[w.heap.size + 1]? = some (.cells (ncells .u64 (L26 (leTo (clL xs) i))).toArray 103 (0, 0)) := HN.out.p
      have hrr : wr.heap[w.heap.size]? = some (.cells (ncells .u64 [0, 0, 0, 0, 0]).toArray 103 (0, 0)) := HN.out.r
      have HB5 := hidden HN.out.b
      generalize hRe : (ncells .u64 (L26 (leTo (clL xs) i))).toArray = R at hsz hone hpp hdd
      have HRE := hidden hRe
      have HSZ := hidden hsz
      have HON := hidden hone
      have HPP := hidden hpp
      have HRR := hidden hrr
      have HD := hidden hdd
      have HR1 := hidden (setRow_heap wr w.heap.size _ R _ _ hrr)
      have HL1 := hidden (below_setRow (g := w.heap.size) HB5.out (by omega) R)
      clear hsz hone hpp hrr hRe hdd HN
      go_wp2_with (first
        | (refine wpList_loadRow rfl 103 (.tmp 3) rfl (w.heap.size + 1) R 103 (0, 0) 5 27 rfl HPP.out Tryd.underlying103 HSZ.out ?_)
        | (refine wpList_store_row rfl 103 (.tmp 2) (.tmp 21) rfl w.heap.size R rfl rfl 103 _ HRR.out HSZ.out HD.out HON.out ?_))
      (try simp only [Exit.inBlock, Exit.then])
      refine bodyPost_ret (results_cell1 rfl _ _ _ w.heap.size R 103 (0, 0) 5 27 rfl HR1.out Tryd.underlying103 HSZ.out) rfl ?_
      exact ⟨by rw [← HRE.out, HNX.out], HL1.out⟩
set_option maxHeartbeats 800000 in
set_option maxRecDepth 100000 in
theorem marked_c (v : Value) (xs : List UInt8) (hx : xs.length ≤ 16) (w : World) (h : BSl w v xs) :
    Calls Tryd.prog 74 #[v] w fun e w' => e = .returned (.agg (ncells .u64 (L26 (leTo xs xs.length + 256 ^ xs.length))).toArray) ∧ Below w.heap.size w w' := by
  obtain ⟨w0, hw0⟩ : ∃ w0, w0 = w.alloc (.cells (ncells .u64 [0, 0, 0, 0, 0]).toArray 103) := ⟨_, rfl⟩
  have hn0 : NB .u64 w0 w.heap.size 103 [0, 0, 0, 0, 0] := by rw [hw0]; exact NB.new w _
  have hb0 : Below w.heap.size w w0 := by rw [hw0]; exact (Below.refl _ w).alloc (by omega) _
  have HC := hidden (numberOf_c v xs hx w0 (h.fresh hb0))
  obtain ⟨ao, cap, rfl⟩ := h.len
  have HX := hidden hx
  obtain ⟨V, hV⟩ : ∃ V, V = leTo xs xs.length := ⟨_, rfl⟩
  have HVE : Hid (leTo xs xs.length + 256 ^ xs.length = V + 1 * 256 ^ xs.length) := by show _ = _; rw [hV]; omega
  have HVL : Hid (V < 256 ^ xs.length) := by rw [hV]; exact leTo_lt _ _
  rw [← hV] at HC
  have HN0 := hidden hn0
  have HB0 := hidden hb0
  clear hn0 hb0 h hV
  go_enter Tryd.func74, Tryd.ntmps74
  go_upto_region 1 with fail
  change Code.wp _ _ _ _ (w.alloc (.cells (ncells .u64 [0, 0, 0, 0, 0]).toArray 103))
  rw [← hw0]
  clear hw0
  have hsz := size_num (L := L26 V) (L26_length V)
  have hone := one_num (L26 V)
  have hss : 5 = (ncells .u64 (L26 V)).toArray.size := by rw [List.size_toArray, ncells_length, L26_length]
  generalize hRe : (ncells .u64 (L26 V)).toArray = R at hsz hone hss HC
  have HRE := hidden hRe
  have HSZ := hidden hsz
  have HON := hidden hone
  have HSS := hidden hss
  clear hRe hsz hone hss
  go_wp2_with fail
  refine HC.out.mono ?_
  rintro e w1 ⟨rfl, hb1⟩
  have HB1 := hidden hb1
  have HN1 := hidden (HN0.out.fresh hb1)
  clear hb1 HC
  go_upto_region 2 with (refine wpList_store_row rfl 103 (.tmp 3) (.tmp 5) rfl w1.heap.size R rfl rfl 103 _ (heap_alloc_new w1 _) HSZ.out HSS.out HON.out ?_)
  rw [World.setRow_alloc_new]
  have hp2 : NB .u64 (w1.alloc (.cells R 103)) w1.heap.size 103 (L26 V) := by unfold NB; rw [HRE.out]; exact heap_alloc_new w1 _
  have hr2 : NB .u64 (w1.alloc (.cells R 103)) w.heap.size 103 [0, 0, 0, 0, 0] := HN1.out.keep (S := fun _ => False) ((Keeps.refl _ w1).alloc _) (fun h => h)
  have hb2 : Below w.heap.size w (w1.alloc (.cells R 103)) := (HB0.out.trans (HB1.out.mono HB0.out.size)).alloc (by have := HB0.out.size; have := HB1.out.size; omega) _
  have hG : w.heap.size < w1.heap.size := by have := HN1.out.lt; omega
  generalize w1.alloc (.cells R 103) = w2 at hp2 hr2 hb2 ⊢
  generalize w1.heap.size = G at hp2 hG ⊢
  have HP := hidden (put_c xs.length HX.out G V 1 HVL.out (by omega) (fun _ => by omega) w2 hp2)
  have HR2 := hidden hr2
  have HB2 := hidden hb2
  clear hp2 hr2 hb2 HN0 HB0 HB1 HN1 HSZ HON HSS HRE
  go_wp2_with fail
  refine HP.out.mono ?_
  rintro e w3 ⟨rfl, hp3, hk3⟩
  have HP3 := hidden hp3
  have HR3 := hidden (HR2.out.keep hk3 (by omega))
  have HB3 := hidden (HB2.out.trans (hk3.below (B := w.heap.size) HB2.out.size (by intro k e; omega)))
  clear hp3 hk3 HP HR2 HB2
  have hsz := size_num (L := L26 (V + 1 * 256 ^ xs.length)) (L26_length _)
  have hone := one_num (L26 (V + 1 * 256 ^ xs.length))
  have hdd := same_num (L := [0, 0, 0, 0, 0]) (M := L26 (V + 1 * 256 ^ xs.length)) rfl (L26_length _)
  have hpp : w3.heap[G]? = some (.cells (ncells .u64 (L26 (V + 1 * 256 ^ xs.length))).toArray 103 (0, 0)) := HP3.out
  have hrr : w3.heap[w.heap.size]? = some (.cells (ncells .u64 [0, 0, 0, 0, 0]).toArray 103 (0, 0)) := HR3.out
  generalize hRe : (ncells .u64 (L26 (V + 1 * 256 ^ xs.length))).toArray = R9 at hsz hone hpp hdd
  have HRE := hidden hRe
  have HSZ := hidden hsz
  have HON := hidden hone
  have HPP := hidden hpp
  have HRR := hidden hrr
  have HD := hidden hdd
  have HR1 := hidden (setRow_heap w3 w.heap.size _ R9 _ _ hrr)
  have HL1 := hidden (below_setRow (g := w.heap.size) HB3.out (by omega) R9)
  clear hsz hone hpp hrr hRe hdd HP3 HR3
  go_wp2_with (first
    | (refine wpList_loadRow rfl 103 (.tmp 3) rfl G R9 103 (0, 0) 5 27 rfl HPP.out Tryd.underlying103 HSZ.out ?_)
    | (refine wpList_store_row rfl 103 (.tmp 2) (.tmp 9) rfl w.heap.size R9 rfl rfl 103 _ HRR.out HSZ.out HD.out HON.out ?_))
  (try simp only [Exit.inBlock, Exit.then])
  refine bodyPost_ret (results_cell1 rfl _ _ _ w.heap.size R9 103 (0, 0) 5 27 rfl HR1.out Tryd.underlying103 HSZ.out) rfl ?_
  exact ⟨by rw [HVE.out, HRE.out], HL1.out⟩
end Go.Proofs.YthkaibkmpenclaaDoor
