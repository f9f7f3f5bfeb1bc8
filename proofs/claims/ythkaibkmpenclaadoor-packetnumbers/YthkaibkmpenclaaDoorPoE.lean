/- Bytes out of limbs. -/
import Derived.Test.YthkaibkmpenclaaDoorPoD
namespace Go.Proofs.YthkaibkmpenclaaDoor
open Go Go.RowKit

/-- The lowest n bytes of a number. -/
def lowB (V : Nat) (n : Nat) : List UInt8 := (List.range n).map fun i : Nat => UInt8.ofNat (V / 256 ^ i % 256)
theorem lowB_length (V n : Nat) : (lowB V n).length = n := by simp [lowB]
theorem lowB_succ (V n : Nat) : lowB V (n + 1) = lowB V n ++ [UInt8.ofNat (V / 256 ^ n % 256)] := by simp [lowB, List.range_succ]
theorem low_set (V k m : Nat) (h : k < m) : (bcells (lowB V k ++ List.replicate (m - k) 0)).toArray.setIfInBounds k (.int .u8 ((V / 256 ^ k % 256 : Nat) : Int)) = (bcells (lowB V (k + 1) ++ List.replicate (m - (k + 1)) 0)).toArray := by
  rw [lowB_succ, bcells_append, set_next _ _ _ _ (by simp [bcells_length, lowB_length]) (by rw [show m - k = (m - (k + 1)) + 1 by omega, List.replicate_succ]; simp [bcells])]
  rw [show m - k = (m - (k + 1)) + 1 by omega, List.replicate_succ]
  simp [bcells]
/-- Limbs that are carried. -/
def Carried (L : List Nat) : Prop := L.length = 5 ∧ ∀ i, i < 5 → L.getD i 0 ≤ 67108863
theorem or_high (x y s : Nat) (hx : x < 2 ^ s) (hy : y % 2 ^ s = 0) (hx2 : x ≤ 67108863) (hy2 : y ≤ 4503599627370496) : bits BinOp.or IntKind.u64 (x : Int) (y : Int) = ((x + y : Nat) : Int) := by
  rw [u64_or_nat x y (by omega) (by omega), Nat.or_comm, nat_join s y x hy hx, Nat.add_comm]
theorem lb0 (a b c d e : Nat) (_ha : a ≤ 67108863) (_hb : b ≤ 67108863) (_hc : c ≤ 67108863) (_hd : d ≤ 67108863) (_he : e ≤ 67108863) : (a / 1 + b * 67108864) % 256 = (a + 67108864 * b + 4503599627370496 * c + 302231454903657293676544 * d + 20282409603651670423947251286016 * e) / 1 % 256 := by omega
theorem lb1 (a b c d e : Nat) (_ha : a ≤ 67108863) (_hb : b ≤ 67108863) (_hc : c ≤ 67108863) (_hd : d ≤ 67108863) (_he : e ≤ 67108863) : (a / 256 + b * 262144) % 256 = (a + 67108864 * b + 4503599627370496 * c + 302231454903657293676544 * d + 20282409603651670423947251286016 * e) / 256 % 256 := by omega
theorem lb2 (a b c d e : Nat) (_ha : a ≤ 67108863) (_hb : b ≤ 67108863) (_hc : c ≤ 67108863) (_hd : d ≤ 67108863) (_he : e ≤ 67108863) : (a / 65536 + b * 1024) % 256 = (a + 67108864 * b + 4503599627370496 * c + 302231454903657293676544 * d + 20282409603651670423947251286016 * e) / 65536 % 256 := by omega
theorem lb3 (a b c d e : Nat) (_ha : a ≤ 67108863) (_hb : b ≤ 67108863) (_hc : c ≤ 67108863) (_hd : d ≤ 67108863) (_he : e ≤ 67108863) : (a / 16777216 + b * 4) % 256 = (a + 67108864 * b + 4503599627370496 * c + 302231454903657293676544 * d + 20282409603651670423947251286016 * e) / 16777216 % 256 := by omega
theorem lb4 (a b c d e : Nat) (_ha : a ≤ 67108863) (_hb : b ≤ 67108863) (_hc : c ≤ 67108863) (_hd : d ≤ 67108863) (_he : e ≤ 67108863) : (b / 64 + c * 1048576) % 256 = (a + 67108864 * b + 4503599627370496 * c + 302231454903657293676544 * d + 20282409603651670423947251286016 * e) / 4294967296 % 256 := by omega
theorem lb5 (a b c d e : Nat) (_ha : a ≤ 67108863) (_hb : b ≤ 67108863) (_hc : c ≤ 67108863) (_hd : d ≤ 67108863) (_he : e ≤ 67108863) : (b / 16384 + c * 4096) % 256 = (a + 67108864 * b + 4503599627370496 * c + 302231454903657293676544 * d + 20282409603651670423947251286016 * e) / 1099511627776 % 256 := by omega
theorem lb6 (a b c d e : Nat) (_ha : a ≤ 67108863) (_hb : b ≤ 67108863) (_hc : c ≤ 67108863) (_hd : d ≤ 67108863) (_he : e ≤ 67108863) : (b / 4194304 + c * 16) % 256 = (a + 67108864 * b + 4503599627370496 * c + 302231454903657293676544 * d + 20282409603651670423947251286016 * e) / 281474976710656 % 256 := by omega
theorem lb7 (a b c d e : Nat) (_ha : a ≤ 67108863) (_hb : b ≤ 67108863) (_hc : c ≤ 67108863) (_hd : d ≤ 67108863) (_he : e ≤ 67108863) : (c / 16 + d * 4194304) % 256 = (a + 67108864 * b + 4503599627370496 * c + 302231454903657293676544 * d + 20282409603651670423947251286016 * e) / 72057594037927936 % 256 := by omega
theorem lb8 (a b c d e : Nat) (_ha : a ≤ 67108863) (_hb : b ≤ 67108863) (_hc : c ≤ 67108863) (_hd : d ≤ 67108863) (_he : e ≤ 67108863) : (c / 4096 + d * 16384) % 256 = (a + 67108864 * b + 4503599627370496 * c + 302231454903657293676544 * d + 20282409603651670423947251286016 * e) / 18446744073709551616 % 256 := by omega
theorem lb9 (a b c d e : Nat) (_ha : a ≤ 67108863) (_hb : b ≤ 67108863) (_hc : c ≤ 67108863) (_hd : d ≤ 67108863) (_he : e ≤ 67108863) : (c / 1048576 + d * 64) % 256 = (a + 67108864 * b + 4503599627370496 * c + 302231454903657293676544 * d + 20282409603651670423947251286016 * e) / 4722366482869645213696 % 256 := by omega
theorem lb10 (a b c d e : Nat) (_ha : a ≤ 67108863) (_hb : b ≤ 67108863) (_hc : c ≤ 67108863) (_hd : d ≤ 67108863) (_he : e ≤ 67108863) : (d / 4 + e * 16777216) % 256 = (a + 67108864 * b + 4503599627370496 * c + 302231454903657293676544 * d + 20282409603651670423947251286016 * e) / 1208925819614629174706176 % 256 := by omega
theorem lb11 (a b c d e : Nat) (_ha : a ≤ 67108863) (_hb : b ≤ 67108863) (_hc : c ≤ 67108863) (_hd : d ≤ 67108863) (_he : e ≤ 67108863) : (d / 1024 + e * 65536) % 256 = (a + 67108864 * b + 4503599627370496 * c + 302231454903657293676544 * d + 20282409603651670423947251286016 * e) / 309485009821345068724781056 % 256 := by omega
theorem lb12 (a b c d e : Nat) (_ha : a ≤ 67108863) (_hb : b ≤ 67108863) (_hc : c ≤ 67108863) (_hd : d ≤ 67108863) (_he : e ≤ 67108863) : (d / 262144 + e * 256) % 256 = (a + 67108864 * b + 4503599627370496 * c + 302231454903657293676544 * d + 20282409603651670423947251286016 * e) / 79228162514264337593543950336 % 256 := by omega
theorem lb13 (a b c d e : Nat) (_ha : a ≤ 67108863) (_hb : b ≤ 67108863) (_hc : c ≤ 67108863) (_hd : d ≤ 67108863) (_he : e ≤ 67108863) : e / 1 % 256 = (a + 67108864 * b + 4503599627370496 * c + 302231454903657293676544 * d + 20282409603651670423947251286016 * e) / 20282409603651670423947251286016 % 256 := by omega
theorem lb14 (a b c d e : Nat) (_ha : a ≤ 67108863) (_hb : b ≤ 67108863) (_hc : c ≤ 67108863) (_hd : d ≤ 67108863) (_he : e ≤ 67108863) : e / 256 % 256 = (a + 67108864 * b + 4503599627370496 * c + 302231454903657293676544 * d + 20282409603651670423947251286016 * e) / 5192296858534827628530496329220096 % 256 := by omega
theorem lb15 (a b c d e : Nat) (_ha : a ≤ 67108863) (_hb : b ≤ 67108863) (_hc : c ≤ 67108863) (_hd : d ≤ 67108863) (_he : e ≤ 67108863) : e / 65536 % 256 = (a + 67108864 * b + 4503599627370496 * c + 302231454903657293676544 * d + 20282409603651670423947251286016 * e) / 1329227995784915872903807060280344576 % 256 := by omega
set_option maxHeartbeats 1600000 in
set_option maxRecDepth 100000 in
theorem lowBytes_c (g : Nat) (L : List Nat) (hL : Carried L) (w : World) (h : NB .u64 w g 103 L) :
    Calls Tryd.prog 79 #[.pointer (some ⟨g, 0, none⟩)] w fun e w' => e = .returned (.slice (some ⟨w.heap.size, 0, none⟩) 16 16) ∧ w'.heap[w.heap.size]? = some (.cells (bcells (lowB (V5 L) 16)).toArray 5 (0, 0)) ∧ Below w.heap.size w w' := by
  obtain ⟨a, b, c, d, e, rfl⟩ := list5 hL.1
  have ha : a ≤ 67108863 := hL.2 0 (by omega)
  have hb : b ≤ 67108863 := hL.2 1 (by omega)
  have hc : c ≤ 67108863 := hL.2 2 (by omega)
  have hd : d ≤ 67108863 := hL.2 3 (by omega)
  have he : e ≤ 67108863 := hL.2 4 (by omega)
  rw [V5_list]
  have hmk : ∀ w : World, (Instr.makeSlice 22 (.int .i64 16) (.int .i64 16)).run Tryd.prog w = .ok (.slice (some ⟨w.heap.size, 0, none⟩) 16 16) (w.alloc (.cells (bcells (List.replicate 16 0)).toArray 5)) := fun w => made_run 16 (by omega) w
  have H := hidden h
  have hg := h.lt
  have HG1 : Hid ((w.alloc (.cells (bcells (List.replicate 16 0)).toArray 5)).heap[w.heap.size]? = some (.cells (bcells (List.replicate 16 0)).toArray 5 (0, 0))) := heap_alloc_new w _
  have HB1 : Hid (Below w.heap.size w (w.alloc (.cells (bcells (List.replicate 16 0)).toArray 5))) := (Below.refl _ w).alloc (by omega) _
  clear h hL
  go_enter Tryd.func79, Tryd.ntmps79
  generalize hZe : (bcells (List.replicate 16 0)).toArray = Z at hmk HG1 HB1
  have HZZ : Hid (Z = (bcells (List.replicate 16 0)).toArray) := hZe.symm
  clear hZe
  have HZ0 : Hid (w.heap.size ≤ w.heap.size) := Nat.le_refl _
  generalize hVe : a + 67108864 * b + 4503599627370496 * c + 302231454903657293676544 * d + 20282409603651670423947251286016 * e = V
  have HVE := hidden hVe
  clear hVe
  go_wp2_with fail
  go_loopw [11] (fun i wr => ∃ k : Nat, k ≤ 16 ∧ i = .int .i64 (k : Int) ∧ wr.heap[w.heap.size]? = some (.cells (bcells (lowB V k ++ List.replicate (16 - k) 0)).toArray 5 (0, 0)) ∧ Below w.heap.size w wr) (fun i _ => 16 - (intOf i).toNat)
  case atStart => exact ⟨0, by omega, rfl, by simpa [lowB, HZZ.out] using HG1.out, HB1.out⟩
  case round =>
    clear HG1 HB1 hmk
    obtain ⟨k, hk, rfl, hgr, hbr⟩ := hrel
    by_cases hlt : k < 16
    · have HS := low_set V k 16 hlt
      have hcell := cell_row hgr k
      have hcl : k < (bcells (lowB V k ++ List.replicate (16 - k) 0)).length := by simp [bcells_length, lowB_length]; omega
      rw [List.getElem?_eq_getElem hcl] at hcell
      generalize (bcells (lowB V k ++ List.replicate (16 - k) 0))[k] = u at hcell
      have hfz := frozen_row hgr
      have HG := hidden hgr
      have HB := hidden hbr
      have hNB := H.out.fresh hbr
      have HS1 := hidden HS
      clear hgr hbr HS hcl
      have HR : Hid (∀ z : Nat, z = V / 256 ^ k % 256 → (wr.setCell ⟨w.heap.size, k, none⟩ (.int .u8 (z : Int))).heap[w.heap.size]? = some (.cells (bcells (lowB V (k + 1) ++ List.replicate (16 - (k + 1)) 0)).toArray 5 (0, 0))) := by
        intro z hz
        rw [heap_setCell_same _ _ _ _ _ _ HG.out, hz, HS1.out]
      clear HG HS1
      rcases (show k = 0 ∨ k = 1 ∨ k = 2 ∨ k = 3 ∨ k = 4 ∨ k = 5 ∨ k = 6 ∨ k = 7 ∨ k = 8 ∨ k = 9 ∨ k = 10 ∨ k = 11 ∨ k = 12 ∨ k = 13 ∨ k = 14 ∨ k = 15 by omega) with rfl | rfl | rfl | rfl | rfl | rfl | rfl | rfl | rfl | rfl | rfl | rfl | rfl | rfl | rfl | rfl
      · have hcx : wr.cell? ⟨g, 0, none⟩ = some (.int .u64 (a : Nat)) := hNB.cell 0 (by simp)
        obtain ⟨p, hp⟩ : ∃ p, p = a / 1 := ⟨_, rfl⟩
        have hpi : (a : Int) = (p : Int) := by omega
        have hcy : wr.cell? ⟨g, 1, none⟩ = some (.int .u64 (b : Nat)) := hNB.cell 1 (by simp)
        obtain ⟨q, hq⟩ : ∃ q, q = b * 67108864 := ⟨_, rfl⟩
        have hqi : (b : Int) * 67108864 = (q : Int) := by omega
        have hor := or_high p q 26 (by omega) (by omega) (by omega) (by omega)
        obtain ⟨r, hr⟩ : ∃ r, r = p + q := ⟨_, rfl⟩
        rw [← hr] at hor
        have hz : r % 256 = V / 256 ^ 0 % 256 := by rw [hr, hp, hq, ← HVE.out]; exact lb0 a b c d e ha hb hc hd he
        have hqb : q ≤ 4503599627370496 := by omega
        have hrb : r ≤ 4503599694479360 := by omega
        have hpb : p ≤ 67108863 := by omega
        clear hr hq
        obtain ⟨zz, hzz⟩ : ∃ zz, zz = r % 256 := ⟨_, rfl⟩
        have HZ : Hid (zz = V / 256 ^ 0 % 256) := by rw [hzz]; exact hz
        have hzi : (r : Int) % 256 = (zz : Int) := by omega
        clear hp hz hNB hzz
        rw [show (((0 : Nat)) : Int) = (0 : Int) from rfl]
        go_wp2
        go_roundw
        case rel => exact ⟨0 + 1, by omega, by go_num, HR.out _ HZ.out, HB.out.setCell (p := ⟨w.heap.size, 0, none⟩) (Nat.le_refl _) _⟩
        case measure => simp [intOf]
      · have hcx : wr.cell? ⟨g, 0, none⟩ = some (.int .u64 (a : Nat)) := hNB.cell 0 (by simp)
        obtain ⟨p, hp⟩ : ∃ p, p = a / 256 := ⟨_, rfl⟩
        have hpi : (a : Int) / 256 = (p : Int) := by omega
        have hcy : wr.cell? ⟨g, 1, none⟩ = some (.int .u64 (b : Nat)) := hNB.cell 1 (by simp)
        obtain ⟨q, hq⟩ : ∃ q, q = b * 262144 := ⟨_, rfl⟩
        have hqi : (b : Int) * 262144 = (q : Int) := by omega
        have hor := or_high p q 18 (by omega) (by omega) (by omega) (by omega)
        obtain ⟨r, hr⟩ : ∃ r, r = p + q := ⟨_, rfl⟩
        rw [← hr] at hor
        have hz : r % 256 = V / 256 ^ 1 % 256 := by rw [hr, hp, hq, ← HVE.out]; exact lb1 a b c d e ha hb hc hd he
        have hqb : q ≤ 4503599627370496 := by omega
        have hrb : r ≤ 4503599694479360 := by omega
        have hpb : p ≤ 67108863 := by omega
        clear hr hq
        obtain ⟨zz, hzz⟩ : ∃ zz, zz = r % 256 := ⟨_, rfl⟩
        have HZ : Hid (zz = V / 256 ^ 1 % 256) := by rw [hzz]; exact hz
        have hzi : (r : Int) % 256 = (zz : Int) := by omega
        clear hp hz hNB hzz
        rw [show (((1 : Nat)) : Int) = (1 : Int) from rfl]
        go_wp2
        go_roundw
        case rel => exact ⟨1 + 1, by omega, by go_num, HR.out _ HZ.out, HB.out.setCell (p := ⟨w.heap.size, 1, none⟩) (Nat.le_refl _) _⟩
        case measure => simp [intOf]
      · have hcx : wr.cell? ⟨g, 0, none⟩ = some (.int .u64 (a : Nat)) := hNB.cell 0 (by simp)
        obtain ⟨p, hp⟩ : ∃ p, p = a / 65536 := ⟨_, rfl⟩
        have hpi : (a : Int) / 65536 = (p : Int) := by omega
        have hcy : wr.cell? ⟨g, 1, none⟩ = some (.int .u64 (b : Nat)) := hNB.cell 1 (by simp)
        obtain ⟨q, hq⟩ : ∃ q, q = b * 1024 := ⟨_, rfl⟩
        have hqi : (b : Int) * 1024 = (q : Int) := by omega
        have hor := or_high p q 10 (by omega) (by omega) (by omega) (by omega)
        obtain ⟨r, hr⟩ : ∃ r, r = p + q := ⟨_, rfl⟩
        rw [← hr] at hor
        have hz : r % 256 = V / 256 ^ 2 % 256 := by rw [hr, hp, hq, ← HVE.out]; exact lb2 a b c d e ha hb hc hd he
        have hqb : q ≤ 4503599627370496 := by omega
        have hrb : r ≤ 4503599694479360 := by omega
        have hpb : p ≤ 67108863 := by omega
        clear hr hq
        obtain ⟨zz, hzz⟩ : ∃ zz, zz = r % 256 := ⟨_, rfl⟩
        have HZ : Hid (zz = V / 256 ^ 2 % 256) := by rw [hzz]; exact hz
        have hzi : (r : Int) % 256 = (zz : Int) := by omega
        clear hp hz hNB hzz
        rw [show (((2 : Nat)) : Int) = (2 : Int) from rfl]
        go_wp2
        go_roundw
        case rel => exact ⟨2 + 1, by omega, by go_num, HR.out _ HZ.out, HB.out.setCell (p := ⟨w.heap.size, 2, none⟩) (Nat.le_refl _) _⟩
        case measure => simp [intOf]
      · have hcx : wr.cell? ⟨g, 0, none⟩ = some (.int .u64 (a : Nat)) := hNB.cell 0 (by simp)
        obtain ⟨p, hp⟩ : ∃ p, p = a / 16777216 := ⟨_, rfl⟩
        have hpi : (a : Int) / 16777216 = (p : Int) := by omega
        have hcy : wr.cell? ⟨g, 1, none⟩ = some (.int .u64 (b : Nat)) := hNB.cell 1 (by simp)
        obtain ⟨q, hq⟩ : ∃ q, q = b * 4 := ⟨_, rfl⟩
        have hqi : (b : Int) * 4 = (q : Int) := by omega
        have hor := or_high p q 2 (by omega) (by omega) (by omega) (by omega)
        obtain ⟨r, hr⟩ : ∃ r, r = p + q := ⟨_, rfl⟩
        rw [← hr] at hor
        have hz : r % 256 = V / 256 ^ 3 % 256 := by rw [hr, hp, hq, ← HVE.out]; exact lb3 a b c d e ha hb hc hd he
        have hqb : q ≤ 4503599627370496 := by omega
        have hrb : r ≤ 4503599694479360 := by omega
        have hpb : p ≤ 67108863 := by omega
        clear hr hq
        obtain ⟨zz, hzz⟩ : ∃ zz, zz = r % 256 := ⟨_, rfl⟩
        have HZ : Hid (zz = V / 256 ^ 3 % 256) := by rw [hzz]; exact hz
        have hzi : (r : Int) % 256 = (zz : Int) := by omega
        clear hp hz hNB hzz
        rw [show (((3 : Nat)) : Int) = (3 : Int) from rfl]
        go_wp2
        go_roundw
        case rel => exact ⟨3 + 1, by omega, by go_num, HR.out _ HZ.out, HB.out.setCell (p := ⟨w.heap.size, 3, none⟩) (Nat.le_refl _) _⟩
        case measure => simp [intOf]
      · have hcx : wr.cell? ⟨g, 1, none⟩ = some (.int .u64 (b : Nat)) := hNB.cell 1 (by simp)
        obtain ⟨p, hp⟩ : ∃ p, p = b / 64 := ⟨_, rfl⟩
        have hpi : (b : Int) / 64 = (p : Int) := by omega
        have hcy : wr.cell? ⟨g, 2, none⟩ = some (.int .u64 (c : Nat)) := hNB.cell 2 (by simp)
        obtain ⟨q, hq⟩ : ∃ q, q = c * 1048576 := ⟨_, rfl⟩
        have hqi : (c : Int) * 1048576 = (q : Int) := by omega
        have hor := or_high p q 20 (by omega) (by omega) (by omega) (by omega)
        obtain ⟨r, hr⟩ : ∃ r, r = p + q := ⟨_, rfl⟩
        rw [← hr] at hor
        have hz : r % 256 = V / 256 ^ 4 % 256 := by rw [hr, hp, hq, ← HVE.out]; exact lb4 a b c d e ha hb hc hd he
        have hqb : q ≤ 4503599627370496 := by omega
        have hrb : r ≤ 4503599694479360 := by omega
        have hpb : p ≤ 67108863 := by omega
        clear hr hq
        obtain ⟨zz, hzz⟩ : ∃ zz, zz = r % 256 := ⟨_, rfl⟩
        have HZ : Hid (zz = V / 256 ^ 4 % 256) := by rw [hzz]; exact hz
        have hzi : (r : Int) % 256 = (zz : Int) := by omega
        clear hp hz hNB hzz
        rw [show (((4 : Nat)) : Int) = (4 : Int) from rfl]
        go_wp2
        go_roundw
        case rel => exact ⟨4 + 1, by omega, by go_num, HR.out _ HZ.out, HB.out.setCell (p := ⟨w.heap.size, 4, none⟩) (Nat.le_refl _) _⟩
        case measure => simp [intOf]
      · have hcx : wr.cell? ⟨g, 1, none⟩ = some (.int .u64 (b : Nat)) := hNB.cell 1 (by simp)
        obtain ⟨p, hp⟩ : ∃ p, p = b / 16384 := ⟨_, rfl⟩
        have hpi : (b : Int) / 16384 = (p : Int) := by omega
        have hcy : wr.cell? ⟨g, 2, none⟩ = some (.int .u64 (c : Nat)) := hNB.cell 2 (by simp)
        obtain ⟨q, hq⟩ : ∃ q, q = c * 4096 := ⟨_, rfl⟩
        have hqi : (c : Int) * 4096 = (q : Int) := by omega
        have hor := or_high p q 12 (by omega) (by omega) (by omega) (by omega)
        obtain ⟨r, hr⟩ : ∃ r, r = p + q := ⟨_, rfl⟩
        rw [← hr] at hor
        have hz : r % 256 = V / 256 ^ 5 % 256 := by rw [hr, hp, hq, ← HVE.out]; exact lb5 a b c d e ha hb hc hd he
        have hqb : q ≤ 4503599627370496 := by omega
        have hrb : r ≤ 4503599694479360 := by omega
        have hpb : p ≤ 67108863 := by omega
        clear hr hq
        obtain ⟨zz, hzz⟩ : ∃ zz, zz = r % 256 := ⟨_, rfl⟩
        have HZ : Hid (zz = V / 256 ^ 5 % 256) := by rw [hzz]; exact hz
        have hzi : (r : Int) % 256 = (zz : Int) := by omega
        clear hp hz hNB hzz
        rw [show (((5 : Nat)) : Int) = (5 : Int) from rfl]
        go_wp2
        go_roundw
        case rel => exact ⟨5 + 1, by omega, by go_num, HR.out _ HZ.out, HB.out.setCell (p := ⟨w.heap.size, 5, none⟩) (Nat.le_refl _) _⟩
        case measure => simp [intOf]
      · have hcx : wr.cell? ⟨g, 1, none⟩ = some (.int .u64 (b : Nat)) := hNB.cell 1 (by simp)
        obtain ⟨p, hp⟩ : ∃ p, p = b / 4194304 := ⟨_, rfl⟩
        have hpi : (b : Int) / 4194304 = (p : Int) := by omega
        have hcy : wr.cell? ⟨g, 2, none⟩ = some (.int .u64 (c : Nat)) := hNB.cell 2 (by simp)
        obtain ⟨q, hq⟩ : ∃ q, q = c * 16 := ⟨_, rfl⟩
        have hqi : (c : Int) * 16 = (q : Int) := by omega
        have hor := or_high p q 4 (by omega) (by omega) (by omega) (by omega)
        obtain ⟨r, hr⟩ : ∃ r, r = p + q := ⟨_, rfl⟩
        rw [← hr] at hor
        have hz : r % 256 = V / 256 ^ 6 % 256 := by rw [hr, hp, hq, ← HVE.out]; exact lb6 a b c d e ha hb hc hd he
        have hqb : q ≤ 4503599627370496 := by omega
        have hrb : r ≤ 4503599694479360 := by omega
        have hpb : p ≤ 67108863 := by omega
        clear hr hq
        obtain ⟨zz, hzz⟩ : ∃ zz, zz = r % 256 := ⟨_, rfl⟩
        have HZ : Hid (zz = V / 256 ^ 6 % 256) := by rw [hzz]; exact hz
        have hzi : (r : Int) % 256 = (zz : Int) := by omega
        clear hp hz hNB hzz
        rw [show (((6 : Nat)) : Int) = (6 : Int) from rfl]
        go_wp2
        go_roundw
        case rel => exact ⟨6 + 1, by omega, by go_num, HR.out _ HZ.out, HB.out.setCell (p := ⟨w.heap.size, 6, none⟩) (Nat.le_refl _) _⟩
        case measure => simp [intOf]
      · have hcx : wr.cell? ⟨g, 2, none⟩ = some (.int .u64 (c : Nat)) := hNB.cell 2 (by simp)
        obtain ⟨p, hp⟩ : ∃ p, p = c / 16 := ⟨_, rfl⟩
        have hpi : (c : Int) / 16 = (p : Int) := by omega
        have hcy : wr.cell? ⟨g, 3, none⟩ = some (.int .u64 (d : Nat)) := hNB.cell 3 (by simp)
        obtain ⟨q, hq⟩ : ∃ q, q = d * 4194304 := ⟨_, rfl⟩
        have hqi : (d : Int) * 4194304 = (q : Int) := by omega
        have hor := or_high p q 22 (by omega) (by omega) (by omega) (by omega)
        obtain ⟨r, hr⟩ : ∃ r, r = p + q := ⟨_, rfl⟩
        rw [← hr] at hor
        have hz : r % 256 = V / 256 ^ 7 % 256 := by rw [hr, hp, hq, ← HVE.out]; exact lb7 a b c d e ha hb hc hd he
        have hqb : q ≤ 4503599627370496 := by omega
        have hrb : r ≤ 4503599694479360 := by omega
        have hpb : p ≤ 67108863 := by omega
        clear hr hq
        obtain ⟨zz, hzz⟩ : ∃ zz, zz = r % 256 := ⟨_, rfl⟩
        have HZ : Hid (zz = V / 256 ^ 7 % 256) := by rw [hzz]; exact hz
        have hzi : (r : Int) % 256 = (zz : Int) := by omega
        clear hp hz hNB hzz
        rw [show (((7 : Nat)) : Int) = (7 : Int) from rfl]
        go_wp2
        go_roundw
        case rel => exact ⟨7 + 1, by omega, by go_num, HR.out _ HZ.out, HB.out.setCell (p := ⟨w.heap.size, 7, none⟩) (Nat.le_refl _) _⟩
        case measure => simp [intOf]
      · have hcx : wr.cell? ⟨g, 2, none⟩ = some (.int .u64 (c : Nat)) := hNB.cell 2 (by simp)
        obtain ⟨p, hp⟩ : ∃ p, p = c / 4096 := ⟨_, rfl⟩
        have hpi : (c : Int) / 4096 = (p : Int) := by omega
        have hcy : wr.cell? ⟨g, 3, none⟩ = some (.int .u64 (d : Nat)) := hNB.cell 3 (by simp)
        obtain ⟨q, hq⟩ : ∃ q, q = d * 16384 := ⟨_, rfl⟩
        have hqi : (d : Int) * 16384 = (q : Int) := by omega
        have hor := or_high p q 14 (by omega) (by omega) (by omega) (by omega)
        obtain ⟨r, hr⟩ : ∃ r, r = p + q := ⟨_, rfl⟩
        rw [← hr] at hor
        have hz : r % 256 = V / 256 ^ 8 % 256 := by rw [hr, hp, hq, ← HVE.out]; exact lb8 a b c d e ha hb hc hd he
        have hqb : q ≤ 4503599627370496 := by omega
        have hrb : r ≤ 4503599694479360 := by omega
        have hpb : p ≤ 67108863 := by omega
        clear hr hq
        obtain ⟨zz, hzz⟩ : ∃ zz, zz = r % 256 := ⟨_, rfl⟩
        have HZ : Hid (zz = V / 256 ^ 8 % 256) := by rw [hzz]; exact hz
        have hzi : (r : Int) % 256 = (zz : Int) := by omega
        clear hp hz hNB hzz
        rw [show (((8 : Nat)) : Int) = (8 : Int) from rfl]
        go_wp2
        go_roundw
        case rel => exact ⟨8 + 1, by omega, by go_num, HR.out _ HZ.out, HB.out.setCell (p := ⟨w.heap.size, 8, none⟩) (Nat.le_refl _) _⟩
        case measure => simp [intOf]
      · have hcx : wr.cell? ⟨g, 2, none⟩ = some (.int .u64 (c : Nat)) := hNB.cell 2 (by simp)
        obtain ⟨p, hp⟩ : ∃ p, p = c / 1048576 := ⟨_, rfl⟩
        have hpi : (c : Int) / 1048576 = (p : Int) := by omega
        have hcy : wr.cell? ⟨g, 3, none⟩ = some (.int .u64 (d : Nat)) := hNB.cell 3 (by simp)
        obtain ⟨q, hq⟩ : ∃ q, q = d * 64 := ⟨_, rfl⟩
        have hqi : (d : Int) * 64 = (q : Int) := by omega
        have hor := or_high p q 6 (by omega) (by omega) (by omega) (by omega)
        obtain ⟨r, hr⟩ : ∃ r, r = p + q := ⟨_, rfl⟩
        rw [← hr] at hor
        have hz : r % 256 = V / 256 ^ 9 % 256 := by rw [hr, hp, hq, ← HVE.out]; exact lb9 a b c d e ha hb hc hd he
        have hqb : q ≤ 4503599627370496 := by omega
        have hrb : r ≤ 4503599694479360 := by omega
        have hpb : p ≤ 67108863 := by omega
        clear hr hq
        obtain ⟨zz, hzz⟩ : ∃ zz, zz = r % 256 := ⟨_, rfl⟩
        have HZ : Hid (zz = V / 256 ^ 9 % 256) := by rw [hzz]; exact hz
        have hzi : (r : Int) % 256 = (zz : Int) := by omega
        clear hp hz hNB hzz
        rw [show (((9 : Nat)) : Int) = (9 : Int) from rfl]
        go_wp2
        go_roundw
        case rel => exact ⟨9 + 1, by omega, by go_num, HR.out _ HZ.out, HB.out.setCell (p := ⟨w.heap.size, 9, none⟩) (Nat.le_refl _) _⟩
        case measure => simp [intOf]
      · have hcx : wr.cell? ⟨g, 3, none⟩ = some (.int .u64 (d : Nat)) := hNB.cell 3 (by simp)
        obtain ⟨p, hp⟩ : ∃ p, p = d / 4 := ⟨_, rfl⟩
        have hpi : (d : Int) / 4 = (p : Int) := by omega
        have hcy : wr.cell? ⟨g, 4, none⟩ = some (.int .u64 (e : Nat)) := hNB.cell 4 (by simp)
        obtain ⟨q, hq⟩ : ∃ q, q = e * 16777216 := ⟨_, rfl⟩
        have hqi : (e : Int) * 16777216 = (q : Int) := by omega
        have hor := or_high p q 24 (by omega) (by omega) (by omega) (by omega)
        obtain ⟨r, hr⟩ : ∃ r, r = p + q := ⟨_, rfl⟩
        rw [← hr] at hor
        have hz : r % 256 = V / 256 ^ 10 % 256 := by rw [hr, hp, hq, ← HVE.out]; exact lb10 a b c d e ha hb hc hd he
        have hqb : q ≤ 4503599627370496 := by omega
        have hrb : r ≤ 4503599694479360 := by omega
        have hpb : p ≤ 67108863 := by omega
        clear hr hq
        obtain ⟨zz, hzz⟩ : ∃ zz, zz = r % 256 := ⟨_, rfl⟩
        have HZ : Hid (zz = V / 256 ^ 10 % 256) := by rw [hzz]; exact hz
        have hzi : (r : Int) % 256 = (zz : Int) := by omega
        clear hp hz hNB hzz
        rw [show (((10 : Nat)) : Int) = (10 : Int) from rfl]
        go_wp2
        go_roundw
        case rel => exact ⟨10 + 1, by omega, by go_num, HR.out _ HZ.out, HB.out.setCell (p := ⟨w.heap.size, 10, none⟩) (Nat.le_refl _) _⟩
        case measure => simp [intOf]
      · have hcx : wr.cell? ⟨g, 3, none⟩ = some (.int .u64 (d : Nat)) := hNB.cell 3 (by simp)
        obtain ⟨p, hp⟩ : ∃ p, p = d / 1024 := ⟨_, rfl⟩
        have hpi : (d : Int) / 1024 = (p : Int) := by omega
        have hcy : wr.cell? ⟨g, 4, none⟩ = some (.int .u64 (e : Nat)) := hNB.cell 4 (by simp)
        obtain ⟨q, hq⟩ : ∃ q, q = e * 65536 := ⟨_, rfl⟩
        have hqi : (e : Int) * 65536 = (q : Int) := by omega
        have hor := or_high p q 16 (by omega) (by omega) (by omega) (by omega)
        obtain ⟨r, hr⟩ : ∃ r, r = p + q := ⟨_, rfl⟩
        rw [← hr] at hor
        have hz : r % 256 = V / 256 ^ 11 % 256 := by rw [hr, hp, hq, ← HVE.out]; exact lb11 a b c d e ha hb hc hd he
        have hqb : q ≤ 4503599627370496 := by omega
        have hrb : r ≤ 4503599694479360 := by omega
        have hpb : p ≤ 67108863 := by omega
        clear hr hq
        obtain ⟨zz, hzz⟩ : ∃ zz, zz = r % 256 := ⟨_, rfl⟩
        have HZ : Hid (zz = V / 256 ^ 11 % 256) := by rw [hzz]; exact hz
        have hzi : (r : Int) % 256 = (zz : Int) := by omega
        clear hp hz hNB hzz
        rw [show (((11 : Nat)) : Int) = (11 : Int) from rfl]
        go_wp2
        go_roundw
        case rel => exact ⟨11 + 1, by omega, by go_num, HR.out _ HZ.out, HB.out.setCell (p := ⟨w.heap.size, 11, none⟩) (Nat.le_refl _) _⟩
        case measure => simp [intOf]
      · have hcx : wr.cell? ⟨g, 3, none⟩ = some (.int .u64 (d : Nat)) := hNB.cell 3 (by simp)
        obtain ⟨p, hp⟩ : ∃ p, p = d / 262144 := ⟨_, rfl⟩
        have hpi : (d : Int) / 262144 = (p : Int) := by omega
        have hcy : wr.cell? ⟨g, 4, none⟩ = some (.int .u64 (e : Nat)) := hNB.cell 4 (by simp)
        obtain ⟨q, hq⟩ : ∃ q, q = e * 256 := ⟨_, rfl⟩
        have hqi : (e : Int) * 256 = (q : Int) := by omega
        have hor := or_high p q 8 (by omega) (by omega) (by omega) (by omega)
        obtain ⟨r, hr⟩ : ∃ r, r = p + q := ⟨_, rfl⟩
        rw [← hr] at hor
        have hz : r % 256 = V / 256 ^ 12 % 256 := by rw [hr, hp, hq, ← HVE.out]; exact lb12 a b c d e ha hb hc hd he
        have hqb : q ≤ 4503599627370496 := by omega
        have hrb : r ≤ 4503599694479360 := by omega
        have hpb : p ≤ 67108863 := by omega
        clear hr hq
        obtain ⟨zz, hzz⟩ : ∃ zz, zz = r % 256 := ⟨_, rfl⟩
        have HZ : Hid (zz = V / 256 ^ 12 % 256) := by rw [hzz]; exact hz
        have hzi : (r : Int) % 256 = (zz : Int) := by omega
        clear hp hz hNB hzz
        rw [show (((12 : Nat)) : Int) = (12 : Int) from rfl]
        go_wp2
        go_roundw
        case rel => exact ⟨12 + 1, by omega, by go_num, HR.out _ HZ.out, HB.out.setCell (p := ⟨w.heap.size, 12, none⟩) (Nat.le_refl _) _⟩
        case measure => simp [intOf]
      · have hcx : wr.cell? ⟨g, 4, none⟩ = some (.int .u64 (e : Nat)) := hNB.cell 4 (by simp)
        obtain ⟨p, hp⟩ : ∃ p, p = e / 1 := ⟨_, rfl⟩
        have hpi : (e : Int) = (p : Int) := by omega
        have hz : p % 256 = V / 256 ^ 13 % 256 := by rw [hp, ← HVE.out]; exact lb13 a b c d e ha hb hc hd he
        have hpb : p ≤ 67108863 := by omega
        obtain ⟨zz, hzz⟩ : ∃ zz, zz = p % 256 := ⟨_, rfl⟩
        have HZ : Hid (zz = V / 256 ^ 13 % 256) := by rw [hzz]; exact hz
        have hzi : (p : Int) % 256 = (zz : Int) := by omega
        clear hp hz hNB hzz
        rw [show (((13 : Nat)) : Int) = (13 : Int) from rfl]
        go_wp2
        go_roundw
        case rel => exact ⟨13 + 1, by omega, by go_num, HR.out _ HZ.out, HB.out.setCell (p := ⟨w.heap.size, 13, none⟩) (Nat.le_refl _) _⟩
        case measure => simp [intOf]
      · have hcx : wr.cell? ⟨g, 4, none⟩ = some (.int .u64 (e : Nat)) := hNB.cell 4 (by simp)
        obtain ⟨p, hp⟩ : ∃ p, p = e / 256 := ⟨_, rfl⟩
        have hpi : (e : Int) / 256 = (p : Int) := by omega
        have hz : p % 256 = V / 256 ^ 14 % 256 := by rw [hp, ← HVE.out]; exact lb14 a b c d e ha hb hc hd he
        have hpb : p ≤ 67108863 := by omega
        obtain ⟨zz, hzz⟩ : ∃ zz, zz = p % 256 := ⟨_, rfl⟩
        have HZ : Hid (zz = V / 256 ^ 14 % 256) := by rw [hzz]; exact hz
        have hzi : (p : Int) % 256 = (zz : Int) := by omega
        clear hp hz hNB hzz
        rw [show (((14 : Nat)) : Int) = (14 : Int) from rfl]
        go_wp2
        go_roundw
        case rel => exact ⟨14 + 1, by omega, by go_num, HR.out _ HZ.out, HB.out.setCell (p := ⟨w.heap.size, 14, none⟩) (Nat.le_refl _) _⟩
        case measure => simp [intOf]
      · have hcx : wr.cell? ⟨g, 4, none⟩ = some (.int .u64 (e : Nat)) := hNB.cell 4 (by simp)
        obtain ⟨p, hp⟩ : ∃ p, p = e / 65536 := ⟨_, rfl⟩
        have hpi : (e : Int) / 65536 = (p : Int) := by omega
        have hz : p % 256 = V / 256 ^ 15 % 256 := by rw [hp, ← HVE.out]; exact lb15 a b c d e ha hb hc hd he
        have hpb : p ≤ 67108863 := by omega
        obtain ⟨zz, hzz⟩ : ∃ zz, zz = p % 256 := ⟨_, rfl⟩
        have HZ : Hid (zz = V / 256 ^ 15 % 256) := by rw [hzz]; exact hz
        have hzi : (p : Int) % 256 = (zz : Int) := by omega
        clear hp hz hNB hzz
        rw [show (((15 : Nat)) : Int) = (15 : Int) from rfl]
        go_wp2
        go_roundw
        case rel => exact ⟨15 + 1, by omega, by go_num, HR.out _ HZ.out, HB.out.setCell (p := ⟨w.heap.size, 15, none⟩) (Nat.le_refl _) _⟩
        case measure => simp [intOf]
    · have hlt' : ¬ (k : Int) < 16 := by omega
      obtain rfl : k = 16 := by omega
      rw [Nat.sub_self, List.replicate_zero, List.append_nil] at hgr
      have HG := hidden hgr
      have HB := hidden hbr
      clear hgr hbr
      go_wp2
      go_ret
      exact ⟨rfl, HG.out, HB.out⟩
end Go.Proofs.YthkaibkmpenclaaDoor
