/- kdf: Sum. -/
import Derived.Test.YtookapglookphaaDoorXkA
import Derived.Test.YtookapglookphaaDoorXkW
namespace Go.Proofs.YtookapglookphaaDoor
section
open Go Go.RowKit

/-- The state behind so many blocks. -/
def blocksTo (L : List Int) (xs : List UInt8) : Nat → List Int
  | 0 => L
  | i + 1 => blockL (blocksTo L xs i) ((xs.drop (64 * i)).take 64)
theorem blocksTo_length (L : List Int) (xs : List UInt8) (i : Nat) : (blocksTo L xs i).length = L.length := by
  induction i with
  | zero => rfl
  | succ i ih => rw [blocksTo, blockL_length, ih]

set_option maxHeartbeats 1600000 in
set_option maxRecDepth 100000 in
theorem takeBlocks_c (g n : Nat) (L : List Int) (hL : L.length = 8) (v : Value) (xs : List UInt8) (hx : xs.length = 64 * n) (hn : n ≤ 2300000000000) (w : World) (hr : Rw w) (h0 : g ≠ 0) (hg : WB w g 115 L) (hv : BSl w v xs) (hvg : xs ≠ [] → v.ownBlock ≠ some g) :
    Calls Tryd.prog 77 #[.pointer (some ⟨g, 0, none⟩), v] w fun e w' => e = .returned (.tuple #[]) ∧ WB w' g 115 (blocksTo L xs n) ∧ Keeps (fun k => k = g) w w' := by
  have HV := hidden hv
  have HX := hidden hx
  obtain ⟨ao, cap, rfl, hc1, hc2, _⟩ := hv
  unfold maxLen at hc2
  rw [hx]
  rw [hx] at HV hc1 hvg
  have HR := hidden hr
  have HG := hidden hg
  clear hr hg hx
  go_enter Tryd.func77, Tryd.ntmps77
  go_wp2_with fail
  go_loopw [4] (fun c wr => ∃ i : Nat, i ≤ n ∧ c = .int .i64 ((64 * i : Nat) : Int) ∧ WB wr g 115 (blocksTo L xs i) ∧ Keeps (fun k => k = g) w wr) (fun c _ => 64 * n - (intOf c).toNat)
  case atStart => exact ⟨0, by omega, rfl, HG.out, Keeps.refl _ _⟩
  case round =>
    clear HG
    obtain ⟨i, hi, rfl, hw, hk⟩ := hrel
    have HW := hidden hw
    have HK := hidden hk
    clear hw hk
    by_cases hlt : i < n
    · have hlt' : ((64 * i : Nat) : Int) < ((64 * n : Nat) : Int) := by omega
      have hne : xs ≠ [] := by intro e; have := HX.out; rw [e] at this; simp at this; omega
      have hv1 := HV.out.keep HK.out (fun k e h => hvg hne (by rw [e, h]))
      obtain ⟨b, o, cp, e, hbl⟩ := hv1.nonnil hne
      rw [HX.out] at e
      cases e
      have hp := hv1.part (i := 64 * i) (j := 64) (by omega)
      have hl2 : (((64 * i : Nat) : Int) + 64) ≤ (cap : Int) := by omega
      have hl3 : (((64 * i : Nat) : Int) + 64) ≤ ((64 * n : Nat) : Int) := by omega
      have hpl : ((xs.drop (64 * i)).take 64).length = 64 := by simp [HX.out]; omega
      have HTB := hidden (takeBlock_c g b (o + 64 * i) (cap - 64 * i) (blocksTo L xs i) (by rw [blocksTo_length]; exact hL) ((xs.drop (64 * i)).take 64) hpl (by omega) wr (HR.out.keep HK.out (by omega)) h0 HW.out hp)
      rw [show blockL (blocksTo L xs i) ((xs.drop (64 * i)).take 64) = blocksTo L xs (i + 1) from rfl] at HTB
      clear hv1 hp hpl hbl
      generalize hme : 64 * i = m at *
      have HME := hidden hme
      clear hme
      have e64 : m + 64 - m = 64 := by omega
      go_wp2_with fail
      refine HTB.out.mono ?_
      rintro e w2 ⟨rfl, hw2, hk2⟩
      have HW2 := hidden hw2
      have HK2 := hidden hk2
      clear hw2 hk2 HTB e64
      go_wp2
      go_roundw
      case rel => exact ⟨i + 1, by omega, by have := HME.out; go_num, HW2.out, HK.out.trans HK2.out⟩
      case measure => have := HME.out; simp [intOf]; omega
    · have hlt' : ¬ ((64 * i : Nat) : Int) < ((64 * n : Nat) : Int) := by omega
      obtain rfl : i = n := by omega
      go_wp2
      go_end0
      exact ⟨rfl, HW.out, HK.out⟩

/-- The state ahead of the first block. -/
def iv : List Int := [1779033703, 3144134277, 1013904242, 2773480762, 1359893119, 2600822924, 528734635, 1541459225]

set_option maxHeartbeats 400000 in
set_option maxRecDepth 100000 in
theorem start_c (w : World) : Calls Tryd.prog 76 #[] w fun e w' => e = .returned (.agg (wcells iv).toArray) ∧ Below w.heap.size w w' := by
  have HB : Hid (Below w.heap.size w (w.alloc (.cells (wcells iv).toArray 115))) := (Below.refl _ w).alloc (by omega) _
  go_enter Tryd.func76, Tryd.ntmps76
  go_wp2
  (try simp only [Exit.inBlock, Exit.then])
  refine bodyPost_ret (results_cell1 rfl _ _ _ w.heap.size (wcells iv).toArray 115 (0, 0) 8 89 rfl (heap_alloc_new w _) Tryd.underlying115 (by kernel_rfl)) rfl ?_
  exact ⟨rfl, HB.out⟩

/-- A row of bytes that a call has made for itself, where all that was there before the call stands. -/
structure Own (w0 w : World) (v : Value) (xs : List UInt8) : Prop where
  row : w.ownsRow w0.heap.size 5 1 v xs.length (bcells xs)
  b : Below w0.heap.size w0 w
theorem Own.bsl {w0 w : World} {v : Value} {xs : List UInt8} (h : Own w0 w v xs) : BSl w v xs := BSl.ofRow h.row
theorem Own.fresh {w0 w : World} {v : Value} {xs : List UInt8} (h : Own w0 w v xs) : Fresh w0 xs (.returned v) w := ⟨v, rfl, h.row, h.b⟩
theorem Own.alloc {w0 w : World} {v : Value} {xs : List UInt8} (h : Own w0 w v xs) (o : Obj) : Own w0 (w.alloc o) v xs := ⟨h.row.alloc o, h.b.alloc h.b.size o⟩
theorem Own.drew {w0 w : World} {v : Value} {xs : List UInt8} (h : Own w0 w v xs) : Own w0 w.drew v xs := ⟨h.row.drew, h.b.drew⟩
theorem Own.keep {w0 w w' : World} {v : Value} {xs : List UInt8} (h : Own w0 w v xs) (hb : Below w.heap.size w w') : Own w0 w' v xs :=
  ⟨(Keeps.ofFresh (S := fun _ => False) hb).row h.row (fun _ _ h => h), h.b.trans (hb.mono h.b.size)⟩
theorem Own.shape {w0 w : World} {v : Value} {xs : List UInt8} (h : Own w0 w v xs) : ∃ ao cap, v = .slice ao xs.length cap := ownsRow_shape h.row
theorem wpList_own (w : World) {ops : Array Oper} {rest : List Oper} {o : Oper} {a : Act} {Q : Exit → Act → World → Prop} (hgd : o.guard = none) (s xo : Operand) (tx : TypeId)
    (ho : o.op = .call { callee := .builtin .append, args := #[s, xo], argTypes := #[22, tx] })
    (w0 : World) (v : Value) (xs : List UInt8) (hsv : a.eval s = v) (h : Own w0 w v xs) (x : Value) (news : List UInt8) (hx : a.eval xo = x) (hs : Src Tryd.prog 1 tx x news.length (bcells news) w)
    (hl : xs.length + news.length ≤ 140737488355328)
    (hK : ∀ v' w', Own w0 w' v' (xs ++ news) → w.grownBy w' v.ownBlock → (v'.ownBlock = v.ownBlock ∨ v'.ownBlock = some w.heap.size) → wpList Tryd.prog ops Q rest (a.put o.dst v') w') : wpList Tryd.prog ops Q (o :: rest) a w := by
  obtain ⟨i0, hi, hz0, hz1, hz2⟩ := info_parts Tryd.infoU8
  refine wpList_append_src w hgd s xo 22 tx ho w0.heap.size 5 i0 _ 1 Tryd.underlying22 hi hz0 hz1 hz2 rfl v _ _ hsv h.row x _ _ hx hs (by unfold maxLen; omega) (by omega) h.b.size w.heap.size rfl ?_
  intro v' w' h1 h2 _ h4
  refine hK v' w' ⟨?_, h.b.grown h2 h.b.size (fun k hk => (h.row.lt k hk).1)⟩ h2 h4
  rw [List.length_append, bcells_append]
  exact h1
theorem src_lit {w : World} (bs : List UInt8) : Src Tryd.prog 1 22 (.slice (some ⟨w.heap.size, 0, none⟩) bs.length bs.length) bs.length (bcells bs) (w.alloc (.cells (bcells bs).toArray 5)) :=
  srcBlock rfl (heap_alloc_new w _)

/-- How many noughts are between the bit and the length. -/
def zN (n : Nat) : Nat := (119 - n % 64) % 64
/-- What stands behind a text of n bytes. -/
def padTail (n : Nat) : List UInt8 := 128 :: List.replicate (zN n) 0 ++ be 8 (8 * n)
end
section
open Go Go.RowKit

theorem zN_step (m k : Nat) : (m + 1 + k) % 64 = 56 ∧ k ≤ zN m → k = zN m := by
  unfold zN
  intro h
  omega
theorem zN_at (m : Nat) : (m + 1 + zN m) % 64 = 56 := by
  unfold zN
  omega
theorem zN_le (m : Nat) : zN m ≤ 63 := by unfold zN; omega

theorem be_cell2 (n i : Nat) : (#[.int .u8 ((n : Int) / 2 ^ (8 * i) % 256)] : Array Value) = (bcells [UInt8.ofNat (n / 256 ^ i % 256)]).toArray := by
  have h2 : (2 : Nat) ^ (8 * i) = 256 ^ i := by rw [Nat.pow_mul]
  have h3 : ((n : Int) / 2 ^ (8 * i)) = ((n / 256 ^ i : Nat) : Int) := by rw [← h2]; simp
  rw [h3]
  generalize n / 256 ^ i = x
  simp [bcells]

set_option maxHeartbeats 1600000 in
set_option maxRecDepth 100000 in
theorem ending_c (v : Value) (xs : List UInt8) (n : Nat) (hx : xs.length < 64) (hxn : n % 64 = xs.length) (hn : n ≤ 145000000000000) (w : World) (hv : BSl w v xs) :
    Calls Tryd.prog 78 #[v, .int .i64 n] w fun e w' => Fresh w (xs ++ padTail n) e w' := by
  obtain ⟨i0, hi, hz0, hz1, hz2⟩ := info_parts Tryd.infoU8
  have HV := hidden hv
  obtain ⟨ao, cap, rfl⟩ := hv.len
  clear hv
  have HZ : Hid (zN n = zN xs.length) := by show _ = _; unfold zN; omega
  have HP : Hid (padTail n = 128 :: List.replicate (zN xs.length) 0 ++ be 8 (8 * n)) := by show _ = _; rw [← HZ.out]; rfl
  generalize padTail n = T at HP ⊢
  clear HZ hxn
  go_enter Tryd.func78, Tryd.ntmps78
  go_wp2_with (refine wpList_make_own _ rfl (.const (.int .i64 0)) (.const (.int .i64 128)) 22 rfl w.heap.size 5 i0 _ 1 Tryd.underlying22 hi hz0 hz1 .i64 .i64 _ 128 rfl rfl (by omega) (by rw [hz2]; omega) (by unfold maxLen; omega) (Nat.le_refl _) ?_)
  intro w1 ho1 hgr1
  have O1 : Hid (Own w w1 (.slice (some ⟨w.heap.size, 0, none⟩) 0 128) []) := ⟨ho1, (Below.refl _ w).grown hgr1 (by simp) (by simp)⟩
  have S1 := hidden (HV.out.fresh O1.out.b).src
  clear ho1 hgr1 hi hz0 hz1 hz2
  go_wp2_with (at_builtin; refine wpList_own _ rfl (.tmp 9) (.tmp 10) 22 rfl w _ [] rfl O1.out _ xs rfl S1.out (by simp; omega) ?_)
  intro v2 w2 o2 _ _
  have O2 := hidden o2
  clear o2 O1 S1 HV
  go_wp2_with (at_builtin; refine wpList_own _ rfl (.tmp 12) (.tmp 13) 22 rfl w _ xs rfl (O2.out.alloc _) _ [128] rfl (src_lit [128]) (by simp; omega) ?_)
  intro v3 w3 o3 _ _
  have O3 := hidden o3
  clear o3 O2
  go_wp2_with fail
  go_loopw [5] (fun s wr => ∃ k : Nat, k ≤ zN xs.length ∧ Own w wr s (xs ++ 128 :: List.replicate k 0)) (fun s _ => xs.length + 1 + zN xs.length - sliceLen s)
  case atStart => exact ⟨0, by omega, O3.out⟩
  case round =>
    clear O3
    obtain ⟨k, hk, ho⟩ := hrel
    have HO := hidden ho
    obtain ⟨ao, cp, rfl⟩ := ho.shape
    have hlen : (xs ++ 128 :: List.replicate k 0).length = xs.length + 1 + k := by simp; omega
    rw [hlen] at HO ⊢
    have hzl := zN_le xs.length
    have hst := zN_step xs.length k
    have hat := zN_at xs.length
    obtain ⟨q, hq⟩ : ∃ q, q = xs.length + 1 + k := ⟨_, rfl⟩
    rw [← hq] at HO hlen hst ⊢
    have HL := hidden hlen
    have HQ := hidden hq
    clear ho hlen
    by_cases hlt : k < zN xs.length
    · have hne : ((q : Int) % 64 != 56) = true := by
        simp
        omega
      have hql : q ≤ 200 := by omega
      clear hst hat hq
      go_wp2_with (at_builtin; refine wpList_own _ rfl (.tmp 19) (.tmp 20) 22 rfl w _ (xs ++ 128 :: List.replicate k 0) rfl (HO.out.alloc _) _ [0] rfl (src_lit [0]) (by rw [HL.out]; simp; omega) ?_)
      intro v4 w4 o4 _ _
      have O4 := hidden o4
      obtain ⟨ao2, cp2, e2⟩ := o4.shape
      have E2 := hidden e2
      clear o4 e2
      go_wp2
      go_roundw
      case rel =>
        refine ⟨k + 1, by omega, ?_⟩
        rw [List.replicate_succ']
        exact O4.out
      case measure =>
        rw [E2.out]
        have := HL.out
        have := HQ.out
        simp only [sliceLen, List.length_append, List.length_cons, List.length_nil] at *
        omega
    · obtain rfl : k = zN xs.length := by omega
      have hne : ((q : Int) % 64 != 56) = false := by
        have := hat
        simp
        omega
      have hql : q ≤ 200 := by omega
      clear hst hat hq
      generalize hDe : xs ++ 128 :: List.replicate (zN xs.length) 0 = D at HO HL
      have HDe := hidden hDe
      clear hDe
      go_wp2_with fail
      rw [show (n : Int) * 8 = ((8 * n : Nat) : Int) by omega]
      have hm8 : 8 * n ≤ 1160000000000000 := by omega
      generalize 8 * n = m at HP hm8 ⊢
      go_loopw [5, 7] (fun s c wr => ∃ j : Nat, j ≤ 8 ∧ c = .int .i64 (8 * (j : Int) - 8) ∧ ∃ pre, pre ++ be j m = be 8 m ∧ Own w wr s (D ++ pre)) (fun _ c _ => (intOf c + 8).toNat)
      case atStart => exact ⟨8, Nat.le_refl _, by go_num, [], rfl, by simpa using HO.out⟩
      case round =>
        clear HO
        obtain ⟨j, hj, rfl, pre, hpre, ho⟩ := hrel
        match j, hj, hpre with
        | 0, _, hpre =>
          have HF : Hid (D ++ pre = D ++ be 8 m) := by
            rw [show be 0 m = [] from rfl, List.append_nil] at hpre
            rw [hpre]
            exact hidden rfl
          have HO := hidden ho
          clear hpre ho
          go_wp2
          go_ret
          have := HO.out
          rw [HF.out, ← HDe.out, List.append_assoc] at this
          rw [HP.out]
          exact this.fresh
        | i + 1, hj, hpre =>
          have hpl : pre.length + (i + 1) = 8 := by have := congrArg List.length hpre; simpa [be_length] using this
          have HPr := hidden hpre
          have HO := hidden ho
          have HLn : Hid ((D ++ pre).length + 1 ≤ 1000) := by show _ ≤ _; rw [List.length_append, HL.out]; omega
          have HPl := hidden hpl
          clear hpre ho hpl
          rw [show (8 * ((i + 1 : Nat) : Int) - 8) = ((8 * i : Nat) : Int) from by omega]
          have hp0 : (0 : Int) ≤ ((8 * i : Nat) : Int) := Int.natCast_nonneg _
          have hp1 : ((8 * i : Nat) : Int) < 64 := by omega
          generalize hDP : D ++ pre = DP at HO HLn
          have HDP := hidden hDP
          clear hDP
          go_wp2_with (at_builtin; (refine wpList_own _ rfl (.tmp 29) (.tmp 34) 22 rfl w _ DP rfl (HO.out.alloc _) _ [UInt8.ofNat (m / 256 ^ i % 256)] rfl ?hc ?hl ?_))
          case hl => have := HLn.out; simp only [List.length_cons, List.length_nil]; omega
          case hc => exact srcBlock (be_cell2 m i) (heap_alloc_new wr _)
          intro v4 w4 o4 _ _
          have O4 := hidden o4
          clear o4
          go_wp2
          go_roundw
          case rel =>
            refine ⟨i, by omega, by go_num, pre ++ [UInt8.ofNat (m / 256 ^ i % 256)], by rw [← HPr.out]; simp [be], ?_⟩
            rw [← List.append_assoc, HDP.out]
            exact O4.out
          case measure => simp [intOf]; omega
end
section
open Go Go.RowKit

def wB (x : Int) : List UInt8 := [byteOf (x / 16777216), byteOf (x / 65536), byteOf (x / 256), byteOf x]
theorem wB_cells (x : Int) : (#[.int .u8 (x / 16777216 % 256), .int .u8 (x / 65536 % 256), .int .u8 (x / 256 % 256), .int .u8 (x % 256)] : Array Value) = (bcells (wB x)).toArray := by
  simp [bcells, wB, byteOf_nat]
def outB (L : List Int) : Nat → List UInt8
  | 0 => []
  | j + 1 => outB L j ++ wB (L.getD j 0)
theorem outB_length (L : List Int) (j : Nat) : (outB L j).length = 4 * j := by
  induction j with
  | zero => rfl
  | succ j ih => rw [outB, List.length_append, ih]; simp [wB]; omega

set_option maxHeartbeats 800000 in
set_option maxRecDepth 100000 in
theorem sbytes_c (g : Nat) (L : List Int) (hL : L.length = 8) (w : World) (hg : WB w g 115 L) :
    Calls Tryd.prog 79 #[.pointer (some ⟨g, 0, none⟩)] w fun e w' => Fresh w (outB L 8) e w' := by
  obtain ⟨i0, hi, hz0, hz1, hz2⟩ := info_parts Tryd.infoU8
  have HG := hidden hg
  clear hg
  go_enter Tryd.func79, Tryd.ntmps79
  go_wp2_with (refine wpList_make_own _ rfl (.const (.int .i64 0)) (.const (.int .i64 32)) 22 rfl w.heap.size 5 i0 _ 1 Tryd.underlying22 hi hz0 hz1 .i64 .i64 _ 32 rfl rfl (by omega) (by rw [hz2]; omega) (by unfold maxLen; omega) (Nat.le_refl _) ?_)
  intro w1 ho1 hgr1
  have O1 : Hid (Own w w1 (.slice (some ⟨w.heap.size, 0, none⟩) 0 32) []) := ⟨ho1, (Below.refl _ w).grown hgr1 (by simp) (by simp)⟩
  clear ho1 hgr1 hi hz0 hz1 hz2
  go_wp2_with fail
  go_loopw [3, 8] (fun s c wr => ∃ j : Nat, j ≤ 8 ∧ c = .int .i64 (j : Int) ∧ Own w wr s (outB L j)) (fun _ c _ => 8 - (intOf c).toNat)
  case atStart => exact ⟨0, by omega, rfl, O1.out⟩
  case round =>
    clear O1
    obtain ⟨j, hj, rfl, ho⟩ := hrel
    have HO := hidden ho
    clear ho
    by_cases hlt : j < 8
    · have hlt' : (j : Int) < 8 := by omega
      have c1 := (HG.out.keep (S := fun _ => False) (Keeps.ofFresh HO.out.b) (fun h => h)).cell j (by omega)
      have HE : Hid (outB L (j + 1) = outB L j ++ wB (L.getD j 0)) := rfl
      have HLn := hidden (outB_length L j)
      generalize L.getD j 0 = x at c1 HE
      generalize outB L j = D at HO HE HLn
      go_wp2_with (at_builtin; (refine wpList_own _ rfl (.tmp 13) (.tmp 25) 22 rfl w _ D rfl (HO.out.alloc _) _ (wB x) rfl ?hc ?hl ?_))
      case hl => rw [HLn.out]; simp [wB]; omega
      case hc => exact srcBlock (wB_cells x) (heap_alloc_new wr _)
      intro v4 w4 o4 _ _
      have O4 := hidden o4
      clear o4
      go_wp2
      go_roundw
      case rel => exact ⟨j + 1, by omega, by go_num, by rw [HE.out]; exact O4.out⟩
      case measure => simp [intOf]; omega
    · have hlt' : ¬ (j : Int) < 8 := by omega
      obtain rfl : j = 8 := by omega
      go_wp2
      go_ret
      exact HO.out.fresh

theorem blocksTo_left (L : List Int) (A B : List UInt8) (i : Nat) (h : 64 * i ≤ A.length) : blocksTo L (A ++ B) i = blocksTo L A i := by
  induction i with
  | zero => rfl
  | succ i ih =>
    rw [blocksTo, blocksTo, ih (by omega), List.drop_append_of_le_length (by omega), List.take_append_of_le_length (by simp; omega)]
theorem blocksTo_append (L : List Int) (A B : List UInt8) (k e : Nat) (h : A.length = 64 * k) : blocksTo L (A ++ B) (k + e) = blocksTo (blocksTo L A k) B e := by
  induction e with
  | zero => exact blocksTo_left L A B k (by omega)
  | succ e ih =>
    rw [← Nat.add_assoc, blocksTo, blocksTo, ih]
    congr 2
    rw [show 64 * (k + e) = A.length + 64 * e by omega, List.drop_append, List.drop_of_length_le (by omega), List.nil_append]
    congr 1
    omega
/-- How many blocks a text of n bytes has. -/
def blocksN (n : Nat) : Nat := (n + 9 + zN n) / 64
theorem padTail_length (n : Nat) : (padTail n).length = 9 + zN n := by simp [padTail, be_length]; omega
theorem blocksN_len (n : Nat) : n + 9 + zN n = 64 * blocksN n := by unfold blocksN zN; omega
/-- SHA-256. -/
def sumL (xs : List UInt8) : List UInt8 := outB (blocksTo iv (xs ++ padTail xs.length) (blocksN xs.length)) 8
theorem sumL_length (xs : List UInt8) : (sumL xs).length = 32 := outB_length _ _
theorem sumL_split (xs : List UInt8) : sumL xs = outB (blocksTo (blocksTo iv (xs.take (64 * (xs.length / 64))) (xs.length / 64)) (xs.drop (64 * (xs.length / 64)) ++ padTail xs.length) (blocksN xs.length - xs.length / 64)) 8 := by
  have h := blocksTo_append iv (xs.take (64 * (xs.length / 64))) (xs.drop (64 * (xs.length / 64)) ++ padTail xs.length) (xs.length / 64) (blocksN xs.length - xs.length / 64) (by simp; omega)
  rw [← h, ← List.append_assoc, List.take_append_drop, sumL]
  congr 2
  unfold blocksN
  omega
end
section
open Go Go.RowKit

theorem BSl.dropM {w : World} {ao : Option Addr} {cap k : Nat} {xs : List UInt8} (h : BSl w (.slice ao xs.length cap) xs) (hk : k ≤ xs.length) : BSl w (.slice (Option.map (fun x => x.add k) ao) (xs.length - k) (cap - k)) (xs.drop k) := by
  obtain ⟨ao', cap', e, h1, h2, h3, h4⟩ := h
  cases e
  refine ⟨_, _, by rw [List.length_drop], by rw [List.length_drop]; omega, by unfold maxLen at *; omega, ?_, ?_⟩
  · intro e
    cases ao with
    | none => obtain ⟨rfl, rfl⟩ := h3 rfl; simp
    | some a => simp at e
  · intro ad e hne
    cases ao with
    | none => simp at e
    | some a =>
      have hne' : xs ≠ [] := by rintro rfl; simp at hne
      obtain ⟨b, off, rfl, hc⟩ := h4 a rfl hne'
      simp only [Option.map_some, Option.some.injEq, add_lit'] at e
      refine ⟨b, off + k, e.symm, fun j u hu => ?_⟩
      have := hc (k + j) u (by simpa [bcells, List.getElem?_drop] using hu)
      rw [← Nat.add_assoc] at this
      exact this
theorem BSl.dropC {w : World} {ao : Option Addr} {cap k : Nat} {xs : List UInt8} (h : BSl w (.slice ao xs.length cap) xs) (hk : cap = k) : BSl w (.slice ao (xs.length - k) 0) (xs.drop k) := by
  obtain ⟨ao', cap', e, h1, h2, h3, h4⟩ := h
  cases e
  have hd : xs.drop k = [] := List.drop_of_length_le (by omega)
  rw [hd]
  exact ⟨ao, 0, by rw [show xs.length - k = 0 by omega]; rfl, by simp, by unfold maxLen; omega, fun _ => ⟨rfl, rfl⟩, fun ad _ hne => absurd rfl hne⟩
theorem iv_length : iv.length = 8 := rfl
set_option maxHeartbeats 1600000 in
set_option maxRecDepth 100000 in
theorem Sum_c (v : Value) (xs : List UInt8) (hl : xs.length ≤ 145000000000000) (w : World) (hr : Rw w) (hv : BSl w v xs) :
    Calls Tryd.prog 45 #[v] w fun e w' => Fresh w (sumL xs) e w' := by
  have HV := hidden hv
  have HR := hidden hr
  obtain ⟨ao, cap, rfl, hc1, hc2, hc3, hc4⟩ := hv
  unfold maxLen at hc2
  have HS := hidden (sumL_split xs)
  generalize sumL xs = S at HS ⊢
  obtain ⟨k, hk⟩ : ∃ k, k = xs.length / 64 := ⟨_, rfl⟩
  have HBN := hidden (blocksN_len xs.length)
  rw [← hk] at HS
  have hk1 : (xs.length : Int) - (xs.length : Int) % 64 = ((64 * k : Nat) : Int) := by omega
  have hkl : 64 * k ≤ xs.length := by omega
  have hkm : xs.length - 64 * k < 64 := by omega
  have HK := hidden hk
  clear hr hk
  go_enter Tryd.func45, Tryd.ntmps45
  go_wp2_with fail
  refine (start_c _).mono ?_
  rintro e w1 ⟨rfl, hb1⟩
  obtain ⟨q1, q2, q3⟩ := row8 iv_length
  have Q1 := hidden q1
  have Q2 := hidden q2
  have Q3 := hidden q3
  have HB2 : Hid (Below w.heap.size w (w1.alloc (.cells (wcells iv).toArray 115))) := hb1.alloc hb1.size _
  have HW2 : Hid (WB (w1.alloc (.cells (wcells iv).toArray 115)) w1.heap.size 115 iv) := heap_alloc_new w1 _
  have hs1 := hb1.size
  clear hb1 q1 q2 q3
  generalize (wcells iv).toArray = LA at Q1 Q2 Q3 HB2 HW2 ⊢
  go_wp2_with (first
    | (refine wpList_store_row rfl 115 (.tmp 3) (.tmp 5) rfl w1.heap.size LA rfl rfl 115 _ (heap_alloc_new w1 _) Q1.out Q3.out Q2.out ?_; rw [World.setRow_alloc_new]))
  have H0 : Hid (w1.heap.size ≠ 0) := by have := HR.out.1; show _ ≠ _; omega
  have HTk : Hid ((xs.take (64 * k)).length = 64 * k) := by show _ = _; simp; omega
  have hown : xs ≠ [] → (Value.slice ao (64 * k) cap).ownBlock ≠ some w1.heap.size := by
    intro hne e
    obtain ⟨b, o, cp, e2, hbl⟩ := HV.out.nonnil hne
    cases e2
    simp [Value.ownBlock] at e
    omega
  have hvk := HV.out.fresh HB2.out
  refine (takeBlocks_c w1.heap.size k iv iv_length _ (xs.take (64 * k)) HTk.out (by omega) _ (HR.out.fresh HB2.out) H0.out HW2.out (hvk.head' hkl) (fun h => hown (by intro e; exact h (by rw [e]; simp)))).mono ?_
  rintro e w3 ⟨rfl, hw3, hk3⟩
  have HW3 := hidden hw3
  have HK3 := hidden hk3
  have HB3 : Hid (Below w.heap.size w w3) := HB2.out.trans (hk3.below (B := w.heap.size) HB2.out.size (by intro i e; omega))
  have HV3 : Hid (BSl w3 (.slice ao xs.length cap) xs) := HV.out.fresh HB3.out
  have HR3 := hidden (HR.out.fresh HB3.out)
  clear hw3 hk3 hvk hown HW2 HB2 Q1 Q2 Q3
  go_wp2_with fail
  all_goals
    refine (ending_c _ (xs.drop (64 * k)) xs.length (by rw [List.length_drop]; omega) (by rw [List.length_drop]; have := HK.out; omega) (by omega) w3 (by first | exact HV3.out.dropM hkl | (apply HV3.out.dropC; assumption))).mono ?_
    rintro e w4 ⟨v4, rfl, ho4, hb4⟩
    have HV4 := hidden (BSl.ofRow ho4)
    have HW4 := hidden (HW3.out.keep (S := fun _ => False) (Keeps.ofFresh hb4) (fun h => h))
    have HR4 := hidden (HR3.out.fresh hb4)
    have HB4 : Hid (Below w.heap.size w w4) := HB3.out.trans (hb4.mono HB3.out.size)
    have hlen : (xs.drop (64 * k) ++ padTail xs.length).length = 64 * (blocksN xs.length - k) := by
      have := HBN.out
      rw [List.length_append, List.length_drop, padTail_length]
      omega
    have hown : v4.ownBlock ≠ some w1.heap.size := fun e => by
      have h1 := ho4.lt _ e
      have h2 := lt_of_block HW3.out
      omega
    have HLen := hidden hlen
    have HOwn := hidden hown
    clear hlen hown ho4 hb4
    go_wp2_with fail
    refine (takeBlocks_c w1.heap.size (blocksN xs.length - k) (blocksTo iv (xs.take (64 * k)) k) (by rw [blocksTo_length]; rfl) _ _ HLen.out (by have := HBN.out; have := zN_le xs.length; omega) _ HR4.out H0.out HW4.out HV4.out (fun _ => HOwn.out)).mono ?_
    rintro e w5 ⟨rfl, hw5, hk5⟩
    have HW5 := hidden hw5
    have HB5 : Hid (Below w.heap.size w w5) := HB4.out.trans (hk5.below (B := w.heap.size) HB4.out.size (by intro i e; omega))
    clear hw5 hk5 HV4 HW4 HR4 HB4
    go_wp2_with fail
    refine (sbytes_c w1.heap.size _ (by rw [blocksTo_length, blocksTo_length]; rfl) _ HW5.out).mono ?_
    rintro e w6 hf6
    rw [← HS.out] at hf6
    obtain ⟨v6, rfl, ho6, hb6⟩ := Fresh.next HB5.out hf6
    have HO6 := hidden ho6
    have HB6 := hidden hb6
    clear ho6 hb6 hf6
    go_wp2
    go_ret
    exact ⟨v6, rfl, HO6.out, HB6.out⟩
end
end Go.Proofs.YtookapglookphaaDoor
