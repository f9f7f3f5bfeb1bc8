/- The last blocks of a text, and the sum as bytes. -/
import Derived.Test.YtllkafhooapcbaaDoorKdE
namespace Go.Proofs.YtllkafhooapcbaaDoor
open Go Go.RowKit

theorem zN_step (m k : Nat) : (m + 1 + k) % 64 = 56 ∧ k ≤ zN m → k = zN m := by
  unfold zN
  intro h
  omega
theorem zN_at (m : Nat) : (m + 1 + zN m) % 64 = 56 := by
  unfold zN
  omega
theorem zN_le (m : Nat) : zN m ≤ 63 := by unfold zN; omega

theorem be_cell2 (n i : Nat) : (#[.int .u8 ((n : Int) / 2 ^ (8 * i) % 256)] : Array Value) = (bcells [UInt8.ofNat (n / 256 ^ i % 256)]).toArray := by
  have h2 : (2 : Nat) ^ (8 * i) = 256 ^ i := by rw [Nat.pow_mul]
  have h3 : ((n : Int) / 2 ^ (8 * i)) = ((n / 256 ^ i : Nat) : Int) := by rw [← h2]; simp
  rw [h3]
  generalize n / 256 ^ i = x
  simp [bcells]

set_option maxHeartbeats 1600000 in
set_option maxRecDepth 100000 in
theorem ending_c (v : Value) (xs : List UInt8) (n : Nat) (hx : xs.length < 64) (hxn : n % 64 = xs.length) (hn : n ≤ 1000000000000) (w : World) (hv : BSl w v xs) :
    Calls Tryd.prog 32 #[v, .int .i64 n] w fun e w' => Fresh w (xs ++ padTail n) e w' := by
  obtain ⟨i0, hi, hz0, hz1, hz2⟩ := info_parts Tryd.infoU8
  have HV := hidden hv
  obtain ⟨ao, cap, rfl⟩ := hv.len
  clear hv
  have HZ : Hid (zN n = zN xs.length) := by show _ = _; unfold zN; omega
  have HP : Hid (padTail n = 128 :: List.replicate (zN xs.length) 0 ++ be 8 (8 * n)) := by show _ = _; rw [← HZ.out]; rfl
  generalize padTail n = T at HP ⊢
  clear HZ hxn
  go_enter Tryd.func32, Tryd.ntmps32
  go_wp2_with (refine wpList_make_own _ rfl (.const (.int .i64 0)) (.const (.int .i64 128)) 22 rfl w.heap.size 5 i0 _ 1 Tryd.underlying22 hi hz0 hz1 .i64 .i64 _ 128 rfl rfl (by omega) (by rw [hz2]; omega) (by unfold maxLen; omega) (Nat.le_refl _) ?_)
  intro w1 ho1 hgr1
  have O1 : Hid (Own w w1 (.slice (some ⟨w.heap.size, 0, none⟩) 0 128) []) := ⟨ho1, (Below.refl _ w).grown hgr1 (by simp) (by simp)⟩
  have S1 := hidden (HV.out.fresh O1.out.b).src
  clear ho1 hgr1 hi hz0 hz1 hz2
  go_wp2_with (at_builtin; refine wpList_own _ rfl (.tmp 9) (.tmp 10) 22 rfl w _ [] rfl O1.out _ xs rfl S1.out (by simp; omega) ?_)
  intro v2 w2 o2 _ _
  have O2 := hidden o2
  clear o2 O1 S1 HV
  go_wp2_with (at_builtin; refine wpList_own _ rfl (.tmp 12) (.tmp 13) 22 rfl w _ xs rfl (O2.out.alloc _) _ [128] rfl (src_lit [128]) (by simp; omega) ?_)
  intro v3 w3 o3 _ _
  have O3 := hidden o3
  clear o3 O2
  go_wp2_with fail
  go_loopw [5] (fun s wr => ∃ k : Nat, k ≤ zN xs.length ∧ Own w wr s (xs ++ 128 :: List.replicate k 0)) (fun s _ => xs.length + 1 + zN xs.length - sliceLen s)
  case atStart => exact ⟨0, by omega, O3.out⟩
  case round =>
    clear O3
    obtain ⟨k, hk, ho⟩ := hrel
    have HO := hidden ho
    obtain ⟨ao, cp, rfl⟩ := ho.shape
    have hlen : (xs ++ 128 :: List.replicate k 0).length = xs.length + 1 + k := by simp; omega
    rw [hlen] at HO ⊢
    have hzl := zN_le xs.length
    have hst := zN_step xs.length k
    have hat := zN_at xs.length
    obtain ⟨q, hq⟩ : ∃ q, q = xs.length + 1 + k := ⟨_, rfl⟩
    rw [← hq] at HO hlen hst ⊢
    have HL := hidden hlen
    have HQ := hidden hq
    clear ho hlen
    by_cases hlt : k < zN xs.length
    · have hne : ((q : Int) % 64 != 56) = true := by
        simp
        omega
      have hql : q ≤ 200 := by omega
      clear hst hat hq
      go_wp2_with (at_builtin; refine wpList_own _ rfl (.tmp 19) (.tmp 20) 22 rfl w _ (xs ++ 128 :: List.replicate k 0) rfl (HO.out.alloc _) _ [0] rfl (src_lit [0]) (by rw [HL.out]; simp; omega) ?_)
      intro v4 w4 o4 _ _
      have O4 := hidden o4
      obtain ⟨ao2, cp2, e2⟩ := o4.shape
      have E2 := hidden e2
      clear o4 e2
      go_wp2
      go_roundw
      case rel =>
        refine ⟨k + 1, by omega, ?_⟩
        rw [List.replicate_succ']
        exact O4.out
      case measure =>
        rw [E2.out]
        have := HL.out
        have := HQ.out
        simp only [sliceLen, List.length_append, List.length_cons, List.length_nil] at *
        omega
    · obtain rfl : k = zN xs.length := by omega
      have hne : ((q : Int) % 64 != 56) = false := by
        have := hat
        simp
        omega
      have hql : q ≤ 200 := by omega
      clear hst hat hq
      generalize hDe : xs ++ 128 :: List.replicate (zN xs.length) 0 = D at HO HL
      have HDe := hidden hDe
      clear hDe
      go_wp2_with fail
      rw [show (n : Int) * 8 = ((8 * n : Nat) : Int) by omega]
      have hm8 : 8 * n ≤ 8000000000000 := by omega
      generalize 8 * n = m at HP hm8 ⊢
      go_loopw [5, 7] (fun s c wr => ∃ j : Nat, j ≤ 8 ∧ c = .int .i64 (8 * (j : Int) - 8) ∧ ∃ pre, pre ++ be j m = be 8 m ∧ Own w wr s (D ++ pre)) (fun _ c _ => (intOf c + 8).toNat)
      case atStart => exact ⟨8, Nat.le_refl _, by go_num, [], rfl, by simpa using HO.out⟩
      case round =>
        clear HO
        obtain ⟨j, hj, rfl, pre, hpre, ho⟩ := hrel
        match j, hj, hpre with
        | 0, _, hpre =>
          have HF : Hid (D ++ pre = D ++ be 8 m) := by
            rw [show be 0 m = [] from rfl, List.append_nil] at hpre
            rw [hpre]
            exact hidden rfl
          have HO := hidden ho
          clear hpre ho
          go_wp2
          go_ret
          have := HO.out
          rw [HF.out, ← HDe.out, List.append_assoc] at this
          rw [HP.out]
          exact this.fresh
        | i + 1, hj, hpre =>
          have hpl : pre.length + (i + 1) = 8 := by have := congrArg List.length hpre; simpa [be_length] using this
          have HPr := hidden hpre
          have HO := hidden ho
          have HLn : Hid ((D ++ pre).length + 1 ≤ 1000) := by show _ ≤ _; rw [List.length_append, HL.out]; omega
          have HPl := hidden hpl
          clear hpre ho hpl
          rw [show (8 * ((i + 1 : Nat) : Int) - 8) = ((8 * i : Nat) : Int) from by omega]
          have hp0 : (0 : Int) ≤ ((8 * i : Nat) : Int) := Int.natCast_nonneg _
          have hp1 : ((8 * i : Nat) : Int) < 64 := by omega
          generalize hDP : D ++ pre = DP at HO HLn
          have HDP := hidden hDP
          clear hDP
          go_wp2_with (at_builtin; (refine wpList_own _ rfl (.tmp 29) (.tmp 34) 22 rfl w _ DP rfl (HO.out.alloc _) _ [UInt8.ofNat (m / 256 ^ i % 256)] rfl ?hc ?hl ?_))
          case hl => have := HLn.out; simp only [List.length_cons, List.length_nil]; omega
          case hc => exact srcBlock (be_cell2 m i) (heap_alloc_new wr _)
          intro v4 w4 o4 _ _
          have O4 := hidden o4
          clear o4
          go_wp2
          go_roundw
          case rel =>
            refine ⟨i, by omega, by go_num, pre ++ [UInt8.ofNat (m / 256 ^ i % 256)], by rw [← HPr.out]; simp [be], ?_⟩
            rw [← List.append_assoc, HDP.out]
            exact O4.out
          case measure => simp [intOf]; omega
end Go.Proofs.YtllkafhooapcbaaDoor
