/- The document's Mac, Derive and Hash. -/
import Derived.Test.YtookapglookphaaDoorXkC
import Derived.Test.YtookapglookphaaDoorXqA
namespace Go.Proofs.YtookapglookphaaDoor
section
open Go Go.RowKit
theorem keyTo_front (A T : List UInt8) (i j : Nat) (h : i ≤ j) : (keyTo A T j).take (32 * i) = keyTo A T i := by
  induction j with
  | zero =>
    obtain rfl : i = 0 := by omega
    rfl
  | succ j ih =>
    by_cases e : i = j + 1
    · subst e
      rw [List.take_of_length_le (by rw [keyTo_length]; omega)]
    · rw [keyTo_succ, List.take_append_of_le_length (by rw [keyTo_length]; omega), ih (by omega)]
end
section
open Go Go.RowKit

theorem xorTo_get (K : List UInt8) (p : UInt8) (j i : Nat) : (xorTo K p j)[i]? = if i < j then K[i]?.map (· ^^^ p) else K[i]? := by
  induction j generalizing i with
  | zero => simp [xorTo]
  | succ j ih =>
    have h0 : (xorTo K p j).getD j 0 = K[j]?.getD 0 := by rw [List.getD_eq_getElem?_getD, ih j, if_neg (by omega)]
    rw [xorTo, h0, List.getElem?_set]
    by_cases e : j = i
    · subst e
      rw [if_pos rfl, xorTo_length, if_pos (show j < j + 1 by omega)]
      by_cases hl : j < K.length
      · rw [if_pos hl, List.getElem?_eq_getElem hl]
        rfl
      · rw [if_neg hl, List.getElem?_eq_none (by omega)]
        rfl
    · rw [if_neg e, ih i]
      by_cases hl : i < j
      · rw [if_pos hl, if_pos (by omega)]
      · rw [if_neg hl, if_neg (by omega)]
theorem padL_map (xs : List UInt8) (p : UInt8) : padL xs p = (keyL xs).map (· ^^^ p) := by
  have h := keyL_length xs
  apply List.ext_getElem?
  intro i
  rw [padL, xorTo_get, List.getElem?_map]
  by_cases hl : i < 64
  · rw [if_pos hl]
  · rw [if_neg hl, List.getElem?_eq_none (by omega)]
    rfl
theorem xc54 (y : UInt8) : (#[.int .u8 ((y.toNat ^^^ 54 : Nat) : Int)] : Array Value) = (bcells [y ^^^ 54]).toArray := by
  simp [bcells, UInt8.toNat_xor]
theorem xc92 (y : UInt8) : (#[.int .u8 ((y.toNat ^^^ 92 : Nat) : Int)] : Array Value) = (bcells [y ^^^ 92]).toArray := by
  simp [bcells, UInt8.toNat_xor]
def xm (K : List UInt8) (p : UInt8) (j : Nat) : List UInt8 := (K.take j).map (· ^^^ p)
theorem xm_length (K : List UInt8) (p : UInt8) (j : Nat) (hj : j ≤ K.length) : (xm K p j).length = j := by
  unfold xm
  simp
  omega
theorem xm_succ (K : List UInt8) (p : UInt8) (j : Nat) (hj : j < K.length) : xm K p (j + 1) = xm K p j ++ [K.getD j 0 ^^^ p] := by
  unfold xm
  rw [List.take_succ_eq_append_getElem hj, List.map_append, List.getD_eq_getElem?_getD, List.getElem?_eq_getElem hj]
  rfl
theorem Own.other {w0 w w' : World} {v u : Value} {xs : List UInt8} (h : Own w0 w u xs) (hg : w.grownBy w' v.ownBlock) (hne : ∀ k, u.ownBlock = some k → v.ownBlock ≠ some k) (hb : ∀ k, v.ownBlock = some k → w0.heap.size ≤ k) : Own w0 w' u xs := by
  have hk : Keeps (fun k => v.ownBlock = some k) w w' := Keeps.ofGrown hg fun k e => e
  exact ⟨hk.row h.row hne, h.b.trans (hk.below h.b.size hb)⟩
theorem Own.base {w0 w : World} {v : Value} {xs : List UInt8} (h : Own w0 w v xs) : ∀ k, v.ownBlock = some k → w0.heap.size ≤ k ∧ k < w.heap.size := fun k hk => h.row.lt k hk
/-- Two rows of one's own, apart. -/
structure Two (w0 w : World) (v u : Value) (xs ys : List UInt8) : Prop where
  one : Own w0 w v xs
  two : Own w0 w u ys
  ap : ∀ k, v.ownBlock = some k → u.ownBlock ≠ some k
theorem Two.alloc {w0 w : World} {v u : Value} {xs ys : List UInt8} (h : Two w0 w v u xs ys) (o : Obj) : Two w0 (w.alloc o) v u xs ys := ⟨h.one.alloc o, h.two.alloc o, h.ap⟩
theorem Two.ext {w0 w w' : World} {v u : Value} {xs ys : List UInt8} (h : Two w0 w v u xs ys) (he : Below w.heap.size w w') : Two w0 w' v u xs ys := ⟨h.one.keep he, h.two.keep he, h.ap⟩
theorem Two.first {w0 w w' : World} {v u v' : Value} {xs ys xs' : List UInt8} (h : Two w0 w v u xs ys) (h1 : Own w0 w' v' xs') (hg : w.grownBy w' v.ownBlock) (hv : v'.ownBlock = v.ownBlock ∨ v'.ownBlock = some w.heap.size) : Two w0 w' v' u xs' ys := by
  refine ⟨h1, h.two.other hg (fun k e e2 => h.ap k e2 e) (fun k e => (h.one.base k e).1), fun k e e2 => ?_⟩
  rcases hv with hv | hv
  · exact h.ap k (by rw [← hv]; exact e) e2
  · rw [hv] at e
    cases e
    have := (h.two.base _ e2).2
    omega
theorem Two.flip {w0 w : World} {v u : Value} {xs ys : List UInt8} (h : Two w0 w v u xs ys) : Two w0 w u v ys xs := ⟨h.two, h.one, fun k e e2 => h.ap k e2 e⟩

set_option maxHeartbeats 1600000 in
set_option maxRecDepth 100000 in
theorem rMac_c (v1 v2 : Value) (key b : List UInt8) (hk : key.length ≤ 1000000) (hb : b.length ≤ 1000000) (w : World) (h1 : BSl w v1 key) (h2 : BSl w v2 b) :
    Calls Tryd.prog 38 #[v1, v2] w fun e w' => Fresh w (macL key b) e w' := by
  have H1 := hidden h1
  have H2 := hidden h2
  obtain ⟨a1, c1, rfl⟩ := h1.len
  obtain ⟨a2, c2, rfl⟩ := h2.len
  have HM : Hid (macL key b = sumL (padL key 92 ++ sumL (padL key 54 ++ b))) := rfl
  rw [padL_map, padL_map] at HM
  have HSh := hidden (shortK_le key)
  have HKe : Hid (keyL key = shortK key ++ List.replicate (64 - (shortK key).length) 0) := rfl
  have HKL := hidden (keyL_length key)
  have HSk : Hid ((64 < key.length → shortK key = sumL key) ∧ (¬ 64 < key.length → shortK key = key)) := ⟨fun h => by unfold shortK; rw [if_pos h], fun h => by unfold shortK; rw [if_neg h]⟩
  generalize macL key b = R at HM ⊢
  clear h1 h2
  go_enter Tryd.func38, Tryd.ntmps38
  go_wp2_with (at_builtin; (refine wpList_own _ rfl (.tmp 9) (.tmp 10) 22 rfl w _ [] rfl (Own.lit0' w) _ key rfl (H1.out.alloc _).src (by simp; omega) ?_))
  intro v3 w3 o3 _ _
  have O3 : Hid (Own w w3 v3 key) := o3
  obtain ⟨a3, c3, rfl⟩ := o3.shape
  clear o3
  by_cases h64 : 64 < key.length
  · have h64' : (64 : Int) < (key.length : Int) := by omega
    rw [HSk.out.1 h64] at HSh HKe
    go_wp2_with fail
    refine (rSum_c _ key (by omega) w3 O3.out.bsl).mono ?_
    rintro e w4 hf
    obtain ⟨v4, rfl, ho4, hb4⟩ := Fresh.next O3.out.b hf
    have OS : Hid (Own w w4 v4 (sumL key)) := ⟨ho4, hb4⟩
    clear ho4 hb4 hf O3
    rw [← HSk.out.1 h64] at HSh HKe OS
    have hSl := HSh.out
    generalize shortK key = SK at HKe hSl OS
    clear HSh HSk
    go_wp2_with fail
    go_loopw [5] (fun s wr => ∃ k : Nat, k ≤ 64 - SK.length ∧ Own w wr s (SK ++ List.replicate k 0)) (fun s _ => 64 - sliceLen s)
    case atStart => exact ⟨0, by omega, by simpa using OS.out⟩
    case round => as_aux_lemma =>
      clear OS
      obtain ⟨k, hk2, ho⟩ := hrel
      have HO := hidden ho
      obtain ⟨ao5, cp, rfl⟩ := ho.shape
      have hlen : (SK ++ List.replicate k 0).length = SK.length + k := by simp
      rw [hlen] at HO ⊢
      have HL := hidden hlen
      clear ho hlen
      by_cases hlt : SK.length + k < 64
      · have hlt' : ((SK.length + k : Nat) : Int) < 64 := by omega
        generalize hq : SK.length + k = q at *
        have HQ := hidden hq
        clear hq
        go_wp2_with (at_builtin; refine wpList_own _ rfl (.tmp 20) (.tmp 21) 22 rfl w _ (SK ++ List.replicate k 0) rfl (HO.out.alloc _) _ [0] rfl (src_lit [0]) (by rw [HL.out]; simp; omega) ?_)
        intro v6 w6 o6 _ _
        have O6 := hidden o6
        obtain ⟨ao2, cp2, e2⟩ := o6.shape
        have E2 := hidden e2
        clear o6 e2
        go_wp2
        go_roundw
        case rel =>
          refine ⟨k + 1, by have := HQ.out; omega, ?_⟩
          rw [List.replicate_succ']
          exact O6.out
        case measure =>
          rw [E2.out]
          have := HL.out
          have := HQ.out
          simp only [sliceLen, List.length_append, List.length_cons, List.length_nil] at *
          omega
      · have hlt' : ¬ ((SK.length + k : Nat) : Int) < 64 := by omega
        obtain rfl : k = 64 - SK.length := by omega
        have e64 : SK.length + (64 - SK.length) = 64 := by omega
        rw [e64] at hlt' HL HO ⊢
        rw [← HKe.out] at HO HL
        generalize keyL key = KK at HKe HO HL HKL HM
        have HKB := hidden HO.out.bsl
        have HBk := hidden HO.out.b
        obtain ⟨g5, off5, hao⟩ := HO.out.bsl.addr (by intro e; have := HKL.out; rw [e] at this; simp at this)
        subst hao
        clear HKe HO HL e64
        obtain ⟨wk, ek⟩ : ∃ x, x = wr := ⟨wr, rfl⟩
        subst ek
        go_wp2_with fail
        go_loopw [6, 7, 8] (fun s t c wx => ∃ j : Nat, j ≤ 64 ∧ c = .int .i64 (j : Int) ∧ Two wk wx s t (xm KK 54 j) (xm KK 92 j)) (fun _ _ c _ => 64 - (intOf c).toNat)
        case atStart => exact ⟨0, by omega, rfl, Own.nothing wk, Own.nothing wk, fun k e => by cases e⟩
        case round => as_aux_lemma =>
          obtain ⟨j, hj, rfl, ht⟩ := hrel
          have HT := hidden ht
          clear ht
          by_cases hlt2 : j < 64
          · have hlt3 : (j : Int) < 64 := by omega
            have hkc := (HKB.out.fresh HT.out.one.b).cellD j (by rw [HKL.out]; omega)
            have S1 := hidden (xm_succ KK 54 j (by rw [HKL.out]; omega))
            have S2 := hidden (xm_succ KK 92 j (by rw [HKL.out]; omega))
            have l1 := hidden (xm_length KK 54 j (by rw [HKL.out]; omega))
            have l2 := hidden (xm_length KK 92 j (by rw [HKL.out]; omega))
            have x1 := xbyte (KK.getD j 0) 54
            have x2 := xbyte (KK.getD j 0) 92
            rw [show (((54 : UInt8).toNat : Nat) : Int) = 54 from rfl] at x1
            rw [show (((92 : UInt8).toNat : Nat) : Int) = 92 from rfl] at x2
            have HKc := hidden hkc
            generalize hy : KK.getD j 0 = y at hkc S1 S2 x1 x2 HKc
            have HY := hidden hy
            clear hy
            generalize xm KK 54 j = X1 at HT S1 l1
            generalize xm KK 92 j = X2 at HT S2 l2
            go_wp2_with (at_builtin; refine wpList_own _ rfl (.tmp 27) (.tmp 33) 22 rfl wk _ X1 rfl (HT.out.one.alloc _) _ [y ^^^ 54] rfl ?hc ?hl ?_)
            case hl => rw [l1.out]; simp; omega
            case hc => exact srcBlock (xc54 y) (heap_alloc_new wr _)
            intro v7 w7 o7 hg7 hb7
            have HT7 := hidden ((HT.out.alloc _).first o7 hg7 (by simpa using hb7))
            have hkc7 := (HKB.out.fresh HT7.out.one.b).cellD j (by rw [HKL.out]; omega)
            rw [HY.out] at hkc7
            clear o7 hg7 hb7 hkc HKc
            rw [← S1.out] at HT7
            go_wp2_with (at_builtin; refine wpList_own _ rfl (.tmp 35) (.tmp 41) 22 rfl wk _ X2 rfl (HT7.out.two.alloc _) _ [y ^^^ 92] rfl ?hc ?hl ?_)
            case hl => rw [l2.out]; simp; omega
            case hc => exact srcBlock (xc92 y) (heap_alloc_new w7 _)
            intro v8 w8 o8 hg8 hb8
            have HT8 := hidden (((HT7.out.flip.alloc _).first o8 hg8 (by simpa using hb8)).flip)
            rw [← S2.out] at HT8
            clear o8 hg8 hb8 hkc7 HT7
            go_wp2
            go_roundw
            case rel => exact ⟨j + 1, by omega, by go_num, HT8.out⟩
            case measure => simp [intOf]; omega
          · have hlt3 : ¬ (j : Int) < 64 := by omega
            obtain rfl : j = 64 := by omega
            rw [show xm KK 54 64 = KK.map (· ^^^ 54) by unfold xm; rw [List.take_of_length_le (by rw [HKL.out]; omega)], show xm KK 92 64 = KK.map (· ^^^ 92) by unfold xm; rw [List.take_of_length_le (by rw [HKL.out]; omega)]] at HT
            have m1 : Hid ((KK.map (· ^^^ (54 : UInt8))).length = 64) := by show _ = _; rw [List.length_map, HKL.out]
            have m2 : Hid ((KK.map (· ^^^ (92 : UInt8))).length = 64) := by show _ = _; rw [List.length_map, HKL.out]
            have S9 := hidden ((H2.out.fresh HBk.out).fresh HT.out.one.b).src
            generalize KK.map (· ^^^ (54 : UInt8)) = X1 at HT HM m1
            generalize KK.map (· ^^^ (92 : UInt8)) = X2 at HT HM m2
            go_wp2_with (at_builtin; refine wpList_own _ rfl (.tmp 44) (.tmp 45) 22 rfl wk _ X1 rfl HT.out.one _ b rfl S9.out ?hl ?_)
            case hl => rw [m1.out]; omega
            intro v9 w9 o9 hg9 hb9
            have HT9 := hidden (HT.out.first o9 hg9 hb9)
            clear o9 hg9 hb9 HT S9
            go_wp2_with fail
            refine (rSum_c _ (X1 ++ b) (by rw [List.length_append, m1.out]; omega) w9 HT9.out.one.bsl).mono ?_
            rintro e w10 ⟨v10, rfl, ho10, hb10⟩
            have S10 := hidden (BSl.ofRow ho10).src
            have O10 := hidden (HT9.out.ext hb10).two
            have HSl := hidden (sumL_length (X1 ++ b))
            generalize sumL (X1 ++ b) = S1 at S10 HM HSl
            clear ho10 hb10 HT9
            go_wp2_with (at_builtin; refine wpList_own _ rfl (.tmp 43) (.tmp 47) 22 rfl wk _ X2 rfl O10.out _ S1 rfl S10.out ?hl ?_)
            case hl => rw [m2.out, HSl.out]; omega
            intro v11 w11 o11 _ _
            have O11 := hidden o11
            clear o11 O10 S10
            go_wp2_with fail
            refine (rSum_c _ (X2 ++ S1) (by rw [List.length_append, m2.out, HSl.out]; omega) w11 O11.out.bsl).mono ?_
            rintro e w12 hf
            rw [← HM.out] at hf
            have hbb := HBk.out.trans (O11.out.b.mono HBk.out.size)
            obtain ⟨v12, rfl, ho12, hb12⟩ := Fresh.next hbb hf
            have HO12 := hidden ho12
            have HB12 := hidden hb12
            clear ho12 hb12 hf hbb
            go_wp2
            go_ret
            exact ⟨v12, rfl, HO12.out, HB12.out⟩
  · have h64' : ¬ (64 : Int) < (key.length : Int) := by omega
    have OS := O3
    rw [show Own w w3 (.slice a3 key.length c3) key = Own w w3 (.slice a3 key.length c3) (shortK key) by rw [HSk.out.2 h64]] at OS
    clear O3
    have hSl := HSh.out
    generalize shortK key = SK at HKe hSl OS
    clear HSh HSk
    go_wp2_with fail
    go_loopw [5] (fun s wr => ∃ k : Nat, k ≤ 64 - SK.length ∧ Own w wr s (SK ++ List.replicate k 0)) (fun s _ => 64 - sliceLen s)
    case atStart => exact ⟨0, by omega, by simpa using OS.out⟩
    case round => as_aux_lemma =>
      clear OS
      obtain ⟨k, hk2, ho⟩ := hrel
      have HO := hidden ho
      obtain ⟨ao5, cp, rfl⟩ := ho.shape
      have hlen : (SK ++ List.replicate k 0).length = SK.length + k := by simp
      rw [hlen] at HO ⊢
      have HL := hidden hlen
      clear ho hlen
      by_cases hlt : SK.length + k < 64
      · have hlt' : ((SK.length + k : Nat) : Int) < 64 := by omega
        generalize hq : SK.length + k = q at *
        have HQ := hidden hq
        clear hq
        go_wp2_with (at_builtin; refine wpList_own _ rfl (.tmp 20) (.tmp 21) 22 rfl w _ (SK ++ List.replicate k 0) rfl (HO.out.alloc _) _ [0] rfl (src_lit [0]) (by rw [HL.out]; simp; omega) ?_)
        intro v6 w6 o6 _ _
        have O6 := hidden o6
        obtain ⟨ao2, cp2, e2⟩ := o6.shape
        have E2 := hidden e2
        clear o6 e2
        go_wp2
        go_roundw
        case rel =>
          refine ⟨k + 1, by have := HQ.out; omega, ?_⟩
          rw [List.replicate_succ']
          exact O6.out
        case measure =>
          rw [E2.out]
          have := HL.out
          have := HQ.out
          simp only [sliceLen, List.length_append, List.length_cons, List.length_nil] at *
          omega
      · have hlt' : ¬ ((SK.length + k : Nat) : Int) < 64 := by omega
        obtain rfl : k = 64 - SK.length := by omega
        have e64 : SK.length + (64 - SK.length) = 64 := by omega
        rw [e64] at hlt' HL HO ⊢
        rw [← HKe.out] at HO HL
        generalize keyL key = KK at HKe HO HL HKL HM
        have HKB := hidden HO.out.bsl
        have HBk := hidden HO.out.b
        obtain ⟨g5, off5, hao⟩ := HO.out.bsl.addr (by intro e; have := HKL.out; rw [e] at this; simp at this)
        subst hao
        clear HKe HO HL e64
        obtain ⟨wk, ek⟩ : ∃ x, x = wr := ⟨wr, rfl⟩
        subst ek
        go_wp2_with fail
        go_loopw [6, 7, 8] (fun s t c wx => ∃ j : Nat, j ≤ 64 ∧ c = .int .i64 (j : Int) ∧ Two wk wx s t (xm KK 54 j) (xm KK 92 j)) (fun _ _ c _ => 64 - (intOf c).toNat)
        case atStart => exact ⟨0, by omega, rfl, Own.nothing wk, Own.nothing wk, fun k e => by cases e⟩
        case round => as_aux_lemma =>
          obtain ⟨j, hj, rfl, ht⟩ := hrel
          have HT := hidden ht
          clear ht
          by_cases hlt2 : j < 64
          · have hlt3 : (j : Int) < 64 := by omega
            have hkc := (HKB.out.fresh HT.out.one.b).cellD j (by rw [HKL.out]; omega)
            have S1 := hidden (xm_succ KK 54 j (by rw [HKL.out]; omega))
            have S2 := hidden (xm_succ KK 92 j (by rw [HKL.out]; omega))
            have l1 := hidden (xm_length KK 54 j (by rw [HKL.out]; omega))
            have l2 := hidden (xm_length KK 92 j (by rw [HKL.out]; omega))
            have x1 := xbyte (KK.getD j 0) 54
            have x2 := xbyte (KK.getD j 0) 92
            rw [show (((54 : UInt8).toNat : Nat) : Int) = 54 from rfl] at x1
            rw [show (((92 : UInt8).toNat : Nat) : Int) = 92 from rfl] at x2
            have HKc := hidden hkc
            generalize hy : KK.getD j 0 = y at hkc S1 S2 x1 x2 HKc
            have HY := hidden hy
            clear hy
            generalize xm KK 54 j = X1 at HT S1 l1
            generalize xm KK 92 j = X2 at HT S2 l2
            go_wp2_with (at_builtin; refine wpList_own _ rfl (.tmp 27) (.tmp 33) 22 rfl wk _ X1 rfl (HT.out.one.alloc _) _ [y ^^^ 54] rfl ?hc ?hl ?_)
            case hl => rw [l1.out]; simp; omega
            case hc => exact srcBlock (xc54 y) (heap_alloc_new wr _)
            intro v7 w7 o7 hg7 hb7
            have HT7 := hidden ((HT.out.alloc _).first o7 hg7 (by simpa using hb7))
            have hkc7 := (HKB.out.fresh HT7.out.one.b).cellD j (by rw [HKL.out]; omega)
            rw [HY.out] at hkc7
            clear o7 hg7 hb7 hkc HKc
            rw [← S1.out] at HT7
            go_wp2_with (at_builtin; refine wpList_own _ rfl (.tmp 35) (.tmp 41) 22 rfl wk _ X2 rfl (HT7.out.two.alloc _) _ [y ^^^ 92] rfl ?hc ?hl ?_)
            case hl => rw [l2.out]; simp; omega
            case hc => exact srcBlock (xc92 y) (heap_alloc_new w7 _)
            intro v8 w8 o8 hg8 hb8
            have HT8 := hidden (((HT7.out.flip.alloc _).first o8 hg8 (by simpa using hb8)).flip)
            rw [← S2.out] at HT8
            clear o8 hg8 hb8 hkc7 HT7
            go_wp2
            go_roundw
            case rel => exact ⟨j + 1, by omega, by go_num, HT8.out⟩
            case measure => simp [intOf]; omega
          · have hlt3 : ¬ (j : Int) < 64 := by omega
            obtain rfl : j = 64 := by omega
            rw [show xm KK 54 64 = KK.map (· ^^^ 54) by unfold xm; rw [List.take_of_length_le (by rw [HKL.out]; omega)], show xm KK 92 64 = KK.map (· ^^^ 92) by unfold xm; rw [List.take_of_length_le (by rw [HKL.out]; omega)]] at HT
            have m1 : Hid ((KK.map (· ^^^ (54 : UInt8))).length = 64) := by show _ = _; rw [List.length_map, HKL.out]
            have m2 : Hid ((KK.map (· ^^^ (92 : UInt8))).length = 64) := by show _ = _; rw [List.length_map, HKL.out]
            have S9 := hidden ((H2.out.fresh HBk.out).fresh HT.out.one.b).src
            generalize KK.map (· ^^^ (54 : UInt8)) = X1 at HT HM m1
            generalize KK.map (· ^^^ (92 : UInt8)) = X2 at HT HM m2
            go_wp2_with (at_builtin; refine wpList_own _ rfl (.tmp 44) (.tmp 45) 22 rfl wk _ X1 rfl HT.out.one _ b rfl S9.out ?hl ?_)
            case hl => rw [m1.out]; omega
            intro v9 w9 o9 hg9 hb9
            have HT9 := hidden (HT.out.first o9 hg9 hb9)
            clear o9 hg9 hb9 HT S9
            go_wp2_with fail
            refine (rSum_c _ (X1 ++ b) (by rw [List.length_append, m1.out]; omega) w9 HT9.out.one.bsl).mono ?_
            rintro e w10 ⟨v10, rfl, ho10, hb10⟩
            have S10 := hidden (BSl.ofRow ho10).src
            have O10 := hidden (HT9.out.ext hb10).two
            have HSl := hidden (sumL_length (X1 ++ b))
            generalize sumL (X1 ++ b) = S1 at S10 HM HSl
            clear ho10 hb10 HT9
            go_wp2_with (at_builtin; refine wpList_own _ rfl (.tmp 43) (.tmp 47) 22 rfl wk _ X2 rfl O10.out _ S1 rfl S10.out ?hl ?_)
            case hl => rw [m2.out, HSl.out]; omega
            intro v11 w11 o11 _ _
            have O11 := hidden o11
            clear o11 O10 S10
            go_wp2_with fail
            refine (rSum_c _ (X2 ++ S1) (by rw [List.length_append, m2.out, HSl.out]; omega) w11 O11.out.bsl).mono ?_
            rintro e w12 hf
            rw [← HM.out] at hf
            have hbb := HBk.out.trans (O11.out.b.mono HBk.out.size)
            obtain ⟨v12, rfl, ho12, hb12⟩ := Fresh.next hbb hf
            have HO12 := hidden ho12
            have HB12 := hidden hb12
            clear ho12 hb12 hf hbb
            go_wp2
            go_ret
            exact ⟨v12, rfl, HO12.out, HB12.out⟩
end
section
open Go Go.RowKit

theorem tail_pos (A T : List UInt8) (j : Nat) (h : 1 ≤ j) : keyTo A T (j + 1) = keyTo A T j ++ sumL (A ++ keyTo A T j) := by
  match j, h with
  | j + 1, _ => rfl
theorem key_take (A T : List UInt8) (j m : Nat) (h : m ≤ 32 * j) : (keyTo A T j).take m = (keyTo A T ((m + 31) / 32)).take m := by
  rw [← keyTo_front A T ((m + 31) / 32) j (by omega), List.take_take, Nat.min_eq_left (by omega)]


set_option maxHeartbeats 1600000 in
set_option maxRecDepth 100000 in
theorem rHash_c (vc vs : ByteArray) (pv : Nat → Value) (px : Nat → List UInt8) (v1 : Value) (k : List UInt8) (h0 : vc.size ≤ 2000000) (h1 : vs.size ≤ 2000000) (hp : ∀ i, (px i).length ≤ 1000000) (hk : k.length ≤ 1000000) (w : World) (hv : ∀ i, i < 5 → BSl w (pv i) (px i)) (hb : BSl w v1 k) :
    Calls Tryd.prog 70 #[.agg #[.string vc, .string vs, pv 0, pv 1, pv 2, pv 3, pv 4], v1] w fun e w' => Fresh w (hashL vc.data.toList vs.data.toList px k) e w' := by
  have HV := hidden hv
  have HK := hidden hb
  have HP := hidden (joinTo_le px 1000000 hp)
  have HPx := hidden hp
  obtain ⟨a1, c1, rfl⟩ := hb.len
  obtain ⟨s0, t0, e0⟩ := (hv 0 (by omega)).len
  obtain ⟨s1, t1, e1⟩ := (hv 1 (by omega)).len
  obtain ⟨s2, t2, e2⟩ := (hv 2 (by omega)).len
  obtain ⟨s3, t3, e3⟩ := (hv 3 (by omega)).len
  obtain ⟨s4, t4, e4⟩ := (hv 4 (by omega)).len
  have HF : Hid (five pv = #[.slice s0 (px 0).length t0, .slice s1 (px 1).length t1, .slice s2 (px 2).length t2, .slice s3 (px 3).length t3, .slice s4 (px 4).length t4]) := by
    show _ = _
    unfold five
    rw [e0, e1, e2, e3, e4]
  rw [e0, e1, e2, e3, e4]
  clear hv hb hp e0 e1 e2 e3 e4
  generalize (px 0).length = l0 at HF ⊢
  generalize (px 1).length = l1 at HF ⊢
  generalize (px 2).length = l2 at HF ⊢
  generalize (px 3).length = l3 at HF ⊢
  generalize (px 4).length = l4 at HF ⊢
  have HHL : Hid (hashL vc.data.toList vs.data.toList px k = sumL (textBytes vc.data.toList ++ textBytes vs.data.toList ++ joinTo px 5 ++ mpBytes k)) := rfl
  generalize hashL vc.data.toList vs.data.toList px k = RL at HHL ⊢
  have HL0 : Hid ((textBytes vc.data.toList).length = vc.size + 4) := by show _ = _; rw [text_len, Array.length_toList]; rfl
  have HL1 : Hid ((textBytes vs.data.toList).length = vs.size + 4) := by show _ = _; rw [text_len, Array.length_toList]; rfl
  go_enter Tryd.func70, Tryd.ntmps70
  go_wp2_with fail
  obtain ⟨w1, hw1⟩ : ∃ x, x = w.alloc (.cells #[.string vc, .string vs, .slice s0 l0 t0, .slice s1 l1 t1, .slice s2 l2 t2, .slice s3 l3 t3, .slice s4 l4 t4] 109) := ⟨_, rfl⟩
  rw [← hw1]
  have hB1 : Below w.heap.size w w1 := by rw [hw1]; exact (Below.refl _ w).alloc (by omega) _
  have HC1 : Hid (w1.heap[w.heap.size]? = some (.cells #[.string vc, .string vs, .slice s0 l0 t0, .slice s1 l1 t1, .slice s2 l2 t2, .slice s3 l3 t3, .slice s4 l4 t4] 109 (0, 0))) := by rw [hw1]; exact heap_alloc_new w _
  have HB1 := hidden hB1
  have hs1 : w.heap.size < w1.heap.size := lt_of_block HC1.out
  clear hw1 hB1
  generalize hT : w.heap.size = T at HC1 hs1 ⊢
  have HTe := hidden hT
  clear hT
  have HTk : Hid (∀ wx, Below w1.heap.size w1 wx → wx.heap[T]? = some (.cells #[.string vc, .string vs, .slice s0 l0 t0, .slice s1 l1 t1, .slice s2 l2 t2, .slice s3 l3 t3, .slice s4 l4 t4] 109 (0, 0))) := fun wx hx => (hx.block T hs1).trans HC1.out
  have HTc : Hid (∀ wx, Below w1.heap.size w1 wx → wx.cell? ⟨T, 0, none⟩ = some (.string vc) ∧ wx.cell? ⟨T, 1, none⟩ = some (.string vs)) := fun wx hx => by
    have g0 := cell_row (HTk.out wx hx) 0
    have g1 := cell_row (HTk.out wx hx) 1
    simp only [List.getElem?_cons_zero, List.getElem?_cons_succ] at g0 g1
    exact ⟨g0, g1⟩
  clear HC1
  obtain ⟨f0, f1⟩ := HTc.out w1 (Below.refl _ _)
  go_cut [5] from 8 (fun s wx => BSl wx s (textBytes vc.data.toList ++ textBytes vs.data.toList) ∧ Below w1.heap.size w1 wx)
  case first =>
    go_region_with (first
      | (have hh := ho30; clear hh; go_at_call 37; refine (rtext_c vs (by omega) _ _ _ ho30 (by rw [HL0.out]; omega)).mono ?_; rintro e w4 ⟨v4, rfl, ho4, hb4⟩; have ho40 := BSl.ofRow ho4; have hb40 := hb30.trans (hb4.mono hb30.size); clear ho4 hb4)
      | (go_at_call 37; refine (rtext_c vc (by omega) _ [] _ (Own.nothing _).bsl (by simp; omega)).mono ?_; rintro e w3 ⟨v3, rfl, ho3, hb3⟩; have hb30 := (Below.refl w1.heap.size w1).drew.trans hb3; obtain ⟨g30, g31⟩ := HTc.out w3 hb30; have ho30 := BSl.ofRow ho3; rw [List.nil_append] at ho30; clear ho3 hb3))
    all_goals (go_wp2_with fail; go_meet; exact ⟨ho40, hb40⟩)
  case rest =>
    obtain ⟨hbs, hb4⟩ := hcut
    have g2 := cell_row (HTk.out wc hb4) 2
    have g3 := cell_row (HTk.out wc hb4) 3
    have g4 := cell_row (HTk.out wc hb4) 4
    have g5 := cell_row (HTk.out wc hb4) 5
    have g6 := cell_row (HTk.out wc hb4) 6
    simp only [List.getElem?_cons_zero, List.getElem?_cons_succ] at g2 g3 g4 g5 g6
    have HBc : Hid (Below w.heap.size w (wc.alloc (.cells (five pv) 22))) := (HB1.out.trans (hb4.mono (by have := HTe.out; omega))).alloc ((HB1.out.trans (hb4.mono (by have := HTe.out; omega))).size) _
    have HS0 : Hid (BSl (wc.alloc (.cells (five pv) 22)) u5 (textBytes vc.data.toList ++ textBytes vs.data.toList)) := hbs.alloc _
    have HRo : Hid ((wc.alloc (.cells (five pv) 22)).heap[wc.heap.size]? = some (.cells (five pv) 22 (0, 0))) := heap_alloc_new wc _
    rw [HF.out] at HBc HS0 HRo
    have HD1 : Hid ((textBytes vc.data.toList ++ textBytes vs.data.toList).length = vc.size + vs.size + 8) := by show _ = _; rw [List.length_append, HL0.out, HL1.out]; omega
    generalize textBytes vc.data.toList ++ textBytes vs.data.toList = D1 at HS0 HHL HD1
    clear hbs hb4 HTc HTk HB1 hs1 HTe f0 f1
    go_upto_region 3 with fail
    generalize wc.alloc (.cells #[.slice s0 l0 t0, .slice s1 l1 t1, .slice s2 l2 t2, .slice s3 l3 t3, .slice s4 l4 t4] 22) = w5 at HBc HS0 HRo ⊢
    generalize wc.heap.size = B at HRo ⊢
    clear g2 g3 g4 g5 g6
    rw [← HF.out] at HRo
    have hB5 : B < w5.heap.size := lt_of_block HRo.out
    go_wp2_with fail
    go_loopw [5, 26] (fun s c wr => ∃ j : Nat, j ≤ 5 ∧ c = .int .i64 (j : Int) ∧ BSl wr s (D1 ++ joinTo px j) ∧ Below w5.heap.size w5 wr) (fun _ c _ => 5 - (intOf c).toNat)
    case atStart => exact ⟨0, by omega, rfl, by simpa [joinTo] using HS0.out, Below.refl _ _⟩
    case round =>
      clear HS0
      obtain ⟨j, hj, rfl, hs, hbb⟩ := hrel
      have HSj := hidden hs
      have HBj := hidden hbb
      obtain ⟨as', cs', rfl⟩ := hs.len
      clear hs hbb
      generalize hXj : D1 ++ joinTo px j = Xj at HSj ⊢
      have HXj := hidden hXj
      clear hXj
      by_cases hlt : j < 5
      · have hlt' : (j : Int) < 5 := by omega
        have hcell : wr.cell? ⟨B, j, none⟩ = some (pv j) := by
          have := (HBj.out.block B hB5).trans HRo.out
          rw [cell_row (cs := (five pv).toList) (by simpa using this), Array.getElem?_toList, five_at pv j hlt]
        have hvj := (HV.out j hlt).fresh (HBc.out.trans (HBj.out.mono HBc.out.size))
        have hlj : (px j).length ≤ 1000000 := HPx.out j
        have HPj := hidden (HP.out j)
        have hstr := run_string hvj
        have HTx : Hid (∀ s : ByteArray, s = ⟨(px j).toArray⟩ → s.size < 4294967296 ∧ s.size ≤ 1000000 ∧ s.data.toList = px j) := fun s hs => by
          subst hs
          rw [size_list]
          exact ⟨by omega, hlj, rfl⟩
        obtain ⟨S, hS⟩ : ∃ S : ByteArray, S = ⟨(px j).toArray⟩ := ⟨_, rfl⟩
        rw [← hS] at hstr
        obtain ⟨q1, q2, q3⟩ := HTx.out S hS
        have Q3 := hidden q3
        obtain ⟨aj, cj, ej⟩ := hvj.len
        rw [ej] at hcell hstr
        have HJ : Hid (joinTo px (j + 1) = joinTo px j ++ textBytes (px j)) := rfl
        clear hvj ej HTx hS q3
        go_wp2_with fail
        refine (rtext_c S q1 _ _ wr HSj.out (by rw [← HXj.out, List.length_append, HD1.out]; have := HPj.out; omega)).mono ?_
        rintro e w6 ⟨v6, rfl, ho6, hb6⟩
        have hs6 := BSl.ofRow ho6
        rw [Q3.out, ← HXj.out, List.append_assoc, ← HJ.out] at hs6
        have HS6 := hidden hs6
        have HB6 := hidden (HBj.out.trans (hb6.mono HBj.out.size))
        clear ho6 hb6 hs6 hcell hstr
        go_wp2
        go_roundw
        case rel => exact ⟨j + 1, by omega, by go_num, HS6.out, HB6.out⟩
        case measure => simp [intOf]; omega
      · have hlt' : ¬ (j : Int) < 5 := by omega
        obtain rfl : j = 5 := by omega
        have HPj := hidden (HP.out 5)
        have HBw := hidden (HBc.out.trans (HBj.out.mono HBc.out.size))
        have HML := hidden (mp_le k)
        have HKw := hidden (HK.out.fresh HBw.out)
        have HXl : Hid (Xj.length = vc.size + vs.size + 8 + (joinTo px 5).length) := by show _ = _; rw [← HXj.out, List.length_append, HD1.out]
        rw [HXj.out] at HHL
        clear HXj
        go_wp2_with fail
        refine (rmpint_c _ k (by omega) _ Xj wr HSj.out HKw.out (by rw [HXl.out]; have := HPj.out; omega)).mono ?_
        rintro e w7 ⟨v7, rfl, ho7, hb7⟩
        have HV7 := hidden (BSl.ofRow ho7)
        have HB7 := hidden (HBw.out.trans (hb7.mono HBw.out.size))
        clear ho7 hb7
        have HXL : Hid ((Xj ++ mpBytes k).length ≤ 100000000) := by
          show _ ≤ _
          rw [List.length_append, HXl.out]
          have := HPj.out
          have := HML.out
          omega
        generalize Xj ++ mpBytes k = X at HV7 HXL HHL
        go_wp2_with fail
        refine (rSum_c _ X (by have := HXL.out; omega) w7 HV7.out).mono ?_
        rintro e w9 hf
        rw [← HHL.out] at hf
        obtain ⟨v9, rfl, ho9, hb9⟩ := Fresh.next HB7.out hf
        have HO9 := hidden ho9
        have HB9 := hidden hb9
        clear ho9 hb9 hf
        go_wp2
        go_ret
        exact ⟨v9, rfl, HO9.out, HB9.out⟩
end
end Go.Proofs.YtookapglookphaaDoor
