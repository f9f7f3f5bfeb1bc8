/- What Derive answers. -/
import Derived.Test.YtllkafhooapcbaaDoorKdO
namespace Go.Proofs.YtllkafhooapcbaaDoor
open Go Go.RowKit

/-- Sums, one behind the other: each of all ahead of it. -/
def keyTo (A T : List UInt8) : Nat → List UInt8
  | 0 => []
  | 1 => sumL (A ++ T)
  | j + 2 => keyTo A T (j + 1) ++ sumL (A ++ keyTo A T (j + 1))
theorem keyTo_length (A T : List UInt8) (j : Nat) : (keyTo A T j).length = 32 * j := by
  match j with
  | 0 => rfl
  | 1 => exact sumL_length _
  | j + 2 =>
    rw [keyTo, List.length_append, sumL_length, keyTo_length A T (j + 1)]
    omega
def tailOf (A T : List UInt8) : Nat → List UInt8
  | 0 => T
  | j + 1 => keyTo A T (j + 1)
theorem keyTo_succ (A T : List UInt8) (j : Nat) : keyTo A T (j + 1) = keyTo A T j ++ sumL (A ++ tailOf A T j) := by
  cases j <;> rfl
theorem tailOf_le (A T : List UInt8) (j : Nat) : (tailOf A T j).length ≤ T.length + 32 * j := by
  cases j with
  | zero => simp [tailOf]
  | succ j => rw [tailOf, keyTo_length]; omega
/-- slices.Concat of two slices, handed over in a row made for it, its block by number. -/
theorem concat_q (B : Nat) (v0 v1 : Value) (xs ys : List UInt8) (hx : xs.length ≤ 400000000) (hy : ys.length ≤ 400000000) (w : World) (hB : w.heap.size = B) (h0 : BSl w v0 xs) (h1 : BSl w v1 ys) :
    Calls Tryd.prog 36 #[.slice (some ⟨B, 0, none⟩) 2 2] (w.alloc (.cells #[v0, v1] 22)) fun e w' => Fresh w (xs ++ ys) e w' := by
  subst hB
  exact concat_p v0 v1 xs ys hx hy w h0 h1
/-- A key of so many bytes. -/
def deriveL (k h : List UInt8) (letter : UInt8) (id : List UInt8) (n : Nat) : List UInt8 := (keyTo (mpBytes k ++ h) (letter :: id) ((n + 31) / 32)).take n
theorem deriveL_length (k h : List UInt8) (letter : UInt8) (id : List UInt8) (n : Nat) : (deriveL k h letter id n).length = n := by
  rw [deriveL, List.length_take, keyTo_length]
  omega

set_option maxHeartbeats 400000 in
theorem clip_c (ao : Option Addr) (n cap : Nat) (xs : List UInt8) (w : World) (hx : xs.length = n) (hv : BSl w (.slice ao n cap) xs) :
    Calls Tryd.prog 38 #[.slice ao n cap] w fun e w' => e = .returned (.slice ao n n) ∧ w' = w := by
  obtain ⟨ao', cap', e, hc1, hc2, _⟩ := hv
  cases e
  unfold maxLen at hc2
  go_enter Tryd.func38, Tryd.ntmps38
  go_wp2
  go_ret
  exact ⟨rfl, rfl⟩
theorem mp_le (k : List UInt8) : (mpBytes k).length ≤ k.length + 5 := by
  have h := bare_le k
  unfold mpBytes
  split
  · rw [be_length]; omega
  · rename_i x r he
    rw [he] at h
    simp at h
    split <;> simp [be_length] <;> omega
theorem BSl.capLe {w : World} {ao : Option Addr} {n cap : Nat} {xs : List UInt8} (h : BSl w (.slice ao n cap) xs) : n = xs.length ∧ xs.length ≤ cap ∧ cap ≤ maxLen := by
  obtain ⟨_, _, e, h1, h2, _⟩ := h
  injection e with e1 e2 e3
  subst e3
  exact ⟨e2, h1, h2⟩
theorem BSl.clip {w : World} {ao : Option Addr} {n cap : Nat} {xs : List UInt8} (h : BSl w (.slice ao n cap) xs) : BSl w (.slice ao n n) xs := by
  obtain ⟨_, _, e, h1, h2, h3, h4⟩ := h
  injection e with e1 e2 e3
  subst e1 e2 e3
  exact ⟨ao, xs.length, rfl, Nat.le_refl _, by omega, fun e => ⟨(h3 e).1, by rw [(h3 e).1]; rfl⟩, h4⟩
theorem BSl.nothing {w w' : World} {v : Value} (h : BSl w v []) : BSl w' v [] := by
  obtain ⟨ao, cap, e, h1, h2, h3, _⟩ := h
  exact ⟨ao, cap, e, h1, h2, h3, fun ad _ hne => absurd rfl hne⟩
set_option maxHeartbeats 800000 in
set_option maxRecDepth 100000 in
theorem mpint_n (v : Value) (xs : List UInt8) (hx : xs.length + 1 < 4294967296) (w : World) (hv : BSl w v xs) {base a : Nat} {g : Option Nat} {bs : List UInt8} (h : WS w base a g bs) (hap : xs ≠ [] → v.ownBlock ≠ some a ∧ ∀ k, g = some k → v.ownBlock ≠ some k) (hl : bs.length + xs.length + 16 ≤ 140737488355328) :
    Calls Tryd.prog 26 #[.pointer (some ⟨a, 0, none⟩), v] w fun e w' => e = .returned (.tuple #[]) ∧ ∃ g', WS w' base a g' (bs ++ mpBytes xs) ∧ Wrote a g g' w w' := by
  by_cases hne : xs = []
  · subst hne
    have HV := hidden hv
    have H := hidden h
    obtain ⟨ao, cap, rfl⟩ := hv.nil
    clear hv h hap
    go_enter Tryd.func26, Tryd.ntmps26
    go_wp2
    refine wp_loop_rounds 1 ?_
    rw [rounds_succ]
    go_wp2_with fail
    refine (u32_c _ (by omega) (by omega) _ H.out (by simp at hl; omega)).mono ?_
    rintro e w1 ⟨rfl, g1, hw1, hwr1⟩
    have HM : Hid (be 4 (Int.toNat 0) ++ [] = mpBytes []) := by unfold mpBytes; simp [bare, Hid]
    go_wp2_with fail
    refine (raw_c _ [] _ HV.out.nothing hw1 (by simp [be_length] at hl ⊢; omega)).mono ?_
    rintro e w2 ⟨rfl, g2, hw2, hwr2⟩
    go_wp2
    go_end0
    exact ⟨rfl, g2, by rw [List.append_assoc, HM.out] at hw2; exact hw2, hwr1.trans hwr2⟩
  · exact mpint_c v xs hx w hv h (hap hne) hl
/-- What Derive tells. -/
def DTold (w : World) (k h : List UInt8) (letter : UInt8) (id : List UInt8) (n : Int) (e : Ending) (w' : World) : Prop :=
  Below w.heap.size w w' ∧ ((0 ≤ n ∧ n ≤ 256 ∧ ∃ v, e = .returned (.tuple #[v, .int .i64 0]) ∧ BSl w' v (deriveL k h letter id n.toNat)) ∨ ((n < 0 ∨ 256 < n) ∧ e = .returned (.tuple #[.slice none 0 0, .int .i64 1])))

set_option maxHeartbeats 1600000 in
set_option maxRecDepth 100000 in
theorem Derive_c (v1 v2 v3 : Value) (k h id : List UInt8) (letter : UInt8) (n : Int) (hk : k.length ≤ 1000000) (hh : h.length ≤ 1000000) (hi : id.length ≤ 1000000) (w : World) (hr : Rw w) (h1 : BSl w v1 k) (h2 : BSl w v2 h) (h3 : BSl w v3 id) :
    Calls Tryd.prog 14 #[v1, v2, .int .u8 letter.toNat, v3, .int .i64 n] w fun e w' => DTold w k h letter id n e w' := by
  have HR := hidden hr
  have H1 := hidden h1
  have H2 := hidden h2
  have H3 := hidden h3
  obtain ⟨a1, c1, rfl⟩ := h1.len
  obtain ⟨a2, c2, rfl⟩ := h2.len
  obtain ⟨a3, c3, rfl⟩ := h3.len
  clear hr h1 h2 h3
  by_cases hn0 : n < 0
  · go_enter Tryd.func14, Tryd.ntmps14
    go_wp2
    go_ret2
    exact ⟨Below.refl _ _, .inr ⟨.inl hn0, rfl⟩⟩
  · by_cases hn1 : 256 < n
    · go_enter Tryd.func14, Tryd.ntmps14
      go_wp2
      go_ret2
      exact ⟨Below.refl _ _, .inr ⟨.inr hn1, rfl⟩⟩
    · obtain ⟨m, rfl⟩ : ∃ m : Nat, n = (m : Int) := ⟨n.toNat, by omega⟩
      have hm : m ≤ 256 := by omega
      have HD : Hid (deriveL k h letter id m = (keyTo (mpBytes k ++ h) (letter :: id) ((m + 31) / 32)).take m) := rfl
      have HML := hidden (mp_le k)
      go_enter Tryd.func14, Tryd.ntmps14
      go_wp2_with fail
      refine (newWriter_c w).mono ?_
      rintro e w1 ⟨rfl, rfl⟩
      have hw1 := WS.new w (Nat.le_refl w.heap.size)
      have hb1 : Below w.heap.size w (w.alloc (.cells #[.slice none 0 0] 66)) := (Below.refl _ w).alloc (by omega) _
      generalize w.alloc (.cells #[.slice none 0 0] 66) = w1 at hw1 hb1 ⊢
      have HW1 := hidden hw1
      have HB1 := hidden hb1
      have HAp : Hid (k ≠ [] → (Value.slice a1 k.length c1).ownBlock ≠ some w.heap.size ∧ ∀ q, (none : Option Nat) = some q → (Value.slice a1 k.length c1).ownBlock ≠ some q) := fun hne => by
        obtain ⟨b, o, cp, e, hl⟩ := H1.out.nonnil hne
        cases e
        exact ⟨fun e => by simp [Value.ownBlock] at e; omega, fun q e => by cases e⟩
      clear hw1 hb1
      go_wp2_with fail
      refine (mpint_n _ k (by omega) w1 (H1.out.fresh HB1.out) HW1.out HAp.out (by simp; omega)).mono ?_
      rintro e w2 ⟨rfl, g2, hw2, hwr2⟩
      rw [List.nil_append] at hw2
      have HW2 := hidden hw2
      have HB2 := hidden (HB1.out.trans (hwr2.below HW1.out))
      clear hw2 hwr2 HW1 HB1 HAp
      go_wp2_with fail
      refine (raw_c _ h w2 (H2.out.fresh HB2.out) HW2.out (by have := HML.out; omega)).mono ?_
      rintro e w3 ⟨rfl, g3, hw3, hwr3⟩
      have HW3 := hidden hw3
      have HB3 := hidden (HB2.out.trans (hwr3.below HW2.out))
      clear hw3 hwr3 HW2 HB2
      obtain ⟨A, hA⟩ : ∃ A, A = mpBytes k ++ h := ⟨_, rfl⟩
      have HAL : Hid (A.length ≤ 3000000) := by show _ ≤ _; rw [hA, List.length_append]; have := HML.out; omega
      rw [← hA] at HW3 HD
      clear hA HML
      go_wp2_with fail
      refine (done_c w3 HW3.out (by have := HAL.out; omega)).mono ?_
      rintro e w4 ⟨va, rfl, hoa, hb4⟩
      have HVA := hidden (BSl.ofRow hoa)
      obtain ⟨aa, ca, rfl⟩ := ownsRow_shape hoa
      have HB4 := hidden (HB3.out.trans (hb4.mono HB3.out.size))
      clear hoa hb4 HW3 HB3
      go_wp2_with fail
      have hbl := bsl_lit w4 [letter] (by simp)
      have hb5 : Below w4.heap.size w4 (w4.alloc (.cells (bcells [letter]).toArray 5)) := (Below.refl _ w4).alloc (by omega) _
      have HB5 := hidden (HB4.out.trans (hb5.mono HB4.out.size))
      refine (concat_q (w4.heap.size + 1) _ _ [letter] id (by simp) (by omega) (w4.alloc (.cells (bcells [letter]).toArray 5)) (by simp) hbl (H3.out.fresh HB5.out)).mono ?_
      rintro e w6 ⟨vt, rfl, hot, hb6⟩
      have HVT0 := BSl.ofRow hot
      rw [show [letter] ++ id = letter :: id from rfl] at HVT0
      have HVT := hidden HVT0
      have HB6 := hidden (HB5.out.trans (hb6.mono HB5.out.size))
      have HVA6 := hidden ((HVA.out.fresh hb5).fresh hb6)
      have HR6 := hidden (HR.out.fresh HB6.out)
      clear hot hb6 hb5 hbl HVT0 HVA HB4 HB5 H1 H2 H3 HR
      have HTL : Hid ((letter :: id).length ≤ 1000001) := by show _ ≤ _; simp; omega
      generalize letter :: id = T at HVT HD HTL
      have HAl := HAL.out
      have HTl := HTL.out
      go_wp2_with fail
      go_loopw [14, 15] (fun s t wr => ∃ j : Nat, j ≤ (m + 31) / 32 ∧ Own w6 wr s (keyTo A T j) ∧ BSl wr t (tailOf A T j)) (fun s _ _ => 320 - sliceLen s)
      case atStart => exact ⟨0, by omega, Own.nothing w6, HVT.out⟩
      case round =>
        clear HVT
        obtain ⟨j, hj, ho, ht⟩ := hrel
        have HO := hidden ho
        have HT := hidden ht
        obtain ⟨ak, ck, rfl⟩ := ho.shape
        obtain ⟨at', ct, rfl⟩ := ht.len
        have hkl := keyTo_length A T j
        rw [hkl] at HO ⊢
        have HKL := hidden hkl
        have HTLe := hidden (tailOf_le A T j)
        have HSu := hidden (keyTo_succ A T j)
        clear ho ht hkl
        by_cases hlt : 32 * j < m
        · have hlt' : ((32 * j : Nat) : Int) < (m : Int) := by omega
          have HVA7 := hidden (HVA6.out.fresh HO.out.b)
          go_wp2_with fail
          refine (concat_p _ _ A (tailOf A T j) (by omega) (by have := HTLe.out; omega) wr HVA7.out HT.out).mono ?_
          rintro e w7 ⟨vc, rfl, hoc, hb7⟩
          have HVC := hidden (BSl.ofRow hoc)
          have HO7 := hidden (HO.out.keep hb7)
          clear hoc hb7 HO HT HVA7
          go_wp2_with fail
          refine (Sum_c _ _ (by rw [List.length_append]; have := HTLe.out; omega) w7 (HR6.out.fresh HO7.out.b) HVC.out).mono ?_
          rintro e w8 ⟨vs, rfl, hos, hb8⟩
          have HVS := hidden (BSl.ofRow hos).src
          have HO8 := hidden (HO7.out.keep hb8)
          clear hos hb8 HO7 HVC
          have HSL := hidden (sumL_length (A ++ tailOf A T j))
          generalize sumL (A ++ tailOf A T j) = S at HVS HSu HSL
          generalize hKj : keyTo A T j = Kj at HO8 HSu HKL
          go_wp2_with (at_builtin; (refine wpList_own _ rfl (.tmp 40) (.tmp 45) 22 rfl w6 _ Kj rfl HO8.out _ S rfl HVS.out ?hl ?_))
          case hl => rw [HKL.out, HSL.out]; omega
          intro v9 w9 o9 _ _
          have O9 := hidden o9
          clear o9 HVS HO8
          go_wp2
          go_roundw
          case rel =>
            have h9 := O9.out
            rw [← HSu.out] at h9
            exact ⟨j + 1, by omega, h9, h9.bsl⟩
          case measure =>
            obtain ⟨a9, c9, e9⟩ := O9.out.shape
            rw [e9]
            have := HKL.out
            have := HSL.out
            simp only [sliceLen, List.length_append]
            omega
        · have hlt' : ¬ ((32 * j : Nat) : Int) < (m : Int) := by omega
          obtain rfl : j = (m + 31) / 32 := by omega
          have HV9 := hidden HO.out.bsl
          have HBB := hidden (HB6.out.trans (HO.out.b.mono HB6.out.size))
          have hcc : 32 * ((m + 31) / 32) ≤ ck := by have := HV9.out.capLe; rw [HKL.out] at this; exact this.2.1
          have hmm : m ≤ 32 * ((m + 31) / 32) := by omega
          have HTk : Hid (BSl wr (.slice ak m ck) (deriveL k h letter id m)) := by
            have h1 := HV9.out
            rw [← HKL.out] at h1
            have h2 := h1.head' (n := m) (by rw [HKL.out]; exact hmm)
            rw [HD.out]
            exact h2
          have hcm : (m : Int) ≤ (ck : Int) := by omega
          generalize 32 * ((m + 31) / 32) = q at *
          go_wp2_with fail
          refine (clip_c ak m ck _ wr (deriveL_length _ _ _ _ _) HTk.out).mono ?_
          rintro e w9 ⟨rfl, rfl⟩
          go_wp2
          go_ret2
          refine ⟨HBB.out, .inl ⟨by omega, by omega, _, rfl, ?_⟩⟩
          rw [Int.toNat_natCast]
          exact HTk.out.clip
end Go.Proofs.YtllkafhooapcbaaDoor
