/- kex: what both sides have of one another. -/
import Derived.Test.YtookapglookphaaDoorXeB
import Derived.Test.YtookapglookphaaDoorKxG
namespace Go.Proofs.YtookapglookphaaDoor
open Go Go.RowKit

theorem text_drop (xs : List UInt8) : (textBytes xs).drop 4 = xs := by
  unfold textBytes
  rw [List.drop_append_of_le_length (by rw [be_length]; omega), List.drop_of_length_le (by rw [be_length]; omega), List.nil_append]
theorem text_val {xs : List UInt8} (h : xs.length = 32) : val ((textBytes xs).take 4) = 32 := by
  unfold textBytes
  rw [List.take_append_of_le_length (by rw [be_length]; omega), List.take_of_length_le (by rw [be_length]; omega), h]
  decide +kernel
theorem join_len {px : Nat → List UInt8} (h : ∀ i, (px i).length = 32) (n : Nat) : (joinTo px n).length = 36 * n := by
  induction n with
  | zero => rfl
  | succ n ih => rw [joinTo, List.length_append, ih, text_len, h]; omega
theorem join_part {px : Nat → List UInt8} (h : ∀ i, (px i).length = 32) : ∀ {n j : Nat}, j < n → ((joinTo px n).drop (36 * j)).take 36 = textBytes (px j)
  | 0, j, hj => absurd hj (by omega)
  | n + 1, j, hj => by
    have hl := join_len h n
    have ht : (textBytes (px n)).length = 36 := by rw [text_len, h]
    rw [joinTo]
    by_cases e : j = n
    · subst e
      rw [List.drop_append_of_le_length (by omega), List.drop_of_length_le (by omega), List.nil_append, List.take_of_length_le (by omega)]
    · rw [List.drop_append_of_le_length (by omega), List.take_append_of_le_length (by rw [List.length_drop]; omega)]
      exact join_part h (by omega)
theorem drop_succ_cons' (x : UInt8) (l : List UInt8) (a b : Nat) (h : a = b + 1) : (x :: l).drop a = l.drop b := by subst h; rfl
theorem pay_wf {px : Nat → List UInt8} (h : ∀ i, (px i).length = 32) (kind n : Nat) (hk : kind ≤ 255) : Wf kind n (payL kind px n) := by
  have hl := join_len h n
  refine ⟨by rw [payL, List.length_cons, hl]; omega, ?_, fun i hi => ?_⟩
  · rw [payL]
    simp [val, valFrom]
    omega
  · rw [payL, drop_succ_cons' _ _ (1 + 36 * i) (36 * i) (by omega)]
    have := join_part h hi
    have h2 : ((joinTo px n).drop (36 * i)).take 4 = (textBytes (px i)).take 4 := by
      rw [← this, List.take_take]
      rfl
    rw [h2]
    exact text_val (h i)
theorem pay_part {px : Nat → List UInt8} (h : ∀ i, (px i).length = 32) (kind n : Nat) {j : Nat} (hj : j < n) : part (payL kind px n) j = px j := by
  unfold part
  rw [payL, drop_succ_cons' _ _ (5 + 36 * j) (36 * j + 4) (by omega)]
  rw [← List.drop_drop]
  have := join_part h hj
  have h2 : (((joinTo px n).drop (36 * j)).drop 4).take 32 = (((joinTo px n).drop (36 * j)).take 36).drop 4 := by
    rw [List.drop_take]
  rw [h2, this, text_drop]
theorem px3_32 {a b c : List UInt8} (ha : a.length = 32) (hb : b.length = 32) (hc : c.length = 32) (i : Nat) : (px3 a b c i).length = 32 := by
  match i with
  | 0 => exact ha
  | 1 => exact hb
  | _ + 2 => exact hc
theorem rep_32 (p k h : List UInt8) (i : Nat) : (px3 (sumL p) (baseL k) (macL p h) i).length = 32 := px3_32 (sumL_length _) (baseL_length _) (macL_length _ _) i

/-- What the client begins with. -/
theorem ini_ok {kc : List UInt8} (hc : kc.length = 32) : iniO kc = (0, payL 30 (fun _ => baseL kc) 1) := by rw [iniO, if_pos hc]
theorem ini_wf (kc : List UInt8) : wfB 30 1 (payL 30 (fun _ => baseL kc) 1) = true := (wfB_iff _ _ _).2 (pay_wf (fun _ => baseL_length kc) 30 1 (by omega))
theorem ini_part (kc : List UInt8) : part (payL 30 (fun _ => baseL kc) 1) 0 = baseL kc := pay_part (fun _ => baseL_length kc) 30 1 (by omega)
/-- The secret of two keys, and their hash. -/
def secK (kc ks : List UInt8) : List UInt8 := bare (mulL ks (baseL kc))
def secH (kc ks p : List UInt8) (s0 s1 : ByteArray) (i1 i2 : List UInt8) : List UInt8 := hashK s0 s1 i1 i2 p (baseL kc) (baseL ks) (secK kc ks)
theorem srv_ok {kc ks : List UInt8} (hs : ks.length = 32) (p : List UInt8) (s0 s1 : ByteArray) (i1 i2 : List UInt8) (hK : secK kc ks ≠ []) :
    srvO ks p s0 s1 i1 i2 (payL 30 (fun _ => baseL kc) 1) = (0, repL p (baseL ks) (secH kc ks p s0 s1 i1 i2), secK kc ks, secH kc ks p s0 s1 i1 i2) := by
  rw [srvO, if_pos hs, if_pos (ini_wf kc), ini_part]
  exact if_neg hK
theorem srv_none {kc ks : List UInt8} (hs : ks.length = 32) (p : List UInt8) (s0 s1 : ByteArray) (i1 i2 : List UInt8) (hK : secK kc ks = []) :
    srvO ks p s0 s1 i1 i2 (payL 30 (fun _ => baseL kc) 1) = (22, [], [], []) := by
  rw [srvO, if_pos hs, if_pos (ini_wf kc), ini_part]
  exact if_pos hK
theorem rep_wf (p k h : List UInt8) : wfB 31 3 (repL p (baseL k) h) = true := (wfB_iff _ _ _).2 (pay_wf (rep_32 p k h) 31 3 (by omega))
theorem rep_part (p k h : List UInt8) : part (repL p (baseL k) h) 0 = sumL p ∧ part (repL p (baseL k) h) 1 = baseL k ∧ part (repL p (baseL k) h) 2 = macL p h :=
  ⟨pay_part (rep_32 p k h) 31 3 (j := 0) (by omega), pay_part (rep_32 p k h) 31 3 (j := 1) (by omega), pay_part (rep_32 p k h) 31 3 (j := 2) (by omega)⟩
theorem cli_ok {kc ks : List UInt8} (hc : kc.length = 32) (hs : ks.length = 32) (p : List UInt8) (s0 s1 : ByteArray) (i1 i2 : List UInt8) (hK : secK kc ks ≠ []) :
    cliO kc p s0 s1 i1 i2 (repL p (baseL ks) (secH kc ks p s0 s1 i1 i2)) = (0, secK kc ks, secH kc ks p s0 s1 i1 i2) := by
  obtain ⟨h0, h1, h2⟩ := rep_part p ks (secH kc ks p s0 s1 i1 i2)
  have hm : bare (mulL kc (baseL ks)) = secK kc ks := by rw [secK, baseL, baseL, mul_both kc ks hc hs]
  rw [cliO, if_pos hc, if_pos (rep_wf _ _ _), h0, if_pos rfl, h1, hm, if_neg hK, h2]
  exact if_pos rfl
theorem cli_other {kc ks : List UInt8} (hc : kc.length = 32) (p q : List UInt8) (s0 s1 : ByteArray) (i1 i2 h : List UInt8) (hpq : sumL p ≠ sumL q) :
    cliO kc q s0 s1 i1 i2 (repL p (baseL ks) h) = (24, [], []) := by
  obtain ⟨h0, _, _⟩ := rep_part p ks h
  rw [cliO, if_pos hc, if_pos (rep_wf _ _ _), h0, if_neg hpq]
end Go.Proofs.YtookapglookphaaDoor
