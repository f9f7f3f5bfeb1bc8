/- What is read of a password's payload, and what a Gate does with it. -/
import Derived.Test.YtpildjijaigmfaaAuM
namespace Go.Proofs.Ytpildjijaigmfaa
open Go Go.RowKit

theorem valFrom_be (k : Nat) : ∀ (m n : Nat), valFrom m (be k n) = m * 256 ^ k + n % 256 ^ k := by
  induction k with
  | zero => intro m n; simp [be, valFrom, Nat.mod_one]
  | succ k ih =>
    intro m n
    rw [be, valFrom, ih]
    have h : (UInt8.ofNat (n / 256 ^ k % 256)).toNat = n / 256 ^ k % 256 := by simp
    rw [h, Nat.pow_succ, Nat.mod_mul, Nat.add_mul]
    have e : m * 256 * 256 ^ k = m * (256 ^ k * 256) := by rw [Nat.mul_assoc, Nat.mul_comm 256]
    rw [e, Nat.mul_comm (n / 256 ^ k % 256)]
    omega
theorem val_be (k n : Nat) (h : n < 256 ^ k) : val (be k n) = n := by
  unfold val
  rw [valFrom_be, Nat.mod_eq_of_lt h]
  simp

theorem tk_at (pre mid post : List UInt8) (n : Nat) (hn : n = mid.length) : tk (pre ++ (mid ++ post)) pre.length 0 n = (mid, pre.length + n, 0) := by
  subst hn
  unfold tk
  rw [if_pos rfl, if_neg (by simp)]
  simp
theorem tx_at (pre t post : List UInt8) (h : t.length ≤ 64) : tx (pre ++ (textBytes t ++ post)) pre.length 0 64 = (t, (pre ++ textBytes t).length, 0) := by
  have h4 : tk (pre ++ (textBytes t ++ post)) pre.length 0 4 = (be 4 t.length, pre.length + 4, 0) := by
    unfold textBytes
    rw [List.append_assoc]
    exact tk_at pre (be 4 t.length) (t ++ post) 4 (by simp [be_length])
  have hv : val (be 4 t.length) = t.length := val_be 4 _ (by omega)
  unfold tx
  rw [h4]
  simp only [hv]
  rw [if_neg (by simp; omega)]
  have h5 := tk_at (pre ++ be 4 t.length) t post t.length rfl
  have e1 : pre ++ be 4 t.length ++ (t ++ post) = pre ++ (textBytes t ++ post) := by simp [textBytes]
  have e2 : (pre ++ be 4 t.length).length = pre.length + 4 := by simp [be_length]
  rw [e1, e2] at h5
  rw [h5]
  simp [textBytes, be_length]
  omega

theorem strB_self (s : ByteArray) : strB s.data.toList = s := by simp [strB]
theorem pass_read (p : List UInt8) (h : p.length ≤ 64) : passOf ([0] ++ textBytes p) = (p, true) := by
  have h1 : tk ([0] ++ textBytes p) 0 0 1 = ([0], 1, 0) := tk_at [] [0] (textBytes p) 1 rfl
  have h2 : tx ([0] ++ textBytes p) 1 0 64 = (p, ([0] ++ textBytes p).length, 0) := by
    have := tx_at [0] p [] h
    rw [List.append_nil] at this
    exact this
  unfold passOf
  rw [h1]
  simp only [h2]
  unfold wholeB ends
  rw [if_pos rfl, if_neg (by omega)]
  rfl

/-- The payload of a password, as it is made. -/
def pwL (u p : ByteArray) : List UInt8 := [50] ++ textBytes u.data.toList ++ textBytes connB.data.toList ++ textBytes passB.data.toList ++ [bit false] ++ textBytes p.data.toList
theorem sl (s : ByteArray) : s.data.toList.length = s.size := by rw [Array.length_toList]; rfl
theorem pw_read (u p : ByteArray) (hu : u.size ≤ 64) :
    (tx (pwL u p) 1 0 64).1 = u.data.toList ∧ (tx2 (pwL u p) 1 0).1 = connB.data.toList ∧ (tx3 (pwL u p) 1 0).1 = passB.data.toList ∧ (tx3 (pwL u p) 1 0).2.2 = 0 ∧ restOf (pwL u p) 1 0 = [0] ++ textBytes p.data.toList := by
  obtain ⟨R, hR⟩ : ∃ R, R = [0] ++ textBytes p.data.toList := ⟨_, rfl⟩
  have e1 : pwL u p = [50] ++ (textBytes u.data.toList ++ (textBytes connB.data.toList ++ (textBytes passB.data.toList ++ R))) := by rw [hR]; simp [pwL, bit]
  have e2 : pwL u p = ([50] ++ textBytes u.data.toList) ++ (textBytes connB.data.toList ++ (textBytes passB.data.toList ++ R)) := by rw [e1]; simp
  have e3 : pwL u p = ([50] ++ textBytes u.data.toList ++ textBytes connB.data.toList) ++ (textBytes passB.data.toList ++ R) := by rw [e1]; simp
  have e4 : pwL u p = ([50] ++ textBytes u.data.toList ++ textBytes connB.data.toList ++ textBytes passB.data.toList) ++ R := by rw [e1]; simp
  have h1 : tx (pwL u p) 1 0 64 = (u.data.toList, ([50] ++ textBytes u.data.toList).length, 0) := by
    rw [e1]
    exact tx_at [50] _ _ (by rw [sl]; exact hu)
  have h2 : tx2 (pwL u p) 1 0 = (connB.data.toList, ([50] ++ textBytes u.data.toList ++ textBytes connB.data.toList).length, 0) := by
    unfold tx2
    rw [h1]
    dsimp only
    rw [e2]
    exact tx_at _ _ _ (by rw [sl, connZ]; omega)
  have h3 : tx3 (pwL u p) 1 0 = (passB.data.toList, ([50] ++ textBytes u.data.toList ++ textBytes connB.data.toList ++ textBytes passB.data.toList).length, 0) := by
    unfold tx3
    rw [h2]
    dsimp only
    rw [e3]
    exact tx_at _ _ _ (by rw [sl, passZ]; omega)
  refine ⟨by rw [h1], by rw [h2], by rw [h3], by rw [h3], ?_⟩
  unfold restOf
  rw [h3, if_pos rfl]
  dsimp only
  rw [e4, hR]
  simp

theorem pw_do (U : List Usr) (s : GS) (u p : ByteArray) (hu : u.size ≤ 64) (hp : p.size ≤ 64) :
    doO U s (pwL u p) = if s.gone = true then (s, []) else if s.st = 0 then endO s 2 else if s.st = 1 then (if knowsB U u p = true then (⟨2, u, s.tr, s.gone⟩, [[52]]) else tryO s) else (s, []) := by
  obtain ⟨h1, h2, h3, h4, h5⟩ := pw_read u p hu
  obtain ⟨r, hr⟩ : ∃ r, pwL u p = 50 :: r := ⟨_, rfl⟩
  unfold doO
  rw [hr]
  dsimp only
  rw [← hr]
  by_cases hg : s.gone = true
  · rw [if_pos hg, if_pos hg]
  · rw [if_neg hg, if_neg hg, if_neg (by decide), if_neg (by decide)]
    unfold stepO
    by_cases h0 : s.st = 0
    · rw [if_pos h0, if_pos h0, if_neg (by decide)]
    · rw [if_neg h0, if_neg h0]
      by_cases h9 : s.st = 1
      · rw [if_pos h9, if_pos h9, if_pos (by decide)]
        unfold loginO logO
        rw [h4, if_pos rfl, h1, h2, h3, h5, strB_self, strB_self, strB_self, if_pos rfl, if_pos rfl, pass_read _ (by rw [sl]; exact hp), if_pos rfl, strB_self]
      · rw [if_neg h9, if_neg h9, if_pos (by decide)]
        unfold lateO
        rw [h4, if_pos rfl]

theorem ex64 (s : ByteArray) : (s.extract 0 64).size ≤ 64 := by simp; omega
theorem ex_66 (s : ByteArray) (h : s.size ≤ 64) : s.extract 0 66 = s := by
  apply ByteArray.ext
  simp [ByteArray.data_extract]
  exact .inr (by have : s.data.size = s.size := rfl; omega)
theorem pay_pw (u p nm : ByteArray) (bs : List UInt8) (hu : u.size ≤ 64) (hp : p.size ≤ 64) : payL 2 0 u p nm bs = pwL u p := by
  unfold payL pwL
  rw [if_neg (by decide), if_pos rfl, ex_66 u hu, ex_66 p hp]
  rfl
theorem only1 (U : List Usr) : doO U newG k1L = (outG, [[6, 0, 0, 0, 12, 115, 115, 104, 45, 117, 115, 101, 114, 97, 117, 116, 104]]) := by kernel_rfl

end Go.Proofs.Ytpildjijaigmfaa
