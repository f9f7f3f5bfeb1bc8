/- The walk of ChansTake: data that comes is told, byte for byte; the window that it may use never ends. -/
import Derived.Test.YtnimdbjbkoggdaaCnX
namespace Go.Proofs.Ytnimdbjbkoggdaa
open Go Go.RowKit

def Fact.upto (n : Nat) : Fact := ⟨fun v _ => ∃ q : Nat, q ≤ n ∧ v = .int .i64 q, fun _ _ _ _ h => h⟩
def Fact.sized (B : Nat) (xs : List UInt8) (n : Nat) : Fact := ⟨fun v w => ∃ q : Nat, q ≤ n ∧ BSl w v (sizedL xs q) ∧ ∀ k, v.ownBlock = some k → B ≤ k, fun _ _ _ he ⟨q, h1, h2, h3⟩ => ⟨q, h1, h2.fresh he, h3⟩⟩
theorem valFrom_be (k : Nat) : ∀ (m n : Nat), valFrom m (be k n) = m * 256 ^ k + n % 256 ^ k := by
  induction k with
  | zero => intro m n; simp [be, valFrom, Nat.mod_one]
  | succ k ih =>
    intro m n
    rw [be, valFrom, ih]
    have h : (UInt8.ofNat (n / 256 ^ k % 256)).toNat = n / 256 ^ k % 256 := by simp
    rw [h, Nat.pow_succ, Nat.mod_mul, Nat.add_mul]
    have e : m * 256 * 256 ^ k = m * (256 ^ k * 256) := by rw [Nat.mul_assoc, Nat.mul_comm 256]
    rw [e, Nat.mul_comm (n / 256 ^ k % 256)]
    omega
theorem val_be (k n : Nat) (h : n < 256 ^ k) : val (be k n) = n := by
  unfold val
  rw [valFrom_be, Nat.mod_eq_of_lt h]
  simp
theorem tk_at (pre mid post : List UInt8) (n : Nat) (hn : n = mid.length) : tk (pre ++ (mid ++ post)) pre.length 0 n = (mid, pre.length + n, 0) := by
  subst hn
  unfold tk
  rw [if_pos rfl, if_neg (by simp)]
  simp
theorem tx_at (pre t post : List UInt8) (m : Nat) (h : t.length ≤ m) (hm : m ≤ 4000000000) : tx (pre ++ (textBytes t ++ post)) pre.length 0 m = (t, (pre ++ textBytes t).length, 0) := by
  have h4 : tk (pre ++ (textBytes t ++ post)) pre.length 0 4 = (be 4 t.length, pre.length + 4, 0) := by
    unfold textBytes
    rw [List.append_assoc]
    exact tk_at pre (be 4 t.length) (t ++ post) 4 (by simp [be_length])
  have hv : val (be 4 t.length) = t.length := val_be 4 _ (by omega)
  unfold tx
  rw [h4]
  simp only [hv]
  rw [if_neg (by simp; omega)]
  have h5 := tk_at (pre ++ be 4 t.length) t post t.length rfl
  have e1 : pre ++ be 4 t.length ++ (t ++ post) = pre ++ (textBytes t ++ post) := by simp [textBytes]
  have e2 : (pre ++ be 4 t.length).length = pre.length + 4 := by simp [be_length]
  rw [e1, e2] at h5
  rw [h5]
  simp [textBytes, be_length]
  omega
def tC (l : Nat) : Ch := ⟨true, false, false, 0, 0, 9, l, []⟩
def tS (l : Nat) : MS := ⟨[some (tC l), none, none, none], false⟩
def t0 : MS := ⟨[some (newC 0 0 9), none, none, none], false⟩
theorem take_open : doO newM (openP sesB 0 0 9) = (t0, [numL 91 [0, 0, 65536, 32768]], []) := by kernel_rfl
theorem take_sub : doO t0 kP2 = (tS 65536, [numL 99 [0]], [⟨1, 0, []⟩]) := by kernel_rfl
theorem t0_ok : OkM 0 t0 := by
  have := doO_ok (okM_new 0) (openP sesB 0 0 9)
  rw [take_open] at this
  exact this
theorem tS_ok (l : Nat) (hl : l ≤ 65536) : OkM 0 (tS l) := by
  refine ⟨rfl, fun i c e => ?_⟩
  match i, e with
  | 0, e => cases e; exact ⟨by show 0 ≤ _; omega, by show 0 ≤ _; omega, by show 1 ≤ 9; omega, by show 9 ≤ 32768; omega, hl, by show ([] : List UInt8).length ≤ 0; simp⟩
  | 1, e => cases e
  | 2, e => cases e
  | 3, e => cases e
  | (n + 4), e => cases e
def datP (b : List UInt8) : List UInt8 := [94] ++ numsL [0] ++ textBytes b
def nextL (l n : Nat) : Nat := if l - n < 32768 then 65536 else l - n
def ansL (l n : Nat) : List (List UInt8) := if l - n < 32768 then [numL 93 [0, 65536 - (l - n)]] else []
def evsL (b : List UInt8) : List Ev := if b = [] then [] else [⟨2, 0, b⟩]
theorem datP_len (b : List UInt8) : (datP b).length = 9 + b.length := by simp [datP, numsL_len, textBytes, be_length]; omega
theorem take_data (l : Nat) (b : List UInt8) (hb : b.length ≤ 32768) (hl : 32768 ≤ l) : doO (tS l) (datP b) = (tS (nextL l b.length), ansL l b.length, evsL b) := by
  have h1 : tk (datP b) 1 0 4 = ([0, 0, 0, 0], 5, 0) := by
    have := tk_at [94] [0, 0, 0, 0] (textBytes b) 4 rfl
    exact this
  have h2 : tx (datP b) 5 0 32768 = (b, (datP b).length, 0) := by
    have := tx_at ([94] ++ numsL [0]) b [] 32768 hb (by omega)
    rw [List.append_nil] at this
    exact this
  have e : datP b = 94 :: (numsL [0] ++ textBytes b) := by simp [datP]
  have hw : wholeB (datP b) (datP b).length 0 = true := by unfold wholeB ends; rw [if_pos rfl, if_neg (by omega)]; rfl
  have hc : chO 94 (tC l) 0 (datP b) 5 0 = some (some (tC (nextL l b.length)), ansL l b.length, evsL b) := by
    unfold chO
    rw [if_neg (by decide), if_pos rfl]
    unfold dataO
    rw [h2]
    dsimp only
    rw [if_pos ⟨hw, by show b.length ≤ l; omega, rfl⟩]
    unfold refillO used nextL ansL evsL tC
    dsimp only
    by_cases h3 : l - b.length < 32768
    · rw [if_pos h3, if_pos h3, if_pos h3]
      by_cases h4 : b = []
      · rw [if_pos h4, if_neg (by simp [h4])]
      · rw [if_neg h4, if_pos ⟨rfl, h4⟩]
    · rw [if_neg h3, if_neg h3, if_neg h3]
      by_cases h4 : b = []
      · rw [if_pos h4, if_neg (by simp [h4])]
      · rw [if_neg h4, if_pos ⟨rfl, h4⟩]
  have ht : takeO (tS l) 94 (datP b) 1 0 = some (tS (nextL l b.length), ansL l b.length, evsL b) := by
    unfold takeO
    rw [if_neg (by decide), if_neg (by decide), if_neg (by decide), h1]
    have hv : val [0, 0, 0, 0] = 0 := by kernel_rfl
    dsimp only
    rw [hv]
    show (match some (tC l) with | none => none | some c => putC (tS l) 0 (chO 94 c 0 (datP b) 5 0)) = _
    dsimp only
    rw [hc]
    rfl
  unfold doO
  rw [e] at ht ⊢
  dsimp only
  rw [if_neg (by intro h; cases h)]
  show (takeO (tS l) 94 _ 1 0).getD _ = _
  rw [ht]
  rfl
theorem Lst.one2 {B : Nat} {w : World} {v : Value} {x : List UInt8} (h : Lst B w v [x]) : ∃ g cap u, v = .slice (some ⟨g, 0, none⟩) 1 cap ∧ w.cell? ⟨g, 0, none⟩ = some u ∧ BSl w u x ∧ B ≤ g ∧ ∀ k, u.ownBlock = some k → k < w.heap.size := by
  obtain ⟨vs, h1, h2, h3⟩ := h
  obtain ⟨h4, h5⟩ := h3 0 (by simp)
  rcases id h2.2 with ⟨_, e⟩ | ⟨g, cap, cur, rfl, k1, k2, k3, k4, k5, k6⟩
  · simp at e
  · refine ⟨g, cap, vs.getD 0 undef, rfl, ?_, h4, k1, fun k e => (h5 k e).2.1⟩
    have hc := h2.cells (g := g) rfl 0 (vs.getD 0 undef) (by simp [List.getElem?_eq_getElem (show 0 < vs.length by rw [h1]; simp)])
    rw [add_lit'] at hc
    exact hc
/-- What the law reads of a payload that makes the window wider. -/
theorem more_read (n : Nat) (hn : n ≤ 4294967295) : tk (numL 93 [0, n]) 0 0 1 = ([93], 1, 0) ∧ tk (numL 93 [0, n]) 1 0 4 = ([0, 0, 0, 0], 5, 0) ∧ tk (numL 93 [0, n]) 5 0 4 = (be 4 n, 9, 0) ∧ val (be 4 n) = n ∧ (ends (numL 93 [0, n]) 9 0).1 = 0 := by
  refine ⟨tk_at [] [93] (numsL [0, n]) 1 rfl, tk_at [93] [0, 0, 0, 0] (be 4 n ++ []) 4 rfl, ?_, val_be 4 n (by omega), ?_⟩
  · have := tk_at [93, 0, 0, 0, 0] (be 4 n) [] 4 (by rw [be_length])
    exact this
  · unfold ends
    rw [if_pos rfl, if_neg (by rw [numL_len]; simp)]

end Go.Proofs.Ytnimdbjbkoggdaa
