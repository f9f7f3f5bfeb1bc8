/- ChansFlows in plain words: what goes, in pieces, and what waits. -/
import Derived.Test.YtnimdbjbkoggdaaCnYh
namespace Go.Proofs.Ytnimdbjbkoggdaa
open Go Go.RowKit

def fC (win most : Nat) (wt : List UInt8) : Ch := ⟨false, false, false, 5, win, most, 65536, wt⟩
def fS (win most : Nat) (wt : List UInt8) : MS := ⟨[some (fC win most wt), none, none, none], false⟩
theorem fS_ok (L win most : Nat) (wt : List UInt8) (hl : wt.length ≤ L) (hw : win ≤ 4294967295) (h1 : 1 ≤ most) (h2 : most ≤ 32768) : OkM L (fS win most wt) := by
  refine ⟨rfl, fun i c e => ?_⟩
  match i, e with
  | 0, e => cases e; exact ⟨by show 5 ≤ _; omega, hw, h1, h2, by show 65536 ≤ 65536; omega, hl⟩
  | 1, e => cases e
  | 2, e => cases e
  | 3, e => cases e
  | (n + 4), e => cases e
def chunks (c : Ch) (n : Nat) : List (List UInt8) := (List.range n).map (pieceAt c)
theorem pieces_chunks (c : Ch) (n : Nat) : pieces c n = (chunks c n).map (datL c.th) := by simp [pieces, chunks]
theorem chunks_flat (c : Ch) : ∀ n, (chunks c n).flatten = c.wt.take (min (kOf c) (n * c.wm)) := by
  intro n
  induction n with
  | zero => simp [chunks]
  | succ n ih =>
    have e : chunks c (n + 1) = chunks c n ++ [pieceAt c n] := by simp [chunks, List.range_succ]
    rw [e, List.flatten_append, ih]
    simp only [List.flatten_cons, List.flatten_nil, List.append_nil]
    unfold pieceAt
    have e2 : (n + 1) * c.wm = n * c.wm + c.wm := by rw [Nat.add_mul, Nat.one_mul]
    rw [e2]
    generalize n * c.wm = a
    by_cases h : a ≤ kOf c
    · rw [Nat.min_eq_right h, ← List.take_add]
      congr 1
      omega
    · have m1 : min (kOf c) a = kOf c := by omega
      have m2 : min (kOf c) (a + c.wm) = kOf c := by omega
      have m3 : min (kOf c - a) c.wm = 0 := by omega
      rw [m1, m2, m3]
      simp
theorem nOf_enough (c : Ch) (h : 1 ≤ c.wm) : kOf c ≤ nOf c * c.wm := by
  unfold nOf
  have h1 := Nat.div_add_mod (kOf c + c.wm - 1) c.wm
  have h2 := Nat.mod_lt (kOf c + c.wm - 1) (show 0 < c.wm by omega)
  rw [Nat.mul_comm] at h1
  omega
theorem nOf_least (c : Ch) (h : 1 ≤ c.wm) (i : Nat) (hi : i < nOf c) : i * c.wm < kOf c := by
  unfold nOf at hi
  have h1 : (i + 1) * c.wm ≤ kOf c + c.wm - 1 := (Nat.le_div_iff_mul_le (by omega)).1 hi
  rw [Nat.add_mul, Nat.one_mul] at h1
  omega
/-- The pieces qs are none too large and none empty, and together they are xs. -/
def Fl (qs : List (List UInt8)) (most : Nat) (xs : List UInt8) : Prop := qs.flatten = xs ∧ ∀ q ∈ qs, 0 < q.length ∧ q.length ≤ most
theorem Fl.app {qs rs : List (List UInt8)} {most : Nat} {xs ys : List UInt8} (h : Fl qs most xs) (k : Fl rs most ys) : Fl (qs ++ rs) most (xs ++ ys) := by
  refine ⟨by rw [List.flatten_append, h.1, k.1], fun q hq => ?_⟩
  rw [List.mem_append] at hq
  exact hq.elim (h.2 q) (k.2 q)
theorem Fl.count {qs : List (List UInt8)} {most : Nat} {xs : List UInt8} (h : Fl qs most xs) : qs.length ≤ xs.length := by
  obtain ⟨rfl, h2⟩ := h
  induction qs with
  | nil => simp
  | cons q r ih =>
    have h3 := (h2 q (by simp)).1
    have h4 := ih (fun x hx => h2 x (by simp [hx]))
    simp only [List.length_cons, List.flatten_cons, List.length_append]
    omega
theorem chunks_fl (c : Ch) (h : 1 ≤ c.wm) : Fl (chunks c (nOf c)) c.wm (c.wt.take (kOf c)) := by
  refine ⟨by rw [chunks_flat, Nat.min_eq_left (nOf_enough c h)], fun q hq => ?_⟩
  unfold chunks at hq
  rw [List.mem_map] at hq
  obtain ⟨i, hi, rfl⟩ := hq
  have h1 := nOf_least c h i (List.mem_range.1 hi)
  have h2 : kOf c ≤ c.wt.length := by unfold kOf; omega
  unfold pieceAt
  rw [List.length_take, List.length_drop]
  omega
theorem take_flow_open (win most : Nat) (hw : win ≤ 500) (h1 : 1 ≤ most) (h2 : most ≤ 100) : doO newM (openP sesB 5 win most) = (fS win most [], [numL 91 [5, 0, 65536, 32768]], []) := by
  have e0 : openP sesB 5 win most = [90] ++ (textBytes sesB.data.toList ++ (be 4 5 ++ (be 4 win ++ (be 4 most ++ [])))) := by simp [openP, numsL]
  have hx : tx (openP sesB 5 win most) 1 0 64 = (sesB.data.toList, 12, 0) := by
    rw [e0]
    exact tx_at [90] sesB.data.toList _ 64 (by decide) (by omega)
  have ha : opA (openP sesB 5 win most) 1 0 = (be 4 5, 16, 0) := by
    unfold opA
    rw [hx, e0]
    have := tk_at ([90] ++ textBytes sesB.data.toList) (be 4 5) (be 4 win ++ (be 4 most ++ [])) 4 (by simp [be_length])
    rw [List.append_assoc] at this
    exact this
  have hb : opB (openP sesB 5 win most) 1 0 = (be 4 win, 20, 0) := by
    unfold opB
    rw [ha, e0]
    have := tk_at ([90] ++ (textBytes sesB.data.toList ++ be 4 5)) (be 4 win) (be 4 most ++ []) 4 (by simp [be_length])
    rw [List.append_assoc, List.append_assoc] at this
    exact this
  have hc : opC (openP sesB 5 win most) 1 0 = (be 4 most, 24, 0) := by
    unfold opC
    rw [hb, e0]
    have := tk_at ([90] ++ (textBytes sesB.data.toList ++ (be 4 5 ++ be 4 win))) (be 4 most) [] 4 (by simp [be_length])
    have hl : ([90] ++ (textBytes sesB.data.toList ++ (be 4 5 ++ be 4 win))).length = 20 := by simp [be_length, textBytes, sesB]
    rw [hl] at this
    rw [List.append_assoc, List.append_assoc, List.append_assoc] at this
    exact this
  have ho : openO newM (openP sesB 5 win most) 1 0 = some (fS win most [], [numL 91 [5, 0, 65536, 32768]], []) := by
    unfold openO
    rw [hc, hb, ha, hx]
    rw [if_pos rfl, val_be 4 5 (by omega), val_be 4 win (by omega), val_be 4 most (by omega)]
    unfold openQ
    rw [if_pos (by rfl), if_pos ⟨by decide, by omega⟩]
    show some ((⟨[some (newC 5 win most), none, none, none], false⟩ : MS), [numL 91 [5, 0, 65536, 32768]], []) = _
    have : newC 5 win most = fC win most [] := by unfold newC fC; rw [Nat.min_eq_left (by omega)]
    rw [this]
    rfl
  have e1 : openP sesB 5 win most = 90 :: (textBytes sesB.data.toList ++ (be 4 5 ++ (be 4 win ++ (be 4 most ++ [])))) := e0
  unfold doO
  rw [e1] at ho ⊢
  dsimp only
  rw [if_neg (by intro h; cases h)]
  show (takeO newM 90 _ 1 0).getD _ = _
  unfold takeO
  rw [if_neg (by decide), if_neg (by decide), if_pos rfl, ho]
  rfl
/-- What Send does. -/
theorem send_flow (win most : Nat) (wt b : List UInt8) (h : 1 ≤ most) : ∃ qs, sendO (fS win most wt) 0 b = (fS (win - min (wt ++ b).length win) most ((wt ++ b).drop (min (wt ++ b).length win)), qs.map (datL 5), 0) ∧ Fl qs most ((wt ++ b).take (min (wt ++ b).length win)) := by
  have hm : mayO (fS win most wt) 0 = (0, some (fC win most wt)) := rfl
  refine ⟨chunks (longer (fC win most wt) b) (nOf (longer (fC win most wt) b)), ?_, chunks_fl (longer (fC win most wt) b) h⟩
  unfold sendO
  rw [hm]
  dsimp only
  rw [pieces_chunks]
  rfl
def mP (n : Nat) : List UInt8 := [93] ++ numsL [0, n]
theorem mP_len (n : Nat) : (mP n).length = 9 := by simp [mP, numsL_len]
/-- What more window does. -/
theorem more_flow (win most : Nat) (wt : List UInt8) (n : Nat) (h : 1 ≤ most) (hw : win + n ≤ 4294967295) : ∃ qs, doO (fS win most wt) (mP n) = (fS (win + n - min wt.length (win + n)) most (wt.drop (min wt.length (win + n))), qs.map (datL 5), []) ∧ Fl qs most (wt.take (min wt.length (win + n))) := by
  refine ⟨chunks (wider (fC win most wt) n) (nOf (wider (fC win most wt) n)), ?_, chunks_fl (wider (fC win most wt) n) h⟩
  have h1 : tk (mP n) 1 0 4 = ([0, 0, 0, 0], 5, 0) := tk_at [93] [0, 0, 0, 0] (be 4 n ++ []) 4 rfl
  have h2 : tk (mP n) 5 0 4 = (be 4 n, 9, 0) := by
    have := tk_at [93, 0, 0, 0, 0] (be 4 n) [] 4 (by simp [be_length])
    exact this
  have hv2 : val (be 4 n) = n := val_be 4 n (by omega)
  have hw2 : wholeB (mP n) 9 0 = true := by
    unfold wholeB ends
    rw [if_pos rfl, if_neg (by rw [mP_len]; omega)]
    rfl
  have hc : chO 93 (fC win most wt) 0 (mP n) 5 0 = some (some (behind (wider (fC win most wt) n)), pieces (wider (fC win most wt) n) (nOf (wider (fC win most wt) n)), []) := by
    unfold chO
    rw [if_pos rfl]
    unfold moreO
    rw [h2]
    dsimp only
    rw [hv2, if_pos ⟨hw2, hw⟩]
  have ht : takeO (fS win most wt) 93 (mP n) 1 0 = some (⟨[some (behind (wider (fC win most wt) n)), none, none, none], false⟩, pieces (wider (fC win most wt) n) (nOf (wider (fC win most wt) n)), []) := by
    unfold takeO
    rw [if_neg (by decide), if_neg (by decide), if_neg (by decide), h1]
    have hv : val [0, 0, 0, 0] = 0 := by kernel_rfl
    dsimp only
    rw [hv]
    show (match some (fC win most wt) with | none => none | some c => putC (fS win most wt) 0 (chO 93 c 0 (mP n) 5 0)) = _
    dsimp only
    rw [hc]
    rfl
  have e : mP n = 93 :: numsL [0, n] := rfl
  unfold doO
  rw [e] at ht ⊢
  dsimp only
  rw [if_neg (by intro h; cases h)]
  show (takeO (fS win most wt) 93 _ 1 0).getD _ = _
  rw [ht, pieces_chunks]
  rfl
/-- What the law reads of a payload that came out. -/
theorem dat_read (q : List UInt8) (most : Nat) (h : q.length ≤ most) (hm : most ≤ 4000000000) : tk (datL 5 q) 0 0 1 = ([94], 1, 0) ∧ tk (datL 5 q) 1 0 4 = ([0, 0, 0, 5], 5, 0) ∧ tx (datL 5 q) 5 0 most = (q, (datL 5 q).length, 0) ∧ (ends (datL 5 q) (datL 5 q).length 0).1 = 0 := by
  refine ⟨tk_at [] [94] ([0, 0, 0, 5] ++ textBytes q) 1 rfl, tk_at [94] [0, 0, 0, 5] (textBytes q) 4 rfl, ?_, ?_⟩
  · have := tx_at [94, 0, 0, 0, 5] q [] most h hm
    rw [List.append_nil] at this
    exact this
  · unfold ends
    rw [if_pos rfl, if_neg (by omega)]
theorem datL_len (th : Nat) (q : List UInt8) : (datL th q).length = 9 + q.length := by simp [datL, numL_len, textBytes, be_length]; omega
/-- The rows qs, the first k of which were taken: what was taken, and the next one. -/
theorem flat_next (qs : List (List UInt8)) (k : Nat) (hk : k < qs.length) : (qs.take (k + 1)).flatten = (qs.take k).flatten ++ qs[k] := by
  rw [List.take_succ_eq_append_getElem hk, List.flatten_append]
  simp
theorem flat_le (qs : List (List UInt8)) (k : Nat) : (qs.take k).flatten.length ≤ qs.flatten.length := by
  have : qs.flatten = (qs.take k).flatten ++ (qs.drop k).flatten := by rw [← List.flatten_append, List.take_append_drop]
  rw [this, List.length_append]
  omega
theorem flow_step (X : List UInt8) (wl : Nat) : X = X.take (min X.length wl) ++ X.drop (min X.length wl) ∧ wl = (wl - min X.length wl) + (X.take (min X.length wl)).length ∧ (0 < wl - min X.length wl → X.drop (min X.length wl) = []) := by
  refine ⟨(List.take_append_drop _ _).symm, by rw [List.length_take]; omega, fun h => ?_⟩
  rw [List.drop_eq_nil_iff]
  omega
/-- Where one stands behind Send, and behind more window: what went (Y, in pieces qs), what waits (V), and what may still go. -/
structure Step (most : Nat) (X Y V : List UInt8) (L wl : Nat) (qs : List (List UInt8)) : Prop where
  fl : Fl qs most Y
  all : X = Y ++ V
  left : L = wl + Y.length
  none : 0 < wl → V = []
theorem step_send {most wl : Nat} {X : List UInt8} {qs : List (List UInt8)} (h : Fl qs most (X.take (min X.length wl))) : Step most X (X.take (min X.length wl)) (X.drop (min X.length wl)) wl (wl - min X.length wl) qs :=
  ⟨h, (flow_step X wl).1, (flow_step X wl).2.1, (flow_step X wl).2.2⟩
theorem step_more {most L wl n : Nat} {X Y V : List UInt8} {qs rs : List (List UInt8)} (h : Step most X Y V L wl qs) (k : Fl rs most (V.take (min V.length (wl + n)))) : Step most X (Y ++ V.take (min V.length (wl + n))) (V.drop (min V.length (wl + n))) (L + n) (wl + n - min V.length (wl + n)) (qs ++ rs) := by
  have f := flow_step V (wl + n)
  refine ⟨h.fl.app k, ?_, ?_, f.2.2⟩
  · rw [List.append_assoc, ← f.1]
    exact h.all
  · have h1 := h.left
    have h2 := f.2.1
    rw [List.length_append]
    omega
theorem strB_app (a b : List UInt8) : strB a ++ strB b = strB (a ++ b) := by
  apply ByteArray.ext
  simp [strB]
theorem strB_size (l : List UInt8) : (strB l).size = l.length := by simp [strB, ByteArray.size]
theorem strB_head (a b : List UInt8) : (strB (a ++ b)).extract 0 a.length = strB a := by
  apply ByteArray.ext
  simp [strB]
end Go.Proofs.Ytnimdbjbkoggdaa
