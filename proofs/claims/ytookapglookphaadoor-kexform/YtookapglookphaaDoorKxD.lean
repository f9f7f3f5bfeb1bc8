/- kex: same, number. -/
import Derived.Test.YtookapglookphaaDoorKxC
import Derived.Test.YtookapglookphaaDoorXcD
namespace Go.Proofs.YtookapglookphaaDoor
open Go Go.RowKit

def orTo (xs ys : List UInt8) : Nat → UInt8
  | 0 => 0
  | i + 1 => orTo xs ys i ||| (xs.getD i 0 ^^^ ys.getD i 0)
theorem orb_u8 (a b : UInt8) : bits BinOp.or IntKind.u8 (a.toNat : Int) (b.toNat : Int) = ((a ||| b).toNat : Int) := by
  rw [u8_or_nat _ _ (UInt8.toNat_lt _) (UInt8.toNat_lt _), UInt8.toNat_or]
theorem xor_zero_iff (a b : UInt8) : a ^^^ b = 0 ↔ a = b := by
  constructor
  · intro h
    have : a ^^^ b ^^^ b = 0 ^^^ b := by rw [h]
    rwa [UInt8.xor_assoc, UInt8.xor_self, UInt8.xor_zero, UInt8.zero_xor] at this
  · rintro rfl
    exact UInt8.xor_self
theorem or_zero_iff (a b : UInt8) : a ||| b = 0 ↔ a = 0 ∧ b = 0 := by
  rw [← UInt8.toBitVec_inj, ← UInt8.toBitVec_inj, ← UInt8.toBitVec_inj]
  simp
theorem orTo_zero (xs ys : List UInt8) (n : Nat) : orTo xs ys n = 0 ↔ ∀ i, i < n → xs.getD i 0 = ys.getD i 0 := by
  induction n with
  | zero => simp [orTo]
  | succ n ih =>
    rw [orTo, or_zero_iff, ih, xor_zero_iff]
    constructor
    · rintro ⟨h1, h2⟩ i hi
      by_cases h : i < n
      · exact h1 i h
      · obtain rfl : i = n := by omega
        exact h2
    · intro h
      exact ⟨fun i hi => h i (by omega), h n (by omega)⟩
theorem list_ext_getD {xs ys : List UInt8} (hl : xs.length = ys.length) : xs = ys ↔ ∀ i, i < xs.length → xs.getD i 0 = ys.getD i 0 := by
  constructor
  · rintro rfl i _; rfl
  · intro h
    apply List.ext_getElem hl
    intro i h1 h2
    have := h i h1
    simpa [h1, h2] using this
set_option maxHeartbeats 800000 in
set_option maxRecDepth 100000 in
theorem ksame_c (v1 v2 : Value) (xs ys : List UInt8) (hl : xs.length = ys.length) (w : World) (h1 : BSl w v1 xs) (h2 : BSl w v2 ys) :
    Calls Tryd.prog 28 #[v1, v2] w fun e w' => e = .returned (.bool (decide (xs = ys))) ∧ ∃ q, w' = w.drewN q := by
  have H1 := hidden h1
  have H2 := hidden h2
  obtain ⟨a1, c1, rfl, k1, m1, _⟩ := h1
  obtain ⟨a2, c2, rfl, _⟩ := h2
  unfold maxLen at m1
  obtain ⟨n, hn⟩ : ∃ n, n = xs.length := ⟨_, rfl⟩
  have HN := hidden hn
  have HL := hidden hl
  rw [← hl, ← hn] at H2 ⊢
  rw [← hn] at H1 k1
  clear hl hn
  go_enter Tryd.func28, Tryd.ntmps28
  go_wp2_with fail
  go_loopw [5, 9] (fun d c wr => ∃ i q : Nat, i ≤ n ∧ c = .int .i64 (i : Int) ∧ d = .int .u8 ((orTo xs ys i).toNat) ∧ wr = w.drewN q) (fun _ c _ => n - (intOf c).toNat)
  case atStart => exact ⟨0, 0, by omega, rfl, rfl, rfl⟩
  case round =>
    obtain ⟨i, q, hi, rfl, rfl, rfl⟩ := hrel
    by_cases hlt : i < n
    · have hlt' : (i : Int) < (n : Int) := by omega
      have hne : xs ≠ [] := by intro e; have := HN.out; rw [e] at this; simp at this; omega
      have hne2 : ys ≠ [] := by intro e; have h1 := HN.out; have h2 := HL.out; rw [e] at h2; simp at h2; rw [h2] at h1; simp at h1; omega
      obtain ⟨b1, o1, rfl⟩ := H1.out.addr hne
      obtain ⟨b2, o2, rfl⟩ := H2.out.addr hne2
      have hx := H1.out.cellD i (by have := HN.out; omega)
      have hy := H2.out.cellD i (by have := HN.out; have := HL.out; omega)
      have hxor := xbyte (xs.getD i 0) (ys.getD i 0)
      have hor := orb_u8 (orTo xs ys i) (xs.getD i 0 ^^^ ys.getD i 0)
      rw [show orTo xs ys i ||| (xs.getD i 0 ^^^ ys.getD i 0) = orTo xs ys (i + 1) from rfl] at hor
      generalize (xs.getD i 0 ^^^ ys.getD i 0).toNat = q1 at hxor hor
      generalize (xs.getD i 0).toNat = q2 at hx hxor
      generalize (ys.getD i 0).toNat = q3 at hy hxor
      generalize hO : (orTo xs ys i).toNat = q4 at hor
      clear hO hne hne2
      go_wp2_with fail
      go_quiet (fail)
      go_wp2
      go_roundw
      case rel => exact ⟨i + 1, q + nq, by omega, by go_num, rfl, rfl⟩
      case measure => simp [intOf]; omega
    · have hlt' : ¬ (i : Int) < (n : Int) := by omega
      obtain rfl : i = n := by omega
      have hz : (((orTo xs ys i).toNat : Int) == 0) = decide (xs = ys) := by
        rw [show (((orTo xs ys i).toNat : Int) == 0) = decide (((orTo xs ys i).toNat : Int) = 0) by rfl]
        apply decide_eq_decide.2
        rw [list_ext_getD HL.out, ← HN.out, ← orTo_zero]
        constructor
        · intro h; exact UInt8.toNat_inj.1 (by simpa using h)
        · intro h; rw [h]; rfl
      have HZ := hidden hz
      clear hz
      go_wp2
      go_ret
      exact ⟨congrArg (fun b => Ending.returned (.bool b)) HZ.out, q, rfl⟩
/-- What number tells: the secret's bytes, or that it is none. -/
structure NTold (w : World) (r : List UInt8) (e : Ending) (w' : World) : Prop where
  bel : Below w.heap.size w w'
  y : r ≠ [] → ∃ v, e = .returned (.tuple #[v, .int .i64 0]) ∧ BSl w' v r
  n : r = [] → e = .returned (.tuple #[.slice none 0 0, .int .i64 22])
set_option maxHeartbeats 800000 in
set_option maxRecDepth 100000 in
theorem number_k (v1 v2 : Value) (k p : List UInt8) (hk : k.length = 32) (hp : p.length = 32) (w : World) (htp : Tp w) (h1 : BSl w v1 k) (h2 : BSl w v2 p) :
    Calls Tryd.prog 23 #[v1, v2] w (NTold w (bare (mulL k p))) := by
  have HM := hidden (Mul_c v1 v2 k p w htp h1 h2)
  obtain ⟨a1, c1, rfl⟩ := h1.len
  obtain ⟨a2, c2, rfl⟩ := h2.len
  have HL := hidden (mulL_length k p)
  generalize mulL k p = M at HM HL ⊢
  obtain ⟨r, hr⟩ : ∃ r, bare M = r := ⟨_, rfl⟩
  rw [hr]
  have HRM := hidden hr
  clear hr
  rw [hk, hp] at HM
  rw [hk, hp]
  clear h1 h2 hk hp htp
  go_enter Tryd.func23, Tryd.ntmps23
  go_wp2_with fail
  refine HM.out.mono ?_
  intro e w1 ht
  obtain ⟨g, rfl, hg, hgc⟩ := ht.y ⟨trivial, trivial⟩
  have HB1 := hidden ht.b
  have HV := hidden (BSl.ofBlock hgc (by rw [HL.out]; omega))
  rw [HL.out] at HV
  clear ht hg hgc HM
  go_wp2_with fail
  go_loopw [6] (fun s wr => wr = w1 ∧ ∃ T, BSl w1 s T ∧ bare T = r) (fun s _ => sliceLen s)
  case atStart => exact ⟨rfl, M, HV.out, HRM.out⟩
  case round =>
    obtain ⟨rfl, T, hT, hbT⟩ := hrel
    have HT := hidden hT
    have HBT := hidden hbT
    clear HV HRM hbT
    cases T with
    | nil =>
      obtain ⟨ao, cp, rfl⟩ := hT.nil
      have HR0 : Hid (r = []) := by show _ = _; rw [← HBT.out]; rfl
      clear hT HT HBT
      go_wp2_with fail
      go_ret2
      exact ⟨HB1.out, fun h => absurd HR0.out h, fun _ => rfl⟩
    | cons x xs =>
      obtain ⟨b, off, cap, rfl, hc1, hc2, _⟩ := hT.cons
      have hcell := hT.head
      unfold maxLen at hc2
      rw [List.length_cons] at hc1
      have HC := hidden hT
      rw [List.length_cons] at HC ⊢
      clear hT HT
      by_cases hx : x = 0
      · have hx0 : ((x.toNat : Int) == 0) = true := by rw [hx]; rfl
        have HXS : Hid (bare xs = r) := by show _ = _; rw [← HBT.out, hx]; simp [bare]
        clear hx HBT
        go_wp2_with fail
        refine ⟨⟨trivial, xs, ?_, HXS.out⟩, by simp [sliceLen]⟩
        by_cases hc : cap = 1
        · rw [if_pos hc]
          have h := BSl.tailA (x := x) (xs := xs) (by rw [List.length_cons]; exact HC.out) hc
          rw [hc]
          exact h
        · rw [if_neg hc]
          exact BSl.tailB (x := x) (xs := xs) (by rw [List.length_cons]; exact HC.out) hc
      · have hx0 : ((x.toNat : Int) == 0) = false := by
          have : x.toNat ≠ 0 := fun h => hx (UInt8.toNat_inj.1 h)
          simp
          omega
        have HRX : Hid (r = x :: xs) := by show _ = _; rw [← HBT.out]; exact bare_fix x xs hx
        clear hx HBT
        go_wp2_with fail
        go_ret2
        exact ⟨HB1.out, fun _ => ⟨_, rfl, by rw [HRX.out]; exact HC.out⟩, fun h => absurd (HRX.out.symm.trans h) (by simp)⟩
/-- A struct that a call gives back lies in a place of its own. -/
theorem results_agg1 {fn : Func} {p : Tmp} {ty : TypeId} (h : fn.results = #[.cell p ty]) (tmps : Array Value) (P : Program) (w : World) (g : Nat) (cs : Array Value) (t : TypeId) (fr : Nat × Nat) {fs : Array Field} (hp : tmps.getD p undef = .pointer (some ⟨g, 0, none⟩)) (hg : w.heap[g]? = some (.cells cs t fr))
    (hu : P.underlying ty = some (.struct fs)) (hi : (P.info? ty).map (·.size) = some cs.size) :
    (results fn tmps).run P w = .ok (.agg cs) w := by
  have hp' : tmps[p]?.getD undef = .pointer (some ⟨g, 0, none⟩) := by rw [← hp]; simp
  simp only [results, h]
  simp [hp', asAddr, run_loadVar_row w g t ty cs fr _ hg hu rfl hi]
theorem results_aggTmp {fn : Func} {p q : Tmp} {ty : TypeId} (h : fn.results = #[.cell p ty, .tmp q]) (tmps : Array Value) (P : Program) (w : World) (g : Nat) (cs : Array Value) (t : TypeId) (fr : Nat × Nat) {fs : Array Field} (v : Value) (hp : tmps.getD p undef = .pointer (some ⟨g, 0, none⟩)) (hq : tmps.getD q undef = v) (hg : w.heap[g]? = some (.cells cs t fr))
    (hu : P.underlying ty = some (.struct fs)) (hi : (P.info? ty).map (·.size) = some cs.size) :
    (results fn tmps).run P w = .ok (.tuple #[.agg cs, v]) w := by
  have hp' : tmps[p]?.getD undef = .pointer (some ⟨g, 0, none⟩) := by rw [← hp]; simp
  have hq' : tmps[q]?.getD undef = v := by rw [← hq]; simp
  simp only [results, h]
  simp [hp', hq', asAddr, run_loadVar_row w g t ty cs fr _ hg hu rfl hi]
theorem results_tmpAggTmp {fn : Func} {p q r : Tmp} {ty : TypeId} (h : fn.results = #[.tmp r, .cell p ty, .tmp q]) (tmps : Array Value) (P : Program) (w : World) (g : Nat) (cs : Array Value) (t : TypeId) (fr : Nat × Nat) {fs : Array Field} (u v : Value) (hr : tmps.getD r undef = u) (hp : tmps.getD p undef = .pointer (some ⟨g, 0, none⟩)) (hq : tmps.getD q undef = v) (hg : w.heap[g]? = some (.cells cs t fr))
    (hu : P.underlying ty = some (.struct fs)) (hi : (P.info? ty).map (·.size) = some cs.size) :
    (results fn tmps).run P w = .ok (.tuple #[u, .agg cs, v]) w := by
  have hp' : tmps[p]?.getD undef = .pointer (some ⟨g, 0, none⟩) := by rw [← hp]; simp
  have hq' : tmps[q]?.getD undef = v := by rw [← hq]; simp
  have hr' : tmps[r]?.getD undef = u := by rw [← hr]; simp
  simp only [results, h]
  simp [hp', hq', hr', asAddr, run_loadVar_row w g t ty cs fr _ hg hu rfl hi]

/-- A Side, by value. -/
def sideV (pr pin : Value) (s0 s1 : ByteArray) (ic is : Value) : Array Value := #[pr, pin, .string s0, .string s1, ic, is]
/-- What a Side tells, in a world. -/
structure SideS (w : World) (pr pin : Value) (ic is : Value) (k p i1 i2 : List UInt8) : Prop where
  pr : BSl w pr k
  pin : BSl w pin p
  ic : BSl w ic i1
  is : BSl w is i2
theorem SideS.fresh {w w' : World} {pr pin ic is : Value} {k p i1 i2 : List UInt8} (h : SideS w pr pin ic is k p i1 i2) (hb : Below w.heap.size w w') : SideS w' pr pin ic is k p i1 i2 :=
  ⟨h.pr.fresh hb, h.pin.fresh hb, h.ic.fresh hb, h.is.fresh hb⟩
theorem one_bsl {w : World} {v : Value} {xs : List UInt8} (h : BSl w v xs) : v.oneCell' = true := by obtain ⟨_, _, rfl, _⟩ := h; rfl

end Go.Proofs.YtookapglookphaaDoor
