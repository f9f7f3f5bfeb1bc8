/- Same and known. -/
import Derived.Test.YthkaibkmpenclaaDoorPoH
import Derived.Lib.SmallJoins
namespace Go.Proofs.YthkaibkmpenclaaDoor
open Go Go.RowKit

def orTo (xs ys : List UInt8) : Nat → UInt8
  | 0 => 0
  | i + 1 => orTo xs ys i ||| (xs.getD i 0 ^^^ ys.getD i 0)
theorem or_byte (a b : UInt8) : bits BinOp.or IntKind.u8 (a.toNat : Int) (b.toNat : Int) = ((a ||| b).toNat : Int) := by
  rw [u8_or_nat _ _ (UInt8.toNat_lt _) (UInt8.toNat_lt _), UInt8.toNat_or]
theorem xor_zero_iff (a b : UInt8) : a ^^^ b = 0 ↔ a = b := by
  constructor
  · intro h
    have : a ^^^ b ^^^ b = 0 ^^^ b := by rw [h]
    rwa [UInt8.xor_assoc, UInt8.xor_self, UInt8.xor_zero, UInt8.zero_xor] at this
  · rintro rfl
    exact UInt8.xor_self
theorem or_zero_iff (a b : UInt8) : a ||| b = 0 ↔ a = 0 ∧ b = 0 := by
  rw [← UInt8.toBitVec_inj, ← UInt8.toBitVec_inj, ← UInt8.toBitVec_inj]
  simp
theorem orTo_zero (xs ys : List UInt8) (n : Nat) : orTo xs ys n = 0 ↔ ∀ i, i < n → xs.getD i 0 = ys.getD i 0 := by
  induction n with
  | zero => simp [orTo]
  | succ n ih =>
    rw [orTo, or_zero_iff, ih, xor_zero_iff]
    constructor
    · rintro ⟨h1, h2⟩ i hi
      by_cases h : i < n
      · exact h1 i h
      · obtain rfl : i = n := by omega
        exact h2
    · intro h
      exact ⟨fun i hi => h i (by omega), h n (by omega)⟩
theorem list_ext_getD {xs ys : List UInt8} (hl : xs.length = ys.length) : xs = ys ↔ ∀ i, i < xs.length → xs.getD i 0 = ys.getD i 0 := by
  constructor
  · rintro rfl i _; rfl
  · intro h
    apply List.ext_getElem hl
    intro i h1 h2
    have := h i h1
    simpa [h1, h2] using this
set_option maxHeartbeats 800000 in
set_option maxRecDepth 100000 in
theorem Same_c (v1 v2 : Value) (xs ys : List UInt8) (w : World) (h1 : BSl w v1 xs) (h2 : BSl w v2 ys) :
    Calls Tryd.prog 67 #[v1, v2] w fun e w' => e = .returned (.bool (decide (xs = ys))) ∧ ∃ q, w' = w.drewN q := by
  have H1 := hidden h1
  have H2 := hidden h2
  obtain ⟨a1, c1, rfl, k1, m1, _⟩ := h1
  obtain ⟨a2, c2, rfl, _⟩ := h2
  unfold maxLen at m1
  by_cases hl : xs.length = ys.length
  · obtain ⟨n, hn⟩ : ∃ n, n = xs.length := ⟨_, rfl⟩
    have HN := hidden hn
    have HL := hidden hl
    rw [← hl, ← hn] at H2 ⊢
    rw [← hn] at H1 k1
    clear hl hn
    go_enter Tryd.func67, Tryd.ntmps67
    go_wp2_with fail
    go_loopw [5, 14] (fun d c wr => ∃ i q : Nat, i ≤ n ∧ c = .int .i64 (i : Int) ∧ d = .int .u8 ((orTo xs ys i).toNat) ∧ wr = w.drewN q) (fun _ c _ => n - (intOf c).toNat)
    case atStart => exact ⟨0, 0, by omega, rfl, rfl, rfl⟩
    case round =>
      obtain ⟨i, q, hi, rfl, rfl, rfl⟩ := hrel
      by_cases hlt : i < n
      · have hlt' : (i : Int) < (n : Int) := by omega
        have hne : xs ≠ [] := by intro e; have := HN.out; rw [e] at this; simp at this; omega
        have hne2 : ys ≠ [] := by intro e; have h1 := HN.out; have h2 := HL.out; rw [e] at h2; simp at h2; rw [h2] at h1; simp at h1; omega
        obtain ⟨b1, o1, rfl⟩ := H1.out.addr hne
        obtain ⟨b2, o2, rfl⟩ := H2.out.addr hne2
        have hx := H1.out.cellD i (by have := HN.out; omega)
        have hy := H2.out.cellD i (by have := HN.out; have := HL.out; omega)
        have hxor := xbyte (xs.getD i 0) (ys.getD i 0)
        have hor := or_byte (orTo xs ys i) (xs.getD i 0 ^^^ ys.getD i 0)
        rw [show orTo xs ys i ||| (xs.getD i 0 ^^^ ys.getD i 0) = orTo xs ys (i + 1) from rfl] at hor
        generalize (xs.getD i 0 ^^^ ys.getD i 0).toNat = q1 at hxor hor
        generalize (xs.getD i 0).toNat = q2 at hx hxor
        generalize (ys.getD i 0).toNat = q3 at hy hxor
        generalize hO : (orTo xs ys i).toNat = q4 at hor
        clear hO hne hne2
        go_wp2_with fail
        go_quiet (fail)
        go_wp2
        go_roundw
        case rel => exact ⟨i + 1, q + nq, by omega, by go_num, rfl, rfl⟩
        case measure => simp [intOf]; omega
      · have hlt' : ¬ (i : Int) < (n : Int) := by omega
        obtain rfl : i = n := by omega
        have hz : (((orTo xs ys i).toNat : Int) == 0) = decide (xs = ys) := by
          rw [show (((orTo xs ys i).toNat : Int) == 0) = decide (((orTo xs ys i).toNat : Int) = 0) by rfl]
          apply decide_eq_decide.2
          rw [list_ext_getD HL.out, ← HN.out, ← orTo_zero]
          constructor
          · intro h; exact UInt8.toNat_inj.1 (by simpa using h)
          · intro h; rw [h]; rfl
        have HZ := hidden hz
        clear hz
        go_wp2
        go_ret
        exact ⟨congrArg (fun b => Ending.returned (.bool b)) HZ.out, q, rfl⟩
  · have HE : Hid (decide (xs = ys) = false) := by
      show _ = _
      apply decide_eq_false
      rintro rfl
      exact hl rfl
    have e1 : ((xs.length : Int) == (ys.length : Int)) = false := by simp; omega
    have e2 : ((xs.length : Int) != (ys.length : Int)) = true := by simp; omega
    generalize xs.length = n1 at e1 e2 ⊢
    generalize ys.length = n2 at e1 e2 ⊢
    clear hl H1 H2
    go_enter Tryd.func67, Tryd.ntmps67
    go_wp2
    go_ret
    exact ⟨congrArg (fun b => Ending.returned (.bool b)) HE.out.symm, 0, rfl⟩

def knownK : List UInt8 := [0x85, 0xd6, 0xbe, 0x78, 0x57, 0x55, 0x6d, 0x33, 0x7f, 0x44, 0x52, 0xfe, 0x42, 0xd5, 0x06, 0xa8, 0x01, 0x03, 0x80, 0x8a, 0xfb, 0x0d, 0xb2, 0xfd, 0x4a, 0xbf, 0xf6, 0xaf, 0x41, 0x49, 0xf5, 0x1b]
def knownT : List UInt8 := [67, 114, 121, 112, 116, 111, 103, 114, 97, 112, 104, 105, 99, 32, 70, 111, 114, 117, 109, 32, 82, 101, 115, 101, 97, 114, 99, 104, 32, 71, 114, 111, 117, 112]
theorem known_sum : polyL knownK knownT = [168, 6, 29, 193, 48, 81, 54, 198, 194, 43, 139, 175, 12, 1, 39, 169] := by decide +kernel
theorem bsl_const (w : World) (xs : List UInt8) (hl : xs.length ≤ 1000) (fr : Nat × Nat) : BSl (w.alloc (.cells (bcells xs).toArray 5 fr)) (.slice (some ⟨w.heap.size, 0, none⟩) xs.length xs.length) xs := by
  refine ⟨_, _, rfl, Nat.le_refl _, by unfold maxLen; omega, (fun e => by cases e), fun ad e _ => ⟨w.heap.size, 0, by cases e; rfl, fun j u hu => ?_⟩⟩
  rw [Nat.zero_add, World.cell?_alloc_mark]
  simpa using hu
theorem SumTold.ok {w w' : World} {key b : List UInt8} {e : Ending} (h : SumTold w key b e w') (hk : key.length = 32) : Below w.heap.size w w' ∧ ∃ g, e = .returned (.tuple #[.slice (some ⟨g, 0, none⟩) 16 16, .int .i64 0]) ∧ w.heap.size ≤ g ∧ w'.heap[g]? = some (.cells (bcells (polyL key b)).toArray 5 (0, 0)) := by
  obtain ⟨hb, hT⟩ := h
  rcases hT with ⟨_, h⟩ | ⟨hno, _⟩
  · exact ⟨hb, h⟩
  · exact absurd hk hno
theorem bsl16 {w : World} {g : Nat} {xs : List UInt8} (h : w.heap[g]? = some (.cells (bcells xs).toArray 5 (0, 0))) (hl : xs.length = 16) : BSl w (.slice (some ⟨g, 0, none⟩) 16 16) xs := by
  have := BSl.ofBlock h (by omega)
  rw [hl] at this
  exact this

end Go.Proofs.YthkaibkmpenclaaDoor
