/- What the Reader's Byte, Bool, U32, U64, Text, Raw, Rest, Fail, End and NewReader do. -/
import Derived.Test.YtkbfgfpdchgjpaaRdB
namespace Go.Proofs.Ytkbfgfpdchgjpaa
open Go Go.RowKit

theorem valFrom_lt (xs : List UInt8) : ∀ m, valFrom m xs < (m + 1) * 256 ^ xs.length := by
  induction xs with
  | nil => intro m; simp [valFrom]
  | cons x xs ih =>
    intro m
    have hx := x.toNat_lt
    have := ih (m * 256 + x.toNat)
    refine Nat.lt_of_lt_of_le this ?_
    rw [List.length_cons, Nat.pow_succ]
    have h2 : (m * 256 + x.toNat + 1) ≤ (m + 1) * 256 := by omega
    calc (m * 256 + x.toNat + 1) * 256 ^ xs.length ≤ (m + 1) * 256 * 256 ^ xs.length := Nat.mul_le_mul_right _ h2
      _ = (m + 1) * (256 ^ xs.length * 256) := by rw [Nat.mul_assoc, Nat.mul_comm 256]
theorem val_lt (xs : List UInt8) (k : Nat) (h : xs.length ≤ k) : val xs < 256 ^ k := by
  have := valFrom_lt xs 0
  simp at this
  exact Nat.lt_of_lt_of_le this (Nat.pow_le_pow_right (by omega) h)
theorem tk_len (bs : List UInt8) (p : Nat) (why : Int) (n : Nat) : (tk bs p why n).1.length ≤ n := by unfold tk; split <;> (try split) <;> simp <;> omega

def RdPost (a : Nat) (g : Option Nat) (bs : List UInt8) (r : List UInt8 × Nat × Int) (x : Value) (w : World) (e : Ending) (w' : World) : Prop := e = .returned x ∧ Took a g bs r.2.1 r.2.2 w w'



set_option maxHeartbeats 400000 in
theorem u32_r (w : World) {a : Nat} {g : Option Nat} {bs : List UInt8} {p : Nat} {why : Int} (h : WR w a g bs p why) :
    Calls Try.prog 30 #[.pointer (some ⟨a, 0, none⟩)] w fun e w' => RdPost a g bs (tk bs p why 4) (.int .u32 (val (tk bs p why 4).1)) w e w' := by
  have HN := number_r 4 (by omega) w h
  have hv := val_lt _ 4 (tk_len bs p why 4)
  generalize tk bs p why 4 = r at *
  generalize val r.1 = x at *
  go_enter Try.func30, Try.ntmps30
  go_wp2_with fail
  refine HN.mono ?_
  rintro e w1 ⟨rfl, ht⟩
  have hx : (x : Int) < 4294967296 := by omega
  go_wp2
  go_ret
  exact ⟨rfl, ht⟩

set_option maxHeartbeats 400000 in
theorem u64_r (w : World) {a : Nat} {g : Option Nat} {bs : List UInt8} {p : Nat} {why : Int} (h : WR w a g bs p why) :
    Calls Try.prog 32 #[.pointer (some ⟨a, 0, none⟩)] w fun e w' => RdPost a g bs (tk bs p why 8) (.int .u64 (val (tk bs p why 8).1)) w e w' := by
  have HN := number_r 8 (by omega) w h
  generalize tk bs p why 8 = r at *
  generalize val r.1 = x at *
  go_enter Try.func32, Try.ntmps32
  go_wp2_with fail
  refine HN.mono ?_
  rintro e w1 ⟨rfl, ht⟩
  go_wp2
  go_ret
  exact ⟨rfl, ht⟩

/-- What text answers, and where the Reader stands behind it. -/
def tx (bs : List UInt8) (p : Nat) (why : Int) (most : Int) : List UInt8 × Nat × Int :=
  if most.toNat < val (tk bs p why 4).1 then ([], p, 3) else tk bs (tk bs p why 4).2.1 (tk bs p why 4).2.2 (val (tk bs p why 4).1)

theorem tk_ok {bs : List UInt8} {p : Nat} {why : Int} {n : Nat} (h : 0 < val (tk bs p why n).1) : why = 0 ∧ (tk bs p why n).2.2 = 0 := by
  unfold tk at h ⊢
  by_cases hw : why = 0
  · rw [if_pos hw] at h ⊢
    by_cases hl : bs.length - p < n
    · rw [if_pos hl] at h; simp [val, valFrom] at h
    · rw [if_neg hl]; exact ⟨hw, rfl⟩
  · rw [if_neg hw] at h; simp [val, valFrom] at h


theorem Took.trans {a : Nat} {g : Option Nat} {bs : List UInt8} {p1 p2 : Nat} {y1 y2 : Int} {w w1 w2 : World} (h : Took a g bs p1 y1 w w1) (k : Took a g bs p2 y2 w1 w2) : Took a g bs p2 y2 w w2 := ⟨k.state, h.keeps.trans k.keeps⟩
theorem Took.fresh {a : Nat} {g : Option Nat} {bs : List UInt8} {p1 : Nat} {y1 : Int} {w w1 w2 : World} (h : Took a g bs p1 y1 w w1) (hb : Below w1.heap.size w1 w2) : Took a g bs p1 y1 w w2 := ⟨h.state.fresh hb, h.keeps.trans (Keeps.ofFresh hb)⟩


/-- What a Reader's call answers that hands out bytes: fresh ones. -/
def RawPost (a : Nat) (g : Option Nat) (bs : List UInt8) (r : List UInt8 × Nat × Int) (xs : List UInt8) (w : World) (e : Ending) (w' : World) : Prop :=
  ∃ v', e = .returned v' ∧ BSl w' v' xs ∧ (∀ k, v'.ownBlock = some k → w.heap.size ≤ k) ∧ Took a g bs r.2.1 r.2.2 w w'


end Go.Proofs.Ytkbfgfpdchgjpaa
