/- What the Reader's Byte, Bool, U32, U64, Text, Raw, Rest, Fail, End and NewReader do. -/
import Derived.Test.YtnigfnikajejaaaRdB
namespace Go.Proofs.Ytnigfnikajejaaa
open Go Go.RowKit

theorem valFrom_lt (xs : List UInt8) : ∀ m, valFrom m xs < (m + 1) * 256 ^ xs.length := by
  induction xs with
  | nil => intro m; simp [valFrom]
  | cons x xs ih =>
    intro m
    have hx := x.toNat_lt
    have := ih (m * 256 + x.toNat)
    refine Nat.lt_of_lt_of_le this ?_
    rw [List.length_cons, Nat.pow_succ]
    have h2 : (m * 256 + x.toNat + 1) ≤ (m + 1) * 256 := by omega
    calc (m * 256 + x.toNat + 1) * 256 ^ xs.length ≤ (m + 1) * 256 * 256 ^ xs.length := Nat.mul_le_mul_right _ h2
      _ = (m + 1) * (256 ^ xs.length * 256) := by rw [Nat.mul_assoc, Nat.mul_comm 256]
theorem val_lt (xs : List UInt8) (k : Nat) (h : xs.length ≤ k) : val xs < 256 ^ k := by
  have := valFrom_lt xs 0
  simp at this
  exact Nat.lt_of_lt_of_le this (Nat.pow_le_pow_right (by omega) h)
theorem tk_len (bs : List UInt8) (p : Nat) (why : Int) (n : Nat) : (tk bs p why n).1.length ≤ n := by unfold tk; split <;> (try split) <;> simp <;> omega

def RdPost (a : Nat) (g : Option Nat) (bs : List UInt8) (r : List UInt8 × Nat × Int) (x : Value) (w : World) (e : Ending) (w' : World) : Prop := e = .returned x ∧ Took a g bs r.2.1 r.2.2 w w'

set_option maxHeartbeats 400000 in
theorem byte_r (w : World) {a : Nat} {g : Option Nat} {bs : List UInt8} {p : Nat} {why : Int} (h : WR w a g bs p why) :
    Calls Try.prog 66 #[.pointer (some ⟨a, 0, none⟩)] w fun e w' => RdPost a g bs (tk bs p why 1) (.int .i64 (val (tk bs p why 1).1)) w e w' := by
  have HN := number_r 1 (by omega) w h
  have hv := val_lt _ 1 (tk_len bs p why 1)
  generalize tk bs p why 1 = r at *
  generalize val r.1 = x at *
  go_enter Try.func66, Try.ntmps66
  go_wp2_with fail
  refine HN.mono ?_
  rintro e w1 ⟨rfl, ht⟩
  have hx : (x : Int) ≤ 255 := by omega
  go_wp2
  go_ret
  exact ⟨rfl, ht⟩


set_option maxHeartbeats 400000 in
theorem u32_r (w : World) {a : Nat} {g : Option Nat} {bs : List UInt8} {p : Nat} {why : Int} (h : WR w a g bs p why) :
    Calls Try.prog 83 #[.pointer (some ⟨a, 0, none⟩)] w fun e w' => RdPost a g bs (tk bs p why 4) (.int .u32 (val (tk bs p why 4).1)) w e w' := by
  have HN := number_r 4 (by omega) w h
  have hv := val_lt _ 4 (tk_len bs p why 4)
  generalize tk bs p why 4 = r at *
  generalize val r.1 = x at *
  go_enter Try.func83, Try.ntmps83
  go_wp2_with fail
  refine HN.mono ?_
  rintro e w1 ⟨rfl, ht⟩
  have hx : (x : Int) < 4294967296 := by omega
  go_wp2
  go_ret
  exact ⟨rfl, ht⟩

set_option maxHeartbeats 400000 in
theorem u64_r (w : World) {a : Nat} {g : Option Nat} {bs : List UInt8} {p : Nat} {why : Int} (h : WR w a g bs p why) :
    Calls Try.prog 46 #[.pointer (some ⟨a, 0, none⟩)] w fun e w' => RdPost a g bs (tk bs p why 8) (.int .u64 (val (tk bs p why 8).1)) w e w' := by
  have HN := number_r 8 (by omega) w h
  generalize tk bs p why 8 = r at *
  generalize val r.1 = x at *
  go_enter Try.func46, Try.ntmps46
  go_wp2_with fail
  refine HN.mono ?_
  rintro e w1 ⟨rfl, ht⟩
  go_wp2
  go_ret
  exact ⟨rfl, ht⟩

/-- What text answers, and where the Reader stands behind it. -/
def tx (bs : List UInt8) (p : Nat) (why : Int) (most : Int) : List UInt8 × Nat × Int :=
  if most.toNat < val (tk bs p why 4).1 then ([], p, 3) else tk bs (tk bs p why 4).2.1 (tk bs p why 4).2.2 (val (tk bs p why 4).1)

theorem tk_ok {bs : List UInt8} {p : Nat} {why : Int} {n : Nat} (h : 0 < val (tk bs p why n).1) : why = 0 ∧ (tk bs p why n).2.2 = 0 := by
  unfold tk at h ⊢
  by_cases hw : why = 0
  · rw [if_pos hw] at h ⊢
    by_cases hl : bs.length - p < n
    · rw [if_pos hl] at h; simp [val, valFrom] at h
    · rw [if_neg hl]; exact ⟨hw, rfl⟩
  · rw [if_neg hw] at h; simp [val, valFrom] at h

set_option maxHeartbeats 800000 in
set_option maxRecDepth 100000 in
theorem text_r (most : Int) (hm0 : ¬ most < 0) (hm1 : most ≤ 140737488355328) (w : World) {a : Nat} {g : Option Nat} {bs : List UInt8} {p : Nat} {why : Int} (h : WR w a g bs p why) :
    Calls Try.prog 95 #[.pointer (some ⟨a, 0, none⟩), .int .i64 most] w fun e w' => TakePost a g bs (tx bs p why most) w e w' := by
  have HN := number_r 4 (by omega) w h
  have hv := val_lt _ 4 (tk_len bs p why 4)
  have HO := @tk_ok bs p why 4
  have HX : Hid (tx bs p why most = if most.toNat < val (tk bs p why 4).1 then ([], p, 3) else tk bs (tk bs p why 4).2.1 (tk bs p why 4).2.2 (val (tk bs p why 4).1)) := rfl
  generalize tk bs p why 4 = r at *
  obtain ⟨xs, p1, y1⟩ := r
  simp only at *
  generalize val xs = x at *
  have hp := h
  obtain ⟨v, h1, h2, rfl, h4, h5, h6⟩ := h
  obtain ⟨c0, c1, c2, hf⟩ := cells3 h1
  have hx : (x : Int) < 4294967296 := by omega
  clear hv
  have HP : Hid (WR w a v.ownBlock bs p why) := hp
  obtain ⟨M, hM0, hM1, hM2⟩ : ∃ M : Int, most = M ∧ 0 ≤ M ∧ M ≤ 140737488355328 := ⟨_, rfl, by omega, by omega⟩
  subst hM0
  have hMn : most.toNat = most.toNat := rfl
  by_cases hlong : most.toNat < x
  · have hy := HO (by omega)
    have H3 : Hid (tx bs p why most = ([], p, 3)) := by show _ = _; rw [HX.out, if_pos hlong]
    have hlt : most < (x : Int) := by omega
    have HN2 : Hid (Calls _ _ _ _ _) := HN
    rw [H3.out]
    clear HO HX HN hlong hMn H3 hp h2 h1
    go_enter Try.func95, Try.ntmps95
    go_wp2
    refine scope_forward 2 ?_
    go_wp2_with fail
    refine HN2.out.mono ?_
    rintro e w1 ⟨rfl, ht⟩
    clear c0 c1 c2 hf
    have hst := ht.state
    rw [hy.2] at hst
    have HK : Hid (Keeps (fun k => k = a) w w1) := ht.keeps
    clear ht hy HN2
    go_wp2
    go_step3
    refine .inr ⟨_, rfl, ?_⟩
    go_wp2_with fail
    refine (refuse_c 3 p _ hst h5).mono ?_
    rintro e w2 ⟨rfl, hw2, hk2⟩
    go_wp2
    simp only [hops]
    go_ret
    exact ⟨_, rfl, bsl_none _, .inl rfl, hw2, HK.out.trans hk2⟩
  · have H3 : Hid (tx bs p why most = tk bs p1 y1 x) := by show _ = _; rw [HX.out, if_neg hlong]
    have hlt : decide (most < (x : Int)) = false := by simp; omega
    have HN2 : Hid (Calls _ _ _ _ _) := HN
    rw [H3.out]
    clear HO HX HN hlong hMn H3 hp h2 h1
    go_enter Try.func95, Try.ntmps95
    go_wp2
    refine scope_forward 2 ?_
    go_wp2_with fail
    refine HN2.out.mono ?_
    rintro e w1 ⟨rfl, ht⟩
    clear c0 c1 c2 hf
    have hst := ht.state
    have HK : Hid (Keeps (fun k => k = a) w w1) := ht.keeps
    clear ht HN2 h6 h5 h4 hm1
    go_wp2_with fail
    refine (take_c (x : Int) (by omega) (by omega) _ hst).mono ?_
    rintro e w2 ⟨v2, rfl, hb2, ho2, ht2⟩
    rw [Int.toNat_natCast] at hb2 ht2
    have R : TakePost a v.ownBlock bs (tk bs p1 y1 x) w (.returned v2) w2 := ⟨v2, rfl, hb2, ho2, ht2.state, HK.out.trans ht2.keeps⟩
    have HR : Hid (TakePost a v.ownBlock bs (tk bs p1 y1 x) w (.returned v2) w2) := R
    clear R hb2 ho2 ht2 hst HK
    go_wp2
    simp only [hops]
    go_ret
    exact HR.out

theorem Took.trans {a : Nat} {g : Option Nat} {bs : List UInt8} {p1 p2 : Nat} {y1 y2 : Int} {w w1 w2 : World} (h : Took a g bs p1 y1 w w1) (k : Took a g bs p2 y2 w1 w2) : Took a g bs p2 y2 w w2 := ⟨k.state, h.keeps.trans k.keeps⟩
theorem Took.fresh {a : Nat} {g : Option Nat} {bs : List UInt8} {p1 : Nat} {y1 : Int} {w w1 w2 : World} (h : Took a g bs p1 y1 w w1) (hb : Below w1.heap.size w1 w2) : Took a g bs p1 y1 w w2 := ⟨h.state.fresh hb, h.keeps.trans (Keeps.ofFresh hb)⟩

set_option maxHeartbeats 400000 in
theorem textS_r (most : Int) (hm0 : ¬ most < 0) (hm1 : most ≤ 140737488355328) (w : World) {a : Nat} {g : Option Nat} {bs : List UInt8} {p : Nat} {why : Int} (h : WR w a g bs p why) :
    Calls Try.prog 88 #[.pointer (some ⟨a, 0, none⟩), .int .i64 most] w fun e w' => RdPost a g bs (tx bs p why most) (.string ⟨(tx bs p why most).1.toArray⟩) w e w' := by
  have HN : Hid (Calls _ _ _ _ _) := text_r most hm0 hm1 w h
  generalize tx bs p why most = r at *
  go_enter Try.func88, Try.ntmps88
  go_wp2_with fail
  refine HN.out.mono ?_
  rintro e w1 ⟨v1, rfl, hb1, ho1, ht1⟩
  have hcv := run_string hb1
  have HT : Hid (Took a g bs r.2.1 r.2.2 w w1) := ht1
  clear ht1 ho1 hb1 HN
  go_wp2
  go_ret
  exact ⟨rfl, HT.out⟩

/-- What a Reader's call answers that hands out bytes: fresh ones. -/
def RawPost (a : Nat) (g : Option Nat) (bs : List UInt8) (r : List UInt8 × Nat × Int) (xs : List UInt8) (w : World) (e : Ending) (w' : World) : Prop :=
  ∃ v', e = .returned v' ∧ BSl w' v' xs ∧ (∀ k, v'.ownBlock = some k → w.heap.size ≤ k) ∧ Took a g bs r.2.1 r.2.2 w w'

set_option maxHeartbeats 400000 in
theorem raw_r (n : Int) (hn0 : ¬ n < 0) (hn1 : n ≤ 140737488355328) (w : World) {a : Nat} {g : Option Nat} {bs : List UInt8} {p : Nat} {why : Int} (h : WR w a g bs p why) :
    Calls Try.prog 87 #[.pointer (some ⟨a, 0, none⟩), .int .i64 n] w fun e w' => RawPost a g bs (tk bs p why n.toNat) (tk bs p why n.toNat).1 w e w' := by
  have hlen : (tk bs p why n.toNat).1.length ≤ 140737488355328 := by have := tk_len bs p why n.toNat; omega
  have HN : Hid (Calls _ _ _ _ _) := take_c n (by omega) (by omega) w h
  generalize tk bs p why n.toNat = r at *
  go_enter Try.func87, Try.ntmps87
  go_wp2_with fail
  refine HN.out.mono ?_
  rintro e w1 ⟨v1, rfl, hb1, ho1, ht1⟩
  have HT : Hid (Took a g bs r.2.1 r.2.2 w w1) := ht1
  clear ht1 ho1 HN
  go_wp2_with fail
  refine (clone_c v1 r.1 _ hb1 (by omega)).mono ?_
  rintro e w2 ⟨v2, rfl, ho2, hb2⟩
  have R : RawPost a g bs r r.1 w (.returned v2) w2 := ⟨v2, rfl, BSl.ofRow ho2, fun k hk => Nat.le_trans HT.out.keeps.size (ho2.lt k hk).1, HT.out.fresh hb2⟩
  have HR : Hid (RawPost a g bs r r.1 w (.returned v2) w2) := R
  clear R ho2 hb2 HT hb1
  go_wp2
  go_ret
  exact HR.out

end Go.Proofs.Ytnigfnikajejaaa
