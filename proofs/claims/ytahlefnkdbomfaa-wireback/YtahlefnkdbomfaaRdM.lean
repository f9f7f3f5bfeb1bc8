/- What the Reader's Mpint does. -/
import Derived.Test.YtahlefnkdbomfaaRdD
namespace Go.Proofs.Ytahlefnkdbomfaa
open Go Go.RowKit

theorem tk_ok1 {bs : List UInt8} {p : Nat} {why : Int} {n : Nat} (h : (tk bs p why n).1 ≠ []) : why = 0 ∧ (tk bs p why n).2.2 = 0 := by
  unfold tk at h ⊢
  by_cases hw : why = 0
  · rw [if_pos hw] at h ⊢
    by_cases hl : bs.length - p < n
    · rw [if_pos hl] at h; simp at h
    · rw [if_neg hl]; exact ⟨hw, rfl⟩
  · rw [if_neg hw] at h; simp at h
theorem tx_ok1 {bs : List UInt8} {p : Nat} {why : Int} {most : Int} (h : (tx bs p why most).1 ≠ []) : why = 0 ∧ (tx bs p why most).2.2 = 0 := by
  unfold tx at h ⊢
  by_cases hl : most.toNat < val (tk bs p why 4).1
  · rw [if_pos hl] at h; simp at h
  · rw [if_neg hl] at h ⊢
    have h1 := tk_ok1 h
    refine ⟨?_, h1.2⟩
    by_cases hw : why = 0
    · exact hw
    · have h2 := h1.1
      unfold tk at h2
      rw [if_neg hw] at h2
      exact absurd h2 hw
theorem tx_len (bs : List UInt8) (p : Nat) (why : Int) (most : Int) : (tx bs p why most).1.length ≤ most.toNat := by
  unfold tx
  split
  · simp
  · rename_i h
    have := tk_len bs (tk bs p why 4).2.1 (tk bs p why 4).2.2 (val (tk bs p why 4).1)
    omega

/-- The number's bytes, if the Text may be one. -/
def mpOf : List UInt8 → Option (List UInt8)
  | [] => some []
  | x :: t => if 128 ≤ x.toNat then none else if x = 0 then (match t with | [] => none | y :: r => if 128 ≤ y.toNat then some (y :: r) else none) else some (x :: t)

def mx (bs : List UInt8) (p : Nat) (why : Int) (most : Int) : List UInt8 × Nat × Int :=
  match mpOf (tx bs p why most).1 with
  | some ys => (ys, (tx bs p why most).2)
  | none => ([], p, 12)

set_option maxHeartbeats 1600000 in
set_option maxRecDepth 100000 in
theorem mpint_r (most : Int) (hm0 : -4294967296 ≤ most) (hm1 : most ≤ 1000000000000) (w : World) {a : Nat} {g : Option Nat} {bs : List UInt8} {p : Nat} {why : Int} (h : WR w a g bs p why) :
    Calls Try.prog 21 #[.pointer (some ⟨a, 0, none⟩), .int .i64 most] w fun e w' => RawPost a g bs (mx bs p why most) (mx bs p why most).1 w e w' := by
  have HN : Hid (Calls _ _ _ _ _) := text_r most hm0 hm1 w h
  have hlen := tx_len bs p why most
  have HO := @tx_ok1 bs p why most
  have HX : Hid (mx bs p why most = match mpOf (tx bs p why most).1 with | some ys => (ys, (tx bs p why most).2) | none => ([], p, 12)) := rfl
  generalize mx bs p why most = rr at *
  generalize tx bs p why most = r at *
  obtain ⟨xs, p1, y1⟩ := r
  simp only at *
  obtain ⟨v, h1, h2, rfl, h4, h5, h6⟩ := h
  obtain ⟨c0, c1, c2, hf⟩ := cells3 h1
  have hlen2 : xs.length ≤ 1000000000000 := by omega
  clear hlen
  cases xs with
  | nil =>
    have hrr : rr = ([], p1, y1) := HX.out
    subst hrr
    clear HX HO h1 h2
    go_enter Try.func21, Try.ntmps21
    go_wp2
    refine scope_forward 3 ?_
    go_wp2_with fail
    refine HN.out.mono ?_
    rintro e w1 ⟨v1, rfl, hb1, ho1, ht1⟩
    obtain ⟨ao, cap, rfl⟩ := hb1.nil
    clear c0 c1 c2 hf HN
    go_wp2
    simp only [hops]
    go_ret
    exact ⟨_, rfl, bsl_none _, (fun k e => by cases e), ht1⟩
  | cons x t =>
    have hy1 := (HO (by simp)).2
    have hy0 := (HO (by simp)).1
    subst hy1 hy0
    by_cases ht : 128 ≤ x.toNat
    · have hrr : rr = ([], p, 12) := by rw [HX.out]; simp [mpOf, ht]
      subst hrr
      clear HX HO h1 h2
      go_enter Try.func21, Try.ntmps21
      go_wp2
      refine scope_forward 3 ?_
      go_wp2_with fail
      refine HN.out.mono ?_
      rintro e w1 ⟨v1, rfl, hb1, ho1, ht1⟩
      obtain ⟨b, off, cap, rfl, hc1, hc2, _⟩ := hb1.cons
      have h0 := hb1.head
      have hst := ht1.state
      have HK : Hid (Keeps (fun k => k = a) w w1) := ht1.keeps
      unfold maxLen at hc2
      clear c0 c1 c2 hf HN hb1 ho1 ht1
      go_wp2_with fail
      refine (hasTopBit_c x _).mono ?_
      rintro e w1' ⟨rfl, rfl⟩
      simp only [ht, decide_true]
      go_wp2
      go_step3
      refine .inr ⟨_, rfl, ?_⟩
      go_wp2_with fail
      refine (refuse_c 12 p _ hst h5).mono ?_
      rintro e w2 ⟨rfl, hw2, hk2⟩
      go_wp2
      simp only [hops]
      go_ret
      exact ⟨_, rfl, bsl_none _, (fun k e => by cases e), hw2, HK.out.trans hk2⟩
    · by_cases hx0 : x = 0
      · subst hx0
        cases t with
        | nil =>
          have hrr : rr = ([], p, 12) := by rw [HX.out]; rfl
          subst hrr
          clear HX HO h1 h2
          go_enter Try.func21, Try.ntmps21
          go_wp2
          refine scope_forward 3 ?_
          go_wp2_with fail
          refine HN.out.mono ?_
          rintro e w1 ⟨v1, rfl, hb1, ho1, ht1⟩
          have HB : Hid (BSl w1 v1 _) := hb1
          obtain ⟨b, off, cap, rfl, hc1, hc2, _⟩ := hb1.cons
          have h0 := hb1.head
          have HT : Hid (Took a v.ownBlock bs p1 0 w w1) := ht1
          have hst := ht1.state
          unfold maxLen at hc2
          clear c0 c1 c2 hf HN hb1 ho1 ht1
          simp only [List.length_cons] at hc1
          go_wp2_with fail
          refine (hasTopBit_c 0 _).mono ?_
          rintro e w1' ⟨rfl, rfl⟩
          rw [show decide (128 ≤ (0 : UInt8).toNat) = false from rfl]
          go_wp2
          all_goals
            go_step3
            refine .inr ⟨_, rfl, ?_⟩
            go_wp2_with fail
            refine (refuse_c 12 p _ hst h5).mono ?_
            rintro e w2 ⟨rfl, hw2, hk2⟩
            go_wp2
            simp only [hops]
            go_ret
            exact ⟨_, rfl, bsl_none _, (fun k e => by cases e), hw2, HT.out.keeps.trans hk2⟩
        | cons y r =>
          by_cases hy : 128 ≤ y.toNat
          · have hrr : rr = (y :: r, p1, 0) := by rw [HX.out]; simp [mpOf, hy]
            subst hrr
            clear HX HO h1 h2
            go_enter Try.func21, Try.ntmps21
            go_wp2
            refine scope_forward 3 ?_
            go_wp2_with fail
            refine HN.out.mono ?_
            rintro e w1 ⟨v1, rfl, hb1, ho1, ht1⟩
            have HB : Hid (BSl w1 v1 _) := hb1
            obtain ⟨b, off, cap, rfl, hc1, hc2, _⟩ := hb1.cons
            have h0 := hb1.head
            have HT : Hid (Took a v.ownBlock bs p1 0 w w1) := ht1
            have hst := ht1.state
            unfold maxLen at hc2
            clear c0 c1 c2 hf HN hb1 ho1 ht1
            simp only [List.length_cons] at hc1
            go_wp2_with fail
            refine (hasTopBit_c 0 _).mono ?_
            rintro e w1' ⟨rfl, rfl⟩
            rw [show decide (128 ≤ (0 : UInt8).toNat) = false from rfl]
            have hcap : ¬ cap = 1 := by omega
            have HT1 : Hid (BSl w1' (.slice (some ⟨b, off + 1, none⟩) (y :: r).length (cap - 1)) (y :: r)) := HB.out.tailB hcap
            have h1c := HT1.out.head
            go_wp2_with fail
            refine (hasTopBit_c y _).mono ?_
            rintro e w2' ⟨rfl, rfl⟩
            simp only [hy, decide_true]
            go_wp2
            go_step3
            go_wp2_with fail
            refine (clone_c _ (y :: r) _ HT1.out (by simp only [List.length_cons] at hlen2 ⊢; omega)).mono ?_
            rintro e w3 ⟨v3, rfl, ho3, hb3⟩
            have HR : Hid (RawPost a v.ownBlock bs (y :: r, p1, 0) (y :: r) w (.returned v3) w3) := ⟨v3, rfl, BSl.ofRow ho3, fun k hk => Nat.le_trans HT.out.keeps.size (ho3.lt k hk).1, HT.out.fresh hb3⟩
            clear ho3 hb3 HT HB HT1 hst
            go_wp2
            simp only [hops]
            go_ret
            exact HR.out
          · have hrr : rr = ([], p, 12) := by rw [HX.out]; simp [mpOf, hy]
            subst hrr
            clear HX HO h1 h2
            go_enter Try.func21, Try.ntmps21
            go_wp2
            refine scope_forward 3 ?_
            go_wp2_with fail
            refine HN.out.mono ?_
            rintro e w1 ⟨v1, rfl, hb1, ho1, ht1⟩
            have HB : Hid (BSl w1 v1 _) := hb1
            obtain ⟨b, off, cap, rfl, hc1, hc2, _⟩ := hb1.cons
            have h0 := hb1.head
            have HT : Hid (Took a v.ownBlock bs p1 0 w w1) := ht1
            have hst := ht1.state
            unfold maxLen at hc2
            clear c0 c1 c2 hf HN hb1 ho1 ht1
            simp only [List.length_cons] at hc1
            go_wp2_with fail
            refine (hasTopBit_c 0 _).mono ?_
            rintro e w1' ⟨rfl, rfl⟩
            rw [show decide (128 ≤ (0 : UInt8).toNat) = false from rfl]
            have hcap : ¬ cap = 1 := by omega
            have HT1 : Hid (BSl w1' (.slice (some ⟨b, off + 1, none⟩) (y :: r).length (cap - 1)) (y :: r)) := HB.out.tailB hcap
            have h1c := HT1.out.head
            go_wp2_with fail
            refine (hasTopBit_c y _).mono ?_
            rintro e w2' ⟨rfl, rfl⟩
            simp only [hy, decide_false]
            go_wp2
            go_step3
            refine .inr ⟨_, rfl, ?_⟩
            go_wp2_with fail
            refine (refuse_c 12 p _ hst h5).mono ?_
            rintro e w2 ⟨rfl, hw2, hk2⟩
            go_wp2
            simp only [hops]
            go_ret
            exact ⟨_, rfl, bsl_none _, (fun k e => by cases e), hw2, HT.out.keeps.trans hk2⟩
      · have hrr : rr = (x :: t, p1, 0) := by rw [HX.out]; simp [mpOf, ht, hx0]
        subst hrr
        have hxz : ((x.toNat : Int) != 0) = true := by
          have : x.toNat ≠ 0 := fun h => hx0 (UInt8.toNat_inj.1 h)
          simp [this]
        clear HX HO h1 h2
        go_enter Try.func21, Try.ntmps21
        go_wp2
        refine scope_forward 3 ?_
        go_wp2_with fail
        refine HN.out.mono ?_
        rintro e w1 ⟨v1, rfl, hb1, ho1, ht1⟩
        have HB : Hid (BSl w1 v1 (x :: t)) := hb1
        obtain ⟨b, off, cap, rfl, hc1, hc2, _⟩ := hb1.cons
        have h0 := hb1.head
        have HT : Hid (Took a v.ownBlock bs p1 0 w w1) := ht1
        unfold maxLen at hc2
        clear c0 c1 c2 hf HN hb1 ho1 ht1
        go_wp2_with fail
        refine (hasTopBit_c x _).mono ?_
        rintro e w1' ⟨rfl, rfl⟩
        simp only [ht, decide_false]
        go_wp2
        go_step3
        refine .inr ⟨_, rfl, ?_⟩
        go_wp2_with fail
        refine (clone_c _ (x :: t) _ HB.out (by omega)).mono ?_
        rintro e w2 ⟨v2, rfl, ho2, hb2⟩
        have R : RawPost a v.ownBlock bs (x :: t, p1, 0) (x :: t) w (.returned v2) w2 := ⟨v2, rfl, BSl.ofRow ho2, fun k hk => Nat.le_trans HT.out.keeps.size (ho2.lt k hk).1, HT.out.fresh hb2⟩
        have HR : Hid (RawPost a v.ownBlock bs (x :: t, p1, 0) (x :: t) w (.returned v2) w2) := R
        clear R ho2 hb2 HT HB
        go_wp2
        simp only [hops]
        go_ret
        exact HR.out

end Go.Proofs.Ytahlefnkdbomfaa
