/- What the document's Reader answers: numbers, Text, Left, End, Rest, Fail. -/
import Derived.Test.YtkbfgfpdchgjpaaQrA
namespace Go.Proofs.Ytkbfgfpdchgjpaa
open Go Go.RowKit

theorem valFrom_snoc (xs : List UInt8) : ∀ m x, valFrom m (xs ++ [x]) = valFrom m xs * 256 + x.toNat := by
  induction xs with
  | nil => intro m x; rfl
  | cons y ys ih => intro m x; exact ih _ x
theorem val_take_succ (xs : List UInt8) (k : Nat) (h : k < xs.length) : val (xs.take (k + 1)) = val (xs.take k) * 256 + xs[k].toNat := by
  rw [List.take_succ_eq_append_getElem h]
  exact valFrom_snoc _ 0 _

set_option maxHeartbeats 800000 in
set_option maxRecDepth 100000 in
theorem qnumber_c (k : Nat) (hk : k ≤ 8) (w : World) {c : Nat} {g : Option Nat} {bs : List UInt8} {p : Nat} {why : Int} (h : QR w c g bs p why) :
    Calls Try.prog 40 #[.pointer (some ⟨c, 0, none⟩), .int .i64 k] w fun e w' => e = .returned (.int .u64 (val (tk bs p why k).1)) ∧ QTook c g bs (tk bs p why k).2.1 (tk bs p why k).2.2 w w' := by
  have HT := qraw_c (k : Int) (by omega) w h
  rw [Int.toNat_natCast] at HT
  have hlen : (tk bs p why k).1.length ≤ 8 := Nat.le_trans (tk_len bs p why k) hk
  generalize tk bs p why k = r at *
  have HTH : Hid (Calls _ _ _ _ _) := HT
  clear h HT
  go_enter Try.func40, Try.ntmps40
  go_wp2_with fail
  refine HTH.out.mono ?_
  rintro e w1 ⟨v1, rfl, hb1, ho1, ht1⟩
  have HR : Hid (QTook c g bs r.2.1 r.2.2 w w1) := ht1
  have HB : Hid (BSl w1 v1 r.1) := hb1
  obtain ⟨ao, cap, rfl, hc1, hc2, _⟩ := id hb1
  obtain ⟨xs, hxs⟩ : ∃ xs, r.1 = xs := ⟨_, rfl⟩
  have HV : Hid (val xs = val r.1) := by rw [hxs]; rfl
  rw [hxs] at HB hlen hc1 ⊢
  unfold maxLen at hc2
  clear ht1 ho1 hb1 HTH hxs
  go_wp2
  go_loop [6, 7] (fun x i => ∃ j : Nat, j ≤ xs.length ∧ i = .int .i64 j ∧ x = .int .u64 (val (xs.take j))) (fun _ i => xs.length - (intOf i).toNat)
  case atStart => exact ⟨0, Nat.zero_le _, rfl, rfl⟩
  case round =>
    obtain ⟨j, hj, rfl, rfl⟩ := hrel
    by_cases hlt : j < xs.length
    · have hne : xs ≠ [] := by rintro rfl; simp at hlt
      obtain ⟨ao', cap', e', _, _, _, hcc⟩ := id HB.out
      cases e'
      obtain ⟨b, off, rfl, hcell⟩ : ∃ b off, ao = some ⟨b, off, none⟩ ∧ True := by
        cases ao with
        | none => obtain ⟨_, _, e2, _, _, h3, _⟩ := HB.out; cases e2; exact absurd (h3 rfl).1 hne
        | some ad => obtain ⟨b, off, rfl, _⟩ := hcc ad rfl hne; exact ⟨b, off, rfl, trivial⟩
      have hc := HB.out.cellAt j hlt
      have hs := val_take_succ xs j hlt
      have hv : val (xs.take j) < 256 ^ 7 := val_lt _ 7 (by simp; omega)
      have hm3 : ((val (xs.take j) : Nat) : Int) ≤ 72057594037927935 := by omega
      have HS : Hid (val (xs.take (j + 1)) = val (xs.take j) * 256 + xs[j].toNat) := hs
      have HOB := or_byte (val (xs.take j)) xs[j] (by omega)
      have HOB2 : Hid (_ = _) := HOB
      clear hs hv HOB hcc
      generalize val (xs.take j) = m at *
      go_wp2
      go_round
      case rel => exact ⟨j + 1, by omega, by go_num, by rw [HS.out, ← HOB2.out]⟩
      case measure => simp [intOf]; omega
    · have hje : j = xs.length := by omega
      subst hje
      rw [List.take_length]
      go_wp2
      go_ret
      exact ⟨by rw [← HV.out]; rfl, HR.out⟩

def QPost (c : Nat) (g : Option Nat) (bs : List UInt8) (r : List UInt8 × Nat × Int) (x : Value) (w : World) (e : Ending) (w' : World) : Prop := e = .returned x ∧ QTook c g bs r.2.1 r.2.2 w w'



set_option maxHeartbeats 400000 in
theorem qu32_c (w : World) {a : Nat} {g : Option Nat} {bs : List UInt8} {p : Nat} {why : Int} (h : QR w a g bs p why) :
    Calls Try.prog 34 #[.pointer (some ⟨a, 0, none⟩)] w fun e w' => QPost a g bs (tk bs p why 4) (.int .u32 (val (tk bs p why 4).1)) w e w' := by
  have HN := qnumber_c 4 (by omega) w h
  have hv := val_lt _ 4 (tk_len bs p why 4)
  generalize tk bs p why 4 = r at *
  generalize val r.1 = x at *
  go_enter Try.func34, Try.ntmps34
  go_wp2_with fail
  refine HN.mono ?_
  rintro e w1 ⟨rfl, ht⟩
  have hx : (x : Int) < 4294967296 := by omega
  go_wp2
  go_ret
  exact ⟨rfl, ht⟩

set_option maxHeartbeats 400000 in
theorem qu64_c (w : World) {a : Nat} {g : Option Nat} {bs : List UInt8} {p : Nat} {why : Int} (h : QR w a g bs p why) :
    Calls Try.prog 36 #[.pointer (some ⟨a, 0, none⟩)] w fun e w' => QPost a g bs (tk bs p why 8) (.int .u64 (val (tk bs p why 8).1)) w e w' := by
  have HN := qnumber_c 8 (by omega) w h
  generalize tk bs p why 8 = r at *
  generalize val r.1 = x at *
  go_enter Try.func36, Try.ntmps36
  go_wp2_with fail
  refine HN.mono ?_
  rintro e w1 ⟨rfl, ht⟩
  go_wp2
  go_ret
  exact ⟨rfl, ht⟩


set_option maxHeartbeats 800000 in
theorem qend_c (w : World) {c : Nat} {g : Option Nat} {bs : List UInt8} {p : Nat} {why : Int} (h : QR w c g bs p why) :
    Calls Try.prog 26 #[.pointer (some ⟨c, 0, none⟩)] w fun e w' => e = .returned (.tuple #[.int .i64 (ends bs p why).1, .int .i64 (ends bs p why).2]) ∧ Keeps (fun _ => False) w w' := by
  obtain ⟨v, q0, rf, y0, z0, h1, h2, rfl, h4, h5, h6, h7⟩ := h
  obtain ⟨c0, c1, c2, c3, c4, hf⟩ := cells5 h1
  obtain ⟨ao, cap, rfl, _⟩ := id h2
  rcases h7 with ⟨rfl, rfl, rfl⟩ | ⟨rfl, h8, rfl, rfl⟩
  · by_cases hp : q0 < bs.length
    · have e0 : ends bs q0 0 = (11, q0) := by simp [ends, hp]
      rw [e0]
      have hp1 : (q0 : Int) < (bs.length : Int) := by omega
      go_enter Try.func26, Try.ntmps26
      go_wp2_with fail
      go_quiet (fail)
      go_wp2_with fail
      go_quiet (fail)
      go_wp2
      go_ret2
      exact ⟨rfl, ((Keeps.refl _ _).drewN _).drewN _⟩
    · have e0 : ends bs q0 0 = (0, 0) := by simp [ends, hp]
      rw [e0]
      have hp1 : ¬ (q0 : Int) < (bs.length : Int) := by omega
      go_enter Try.func26, Try.ntmps26
      go_wp2_with fail
      go_quiet (fail)
      go_wp2
      go_ret2
      exact ⟨rfl, (Keeps.refl _ _).drewN _⟩
  · have e0 : ends bs p y0 = (y0, p) := by simp [ends, h8]
    rw [e0]
    go_enter Try.func26, Try.ntmps26
    go_wp2_with fail
    go_quiet (fail)
    go_wp2
    go_ret2
    exact ⟨rfl, (Keeps.refl _ _).drewN _⟩

set_option maxHeartbeats 400000 in
theorem qfail_c (y : Int) (w : World) {c : Nat} {g : Option Nat} {bs : List UInt8} {p : Nat} {why : Int} (h : QR w c g bs p why) (hy : y ≠ 0) :
    Calls Try.prog 35 #[.pointer (some ⟨c, 0, none⟩), .int .i64 y] w fun e w' => e = .returned (.tuple #[]) ∧ QTook c g bs p (if why = 0 then y else why) w w' := by
  have H := h
  have hy2 : (y != 0) = true := by simpa using hy
  obtain ⟨v, q0, rf, y0, z0, h1, h2, rfl, h4, h5, h6, h7⟩ := h
  obtain ⟨c0, c1, c2, c3, c4, hf⟩ := cells5 h1
  by_cases hw : why = 0
  · subst hw
    have hq : q0 = p := by
      rcases h7 with ⟨_, _, h8⟩ | ⟨_, h8, _⟩
      · exact h8
      · exact absurd rfl h8
    subst hq
    go_enter Try.func35, Try.ntmps35
    go_wp2_with fail
    refine (qrefuse_c y hy q0 _ H).mono ?_
    rintro e w1 ⟨rfl, ht⟩
    go_wp2
    go_end0
    exact ⟨rfl, ht⟩
  · go_enter Try.func35, Try.ntmps35
    go_wp2_with fail
    refine (qrefuse_no y q0 _ hw H).mono ?_
    rintro e w1 ⟨rfl, rfl⟩
    go_wp2
    go_end0
    exact ⟨rfl, H, Keeps.refl _ _⟩

end Go.Proofs.Ytkbfgfpdchgjpaa
