/- Where a line ends: what Version answers. -/
import Derived.Test.YtnnhffjajbiicaaNgC
import Derived.Deep.QuietTactic
import Derived.BigQuiet
namespace Go.Proofs.Ytnnhffjajbiicaa
open Go Go.RowKit

abbrev Still (w w' : World) : Prop := Keeps (fun _ => False) w w'

/-- Does a line end at i? -/
def atB (b : List UInt8) (i : Nat) : Bool := decide (i + 1 < b.length) && (b.getD i 0 == 13) && (b.getD (i + 1) 0 == 10)
def endAt (b : List UInt8) : Option Nat := (List.range b.length).find? (atB b)
/-- What Version answers: the version, where its line ends, and the refusal. -/
def versionT (b : List UInt8) : ByteArray × Nat × Int :=
  match endAt (b.take 255) with
  | some k => if rightV ⟨(b.take k).toArray⟩ then (⟨(b.take k).toArray⟩, k + 2, 0) else (⟨#[]⟩, 0, 12)
  | none => if 255 ≤ b.length then (⟨#[]⟩, 0, 3) else (⟨#[]⟩, 0, 10)
def versionV (t : ByteArray × Nat × Int) : Value := .tuple #[.string t.1, .int .i64 (t.2.1 : Int), .int .i64 t.2.2]

theorem endAt_some {b : List UInt8} {k : Nat} (h : atB b k = true) (hn : ∀ i, i < k → atB b i = false) : endAt b = some k := by
  have hk : k < b.length := by simp [atB] at h; omega
  unfold endAt
  rw [List.find?_range_eq_some]
  exact ⟨h, List.mem_range.2 hk, fun j hj => by rw [hn j hj]; rfl⟩
theorem endAt_none {b : List UInt8} (hn : ∀ i, i < b.length → atB b i = false) : endAt b = none := by
  unfold endAt
  rw [List.find?_eq_none]
  intro x hx
  rw [hn x (List.mem_range.1 hx)]
  simp

theorem byte_is (x : UInt8) (n : Nat) (hn : n < 256) : ((x.toNat : Int) == (n : Int)) = (x == UInt8.ofNat n) := by
  rw [Bool.eq_iff_iff, beq_iff_eq, beq_iff_eq]
  constructor
  · intro h
    apply UInt8.toNat.inj
    simp
    omega
  · rintro rfl
    simp
    omega

set_option maxHeartbeats 1600000 in
theorem endsLine_c (b : Nat) (off n cap : Nat) (xs : List UInt8) (hn : xs.length = n) (hp : 0 < n) (w : World) (h0 : w.cell? ⟨b, off, none⟩ = some (.int .u8 ((xs.getD 0 0).toNat))) (h1 : 1 < n → w.cell? ⟨b, off + 1, none⟩ = some (.int .u8 ((xs.getD 1 0).toNat))) :
    Calls Try.prog 34 #[.slice (some ⟨b, off, none⟩) n cap] w fun e w' => e = .returned (.bool (atB xs 0)) ∧ Still w w' := by
  have b13 := byte_is (xs.getD 0 0) 13 (by omega)
  have b10 := byte_is (xs.getD 1 0) 10 (by omega)
  have HD : Hid (atB xs 0 = (decide (0 + 1 < xs.length) && (xs.getD 0 0 == 13) && (xs.getD 1 0 == 10))) := rfl
  rw [hn] at HD
  change ((_ : Int) == (13 : Int)) = _ at b13
  change ((_ : Int) == (10 : Int)) = _ at b10
  have c13 : ((({ data := #[13, 10] } : ByteArray)[0]'(by decide)).toNat : Int) = 13 := rfl
  have c10 : ((({ data := #[13, 10] } : ByteArray)[1]'(by decide)).toNat : Int) = 10 := rfl
  generalize atB xs 0 = R at HD ⊢
  generalize xs.getD 0 0 = x at *
  generalize xs.getD 1 0 = y at *
  clear hn
  by_cases h2 : 2 ≤ n
  · have hd : decide ((2 : Int) ≤ (n : Int)) = true := by simp; omega
    have h3 : (1 : Int) < (n : Int) := by omega
    have h4 : (0 : Int) < (n : Int) := by omega
    have k1 := h1 (by omega)
    have e2 : decide (0 + 1 < n) = true := by simp; omega
    rw [e2, Bool.true_and] at HD
    cases e : x == 13 with
    | false =>
      obtain rfl : R = false := by rw [HD.out, e]; rfl
      change _ = (x == 13) at b13
      rw [e] at b13
      clear HD b10 h1
      go_enter Try.func34, Try.ntmps34
      go_wp2_with fail
      go_quiet (fail)
      go_wp2
      go_ret
      exact ⟨rfl, (Keeps.refl _ _).drewN nq⟩
    | true =>
      rw [e, Bool.true_and] at HD
      change _ = (x == 13) at b13
      change _ = (y == 10) at b10
      rw [e] at b13
      cases e' : y == 10 with
      | false =>
        obtain rfl : R = false := by rw [HD.out]; exact e'
        rw [e'] at b10
        clear HD h1
        go_enter Try.func34, Try.ntmps34
        go_wp2_with fail
        go_quiet (fail)
        go_wp2
        go_ret
        exact ⟨rfl, (Keeps.refl _ _).drewN nq⟩
      | true =>
        obtain rfl : R = true := by rw [HD.out]; exact e'
        rw [e'] at b10
        clear HD h1
        go_enter Try.func34, Try.ntmps34
        go_wp2_with fail
        go_quiet (fail)
        go_wp2
        go_ret
        exact ⟨rfl, (Keeps.refl _ _).drewN nq⟩
  · have hd : decide ((2 : Int) ≤ (n : Int)) = false := by simp; omega
    have e2 : decide (0 + 1 < n) = false := by simp; omega
    obtain rfl : R = false := by rw [HD.out, e2]; rfl
    clear HD b10 b13 h1
    go_enter Try.func34, Try.ntmps34
    go_wp2_with fail
    go_quiet (fail)
    go_wp2
    go_ret
    exact ⟨rfl, (Keeps.refl _ _).drewN nq⟩

theorem take_take255 (b : List UInt8) {k : Nat} (h : k ≤ (b.take 255).length) : (b.take 255).take k = b.take k := by
  rw [List.take_take, Nat.min_eq_left]
  simp at h
  omega
theorem atB_drop (b : List UInt8) (k : Nat) : atB (b.drop k) 0 = atB b k := by
  unfold atB
  simp only [List.length_drop, List.getD_eq_getElem?_getD, List.getElem?_drop, Nat.add_zero, Nat.zero_add]
  congr 2
  rw [decide_eq_decide]
  omega

theorem BSl.head'' {w : World} {ao : Option Addr} {n cap m : Nat} {bs : List UInt8} (h : BSl w (.slice ao n cap) bs) (hm : m ≤ n) : BSl w (.slice ao m cap) (bs.take m) := by
  have hl : bs.length = n := by obtain ⟨ao', c', e, _⟩ := h; cases e; rfl
  subst hl
  exact h.head' hm

set_option maxHeartbeats 3200000 in
set_option maxRecDepth 100000 in
theorem version_c (v : Value) (b : List UInt8) (w : World) (hv : BSl w v b) :
    Calls Try.prog 11 #[v] w fun e w' => e = .returned (versionV (versionT b)) ∧ Still w w' := by
  have HS : Hid (∀ k, atB (b.take 255) k = true → (∀ i, i < k → atB (b.take 255) i = false) → versionT b = if rightV ⟨(b.take k).toArray⟩ then (⟨(b.take k).toArray⟩, k + 2, 0) else (⟨#[]⟩, 0, 12)) := fun k h1 h2 => by unfold versionT; rw [endAt_some h1 h2]
  have HN : Hid ((∀ i, i < (b.take 255).length → atB (b.take 255) i = false) → versionT b = if 255 ≤ b.length then (⟨#[]⟩, 0, 3) else (⟨#[]⟩, 0, 10)) := fun h => by unfold versionT; rw [endAt_none h]
  generalize versionT b = R at HS HN ⊢
  have HT : Hid (∀ k, k ≤ (b.take 255).length → (b.take 255).take k = b.take k) := fun k => take_take255 b
  obtain ⟨n, hn⟩ : ∃ n, n = (b.take 255).length := ⟨_, rfl⟩
  have hn2 : n = min 255 b.length := by rw [hn, List.length_take]
  have hmin : min (b.length : Int) 255 = (n : Int) := by omega
  have hmax : max (n : Int) 0 = (n : Int) := by omega
  have hnb : n ≤ 255 := by omega
  have HL : Hid (255 ≤ b.length ↔ n = 255) := by show _ ↔ _; omega
  have HV := hidden hv
  obtain ⟨ao, cap, rfl, hc1, hc2, hc3, hc4⟩ := hv
  clear hc3 hc4
  have HV2 := hidden (HV.out.head' (n := n) (by omega))
  have HC : Hid (b.take n = b.take 255) := by
    show _ = _
    rw [hn2]
    by_cases h : 255 ≤ b.length
    · rw [Nat.min_eq_left h]
    · rw [Nat.min_eq_right (by omega), List.take_of_length_le (Nat.le_refl _), List.take_of_length_le (by omega)]
  rw [HC.out] at HV2
  rw [← hn] at HN HT
  have HNN := hidden hn.symm
  unfold maxLen at hc2
  have hc3 : n ≤ cap := by omega
  have hc3' : (n : Int) ≤ (cap : Int) := by omega
  generalize b.take 255 = c at HS HN HT HV2 HNN
  clear hn hn2 HC HV
  go_enter Try.func11, Try.ntmps11
  go_wp2
  go_loopw [14] (fun i wr => ∃ k : Nat, k ≤ n ∧ i = .int .i64 k ∧ (∀ i, i < k → atB c i = false) ∧ Still w wr) (fun i _ => n - (intOf i).toNat)
  case atStart => exact ⟨0, Nat.zero_le _, rfl, (fun i h => by omega), Keeps.refl _ _⟩
  case round =>
    obtain ⟨k, hk, rfl, hno, hst⟩ := hrel
    have HNO := hidden hno
    have HST := hidden hst
    clear hno hst
    by_cases hlt : k < n
    · have hi1 : (k : Int) < (n : Int) := by omega
      have hne : c ≠ [] := by rintro rfl; have := HNN.out; simp at this; omega
      have hv3 := HV2.out.keep HST.out (fun _ _ h => h)
      obtain ⟨bb, off, rfl⟩ := hv3.addr hne
      have hv4 := hv3.dropS (k := k) (by omega)
      have hcap : ¬ cap = k := by omega
      have hk3 : (k : Int) ≤ (cap : Int) := by omega
      have hd0 : 0 < n - k := by omega
      have hl : (c.drop k).length = n - k := by rw [List.length_drop, HNN.out]
      have k0 := hv4.cellD 0 (by omega)
      rw [Nat.add_zero] at k0
      have k1 : 1 < n - k → _ := fun h => hv4.cellD 1 (by omega)
      have HAB := hidden (atB_drop c k)
      have HA1 := hidden (HS.out k)
      have HNX : Hid (atB c k = false → ∀ i, i < k + 1 → atB c i = false) := fun h i hi => by
        by_cases e : i = k
        · rw [e]; exact h
        · exact HNO.out i (by omega)
      go_wp2_with fail
      refine (endsLine_c bb (off + k) (n - k) (cap - k) (c.drop k) hl hd0 _ k0 k1).mono ?_
      rintro e w1 ⟨rfl, hs1⟩
      rw [HAB.out]
      have HST1 : Hid (Still w w1) := HST.out.trans hs1
      have hv5 := (HV2.out.keep HST1.out (fun _ _ h => h)).head'' (m := k) (by omega)
      clear k0 k1 hv3 hv4 hl
      cases hat : atB c k with
      | false =>
        go_wp2
        go_roundw
        case rel => exact ⟨k + 1, by omega, by go_num, HNX.out hat, HST1.out⟩
        case measure => simp [intOf]; omega
      | true =>
        have hR := HA1.out hat HNO.out
        have hrs := run_string hv5
        rw [HT.out k (by omega)] at hrs
        have hsz : (⟨(b.take k).toArray⟩ : ByteArray).size ≤ 140737488355328 := by rw [size_list, List.length_take]; omega
        generalize (⟨(b.take k).toArray⟩ : ByteArray) = s at hR hrs hsz
        clear hv5 HV2 HS HN HT HNX HA1
        go_wp2_with fail
        refine (rightVersion_c s _ hsz).mono ?_
        rintro e w2 ⟨rfl, rfl⟩
        cases hrv : rightV s with
        | false =>
          rw [hrv] at hR
          simp only [Bool.false_eq_true, if_false] at hR
          subst hR
          go_wp2
          go_ret3
          exact ⟨rfl, HST1.out⟩
        | true =>
          rw [hrv] at hR
          simp only [if_true] at hR
          subst hR
          go_wp2
          go_ret3
          exact ⟨by simp [versionV], HST1.out⟩
    · have hi1 : ¬ (k : Int) < (n : Int) := by omega
      have hR := HN.out (fun i hi => HNO.out i (by omega))
      by_cases hb : n = 255
      · rw [if_pos (HL.out.2 hb)] at hR
        subst hR
        have hq : ((n : Int) == 255) = true := by rw [hb]; rfl
        clear hb
        go_wp2
        go_ret3
        exact ⟨rfl, HST.out⟩
      · rw [if_neg (fun h => hb (HL.out.1 h))] at hR
        subst hR
        have hq : ((n : Int) == 255) = false := by rw [beq_eq_false_iff_ne]; omega
        go_wp2
        go_ret3
        exact ⟨rfl, HST.out⟩
end Go.Proofs.Ytnnhffjajbiicaa
