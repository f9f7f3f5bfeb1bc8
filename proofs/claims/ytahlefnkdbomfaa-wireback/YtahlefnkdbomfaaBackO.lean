/- What the law WireBack wants of the parts that its seat does not hold whole. -/
import Derived.Test.YtahlefnkdbomfaaNmR
import Derived.Test.YtahlefnkdbomfaaQrG
import Derived.Test.YtahlefnkdbomfaaQrF
import Derived.Test.YtahlefnkdbomfaaRdM
import Derived.Test.YtahlefnkdbomfaaWrites
namespace Go.Proofs.Ytahlefnkdbomfaa
open Go Go.RowKit

theorem SSl.addr {w : World} {ao : Option Addr} {n cap : Nat} {ss : List ByteArray} (h : SSl w (.slice ao n cap) ss) (hne : ss ≠ []) : ∃ b off, ao = some ⟨b, off, none⟩ := by
  obtain ⟨ao, cap, e, _, _, h3, hc⟩ := h
  cases e
  cases ao with
  | none => exact absurd (h3 rfl).1 hne
  | some ad => obtain ⟨b, off, rfl, _⟩ := hc ad rfl hne; exact ⟨b, off, rfl⟩
set_option maxHeartbeats 800000 in
set_option maxRecDepth 100000 in
theorem texts_c (a b : Value) (ss : List ByteArray) (w : World) (ha : SSl w a ss) (hb : SSl w b ss) :
    Calls Try.prog 22 #[a, b] w fun e w' => e = .returned (.bool true) ∧ Keeps (fun _ => False) w w' := by
  have HA : Hid (SSl w a ss) := ha
  have HB : Hid (SSl w b ss) := hb
  obtain ⟨ao, ca, rfl, hca, hcm, _⟩ := ha
  obtain ⟨bo, cb, rfl, hcb, hcn, _⟩ := hb
  unfold maxLen at hcm hcn
  go_enter Try.func22, Try.ntmps22
  go_wp2
  go_loopw [5] (fun i wr => ∃ k : Nat, k ≤ ss.length ∧ i = .int .i64 k ∧ Keeps (fun _ => False) w wr) (fun i _ => ss.length - (intOf i).toNat)
  case atStart => exact ⟨0, Nat.zero_le _, rfl, Keeps.refl _ _⟩
  case round =>
    obtain ⟨k, hk, rfl, hkp⟩ := hrel
    by_cases hlt : k < ss.length
    · have hne : ss ≠ [] := by rintro rfl; simp at hlt
      have HA1 := HA.out.keep hkp (fun _ _ h => h)
      have HB1 := HB.out.keep hkp (fun _ _ h => h)
      obtain ⟨b1, o1, rfl⟩ := HA1.addr hne
      obtain ⟨b2, o2, rfl⟩ := HB1.addr hne
      have k1 := HA1.cellAt k hlt
      have k2 := HB1.cellAt k hlt
      have hi0 : (0 : Int) ≤ (k : Int) := Int.natCast_nonneg _
      have hi1 : (k : Int) < (ss.length : Int) := by omega
      clear HA1 HB1
      go_wp2_with fail
      go_quiet (fail)
      go_wp2
      go_roundw
      case rel => exact ⟨k + 1, by omega, by go_num, hkp.drewN nq⟩
      case measure => simp [intOf]; omega
    · go_wp2
      go_ret
      exact ⟨rfl, hkp⟩
theorem BSl.addr {w : World} {ao : Option Addr} {n cap : Nat} {xs : List UInt8} (h : BSl w (.slice ao n cap) xs) (hne : xs ≠ []) : ∃ b off, ao = some ⟨b, off, none⟩ := by
  obtain ⟨ao', cap', e, _, _, h3, h4⟩ := h
  cases e
  cases ao with
  | none => exact absurd (h3 rfl).1 hne
  | some ad => obtain ⟨b, off, rfl, _⟩ := h4 ad rfl hne; exact ⟨b, off, rfl⟩
set_option maxHeartbeats 400000 in
theorem newReader_d (v : Value) (xs : List UInt8) (w : World) (hv : BSl w v xs) (hl : xs.length ≤ 1000000000000) :
    Calls Try.prog 15 #[v] w fun e w' => ∃ a g, e = .returned (.pointer (some ⟨a, 0, none⟩)) ∧ WR w' a g xs 0 0 ∧ w.heap.size ≤ a ∧ (∀ k, g = some k → w.heap.size ≤ k ∧ k < w'.heap.size) ∧ Below w.heap.size w w' := by
  go_enter Try.func15, Try.ntmps15
  go_wp2_with fail
  refine (clone_c v xs _ hv (by omega)).mono ?_
  rintro e w1 ⟨v1, rfl, ho1, hb1⟩
  obtain ⟨ao, cp, rfl⟩ := ownsRow_shape ho1
  have hs := hb1.size
  go_wp2
  go_ret
  refine ⟨w1.heap.size, (Value.slice ao xs.length cp).ownBlock, rfl, ⟨_, heap_alloc_new w1 _, (BSl.ofRow ho1).alloc _, rfl, fun e => ?_, by omega, hl⟩, hs, fun k hk => ⟨(ho1.lt k hk).1, by have := (ho1.lt k hk).2; simp; omega⟩, hb1.alloc hs _⟩
  have := (ho1.lt _ e).2
  omega
end Go.Proofs.Ytahlefnkdbomfaa
