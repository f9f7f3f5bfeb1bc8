/- What same and knows tell. -/
import Derived.Test.YtpildjijaigmfaaAuA
namespace Go.Proofs.Ytpildjijaigmfaa
open Go Go.RowKit

theorem obyte (a b : UInt8) : bits BinOp.or IntKind.u8 (a.toNat : Int) (b.toNat : Int) = ((a ||| b).toNat : Int) := by
  rw [u8_or_nat _ _ (UInt8.toNat_lt _) (UInt8.toNat_lt _), UInt8.toNat_or]
theorem take_same {x y : ByteArray} {k : Nat} (hx : k < x.size) (hy : k < y.size) : x.data.toList.take (k + 1) = y.data.toList.take (k + 1) ↔ x.data.toList.take k = y.data.toList.take k ∧ x[k] = y[k] := by
  have h1 : k < x.data.toList.length := by rw [Array.length_toList]; exact hx
  have h2 : k < y.data.toList.length := by rw [Array.length_toList]; exact hy
  rw [List.take_succ_eq_append_getElem h1, List.take_succ_eq_append_getElem h2]
  constructor
  · intro h
    have := List.append_inj h (by simp; omega)
    exact ⟨this.1, (by simpa using this.2 : x.data[k] = y.data[k])⟩
  · rintro ⟨h3, h4⟩
    rw [h3]
    congr 2

set_option maxHeartbeats 1600000 in
set_option maxRecDepth 100000 in
theorem same_c (x y : ByteArray) (hx : x.size ≤ 1000000) (hy : y.size ≤ 1000000) (w : World) :
    Calls Try.prog 70 #[.string x, .string y] w fun e w' => e = .returned (.bool (decide (x = y))) ∧ Keeps (fun _ => False) w w' := by
  by_cases hl : x.size = y.size
  · have hl1 : ((x.size : Int) != (y.size : Int)) = false := by simp; omega
    have HL := hidden hl
    clear hl
    go_enter Try.func70, Try.ntmps70
    go_wp2_with fail
    go_loopw [5, 14] (fun d i wr => ∃ (k : Nat) (z : UInt8), k ≤ x.size ∧ i = .int .i64 k ∧ d = .int .u8 z.toNat ∧ (z = 0 ↔ x.data.toList.take k = y.data.toList.take k) ∧ Keeps (fun _ => False) w wr) (fun _ i _ => x.size - (intOf i).toNat)
    case atStart => exact ⟨0, 0, Nat.zero_le _, rfl, rfl, by simp, Keeps.refl _ _⟩
    case round =>
      obtain ⟨k, z, hk, rfl, rfl, hz, hkp⟩ := hrel
      have HZ := hidden hz
      have HK := hidden hkp
      clear hz hkp
      by_cases hlt : k < x.size
      · have hlty : k < y.size := by have := HL.out; omega
        have h1 : (k : Int) < (x.size : Int) := by omega
        have h2 : (k : Int) < (y.size : Int) := by omega
        have HN : Hid ((z ||| ((x[k]'hlt) ^^^ (y[k]'hlty)) = 0) ↔ x.data.toList.take (k + 1) = y.data.toList.take (k + 1)) := by
          show _ ↔ _
          rw [take_same hlt hlty, UInt8.or_eq_zero_iff, UInt8.xor_eq_zero_iff, HZ.out]
        go_wp2_with fail
        go_quiet (fail)
        go_wp2_with fail
        go_roundw
        case rel => exact ⟨k + 1, _, by omega, by go_num, by rw [xbyte, obyte], HN.out, HK.out.drewN nq⟩
        case measure => simp [intOf]; omega
      · have h1 : ¬ (k : Int) < (x.size : Int) := by omega
        have hke : k = x.size := by omega
        have HE : Hid (decide (x = y) = ((z.toNat : Int) == 0)) := by
          have h3 := HZ.out
          rw [List.take_of_length_le (by rw [Array.length_toList, hke]; exact Nat.le_refl _), List.take_of_length_le (by rw [Array.length_toList, hke, HL.out]; exact Nat.le_refl _)] at h3
          have h4 : x = y ↔ x.data.toList = y.data.toList := ⟨fun e => by rw [e], fun e => by cases x; cases y; simp at e; rw [e]⟩
          have h5 : ((z.toNat : Int) == 0) = true ↔ z = 0 := by
            simp
            exact ⟨fun h => UInt8.toNat_inj.1 h, fun h => by rw [h]; rfl⟩
          show _ = _
          rw [Bool.eq_iff_iff, h5, decide_eq_true_iff, h4, h3]
        go_wp2_with fail
        go_ret
        exact ⟨by rw [HE.out]; rfl, HK.out⟩
  · have hl1 : ((x.size : Int) != (y.size : Int)) = true := by simp; omega
    have HN : Hid (decide (x = y) = false) := by
      show _ = _
      simp
      rintro rfl
      exact hl rfl
    clear hl
    go_enter Try.func70, Try.ntmps70
    go_wp2_with fail
    go_ret
    exact ⟨by rw [HN.out]; rfl, Keeps.refl _ _⟩

/-- Where a Gate stands: how far it has come, who is in, tries that were wrong, whether it is dead. -/
structure GS where
  st : Nat
  nm : ByteArray
  tr : Nat
  gone : Bool
/-- The Gate at block a lets the users U in, and stands at s. -/
def GW (w : World) (a : Nat) (U : List Usr) (s : GS) : Prop :=
  ∃ v, w.heap[a]? = some (.cells #[v, .int .i64 s.st, .string s.nm, .int .i64 s.tr, .bool s.gone] 61 (0, 0)) ∧ USl w v U ∧ (∀ k, v.ownBlock = some k → k < a) ∧ s.st ≤ 2 ∧ s.tr ≤ 5
structure UB (U : List Usr) : Prop where
  few : U.length ≤ 5
  each : ∀ u ∈ U, u.1.size ≤ 66 ∧ u.2.size ≤ 66
def knowsB (U : List Usr) (n p : ByteArray) : Bool := U.any fun u => decide (u.1 = n) && decide (u.2 = p)
theorem knowsB_next (U : List Usr) (n p : ByteArray) (k : Nat) (hk : k < U.length) : knowsB (U.take (k + 1)) n p = (knowsB (U.take k) n p || (decide ((U[k]).1 = n) && decide ((U[k]).2 = p))) := by
  simp only [knowsB, List.take_succ_eq_append_getElem hk, List.any_append, List.any_cons, List.any_nil, Bool.or_false]
theorem GW.lt {w : World} {a : Nat} {U : List Usr} {s : GS} (h : GW w a U s) : a < w.heap.size := by
  obtain ⟨v, h1, _⟩ := h
  exact lt_of_block h1
theorem GW.keep {S : Nat → Prop} {w w' : World} {a : Nat} {U : List Usr} {s : GS} (h : GW w a U s) (hk : Keeps S w w') (hS : ∀ k, k ≤ a → ¬ S k) : GW w' a U s := by
  have hlt := h.lt
  obtain ⟨v, h1, h2, h3, h4, h5⟩ := h
  exact ⟨v, (hk.block a hlt (hS a (Nat.le_refl _))).trans h1, h2.keep hk (fun k e => hS k (Nat.le_of_lt (h3 k e))), h3, h4, h5⟩
theorem GW.still {w w' : World} {a : Nat} {U : List Usr} {s : GS} (h : GW w a U s) (hk : Keeps (fun _ => False) w w') : GW w' a U s := h.keep hk (fun _ _ h => h)
theorem GW.fresh {w w' : World} {a : Nat} {U : List Usr} {s : GS} (h : GW w a U s) (hb : Below w.heap.size w w') : GW w' a U s := h.still (Keeps.ofFresh hb)
theorem str_dec (s t : ByteArray) : (s.toList == t.toList) = decide (s = t) := by rw [Bool.eq_iff_iff, str_eq, decide_eq_true_iff]

set_option maxHeartbeats 1600000 in
set_option maxRecDepth 100000 in
theorem knows_c (n p : ByteArray) (hp : p.size ≤ 64) (w : World) {a : Nat} {U : List Usr} {s : GS} (hU : UB U) (h : GW w a U s) :
    Calls Try.prog 60 #[.pointer (some ⟨a, 0, none⟩), .string n, .string p] w fun e w' => e = .returned (.bool (knowsB U n p)) ∧ Below w.heap.size w w' := by
  obtain ⟨v, h1, h2, h3, h4, h5⟩ := h
  have c0 := cell_of_row w a 0 _ _ _ h1
  simp at c0
  have HV := hidden h2
  have HUB := hidden hU
  obtain ⟨ao, cap, rfl, hca, hcm, _⟩ := id h2
  have hfew := hU.few
  clear h1 h2 h3 h4 h5 hU
  go_enter Try.func60, Try.ntmps60
  go_wp2_with fail
  go_loopw [7, 16] (fun d i wr => ∃ (k : Nat), k ≤ U.length ∧ i = .int .i64 k ∧ d = .bool (knowsB (U.take k) n p) ∧ Below w.heap.size w wr) (fun _ i _ => U.length - (intOf i).toNat)
  case atStart => exact ⟨0, Nat.zero_le _, rfl, rfl, Below.refl _ _⟩
  case round =>
    obtain ⟨k, hk, rfl, rfl, hb⟩ := hrel
    have HB := hidden hb
    clear hb c0
    by_cases hlt : k < U.length
    · have i1 : (k : Int) < (U.length : Int) := by omega
      obtain ⟨b, o, rfl, k1, k2⟩ := (HV.out.fresh HB.out).at k hlt
      have HN := hidden (knowsB_next U n p k hlt)
      have hsz := HUB.out.each U[k] (List.getElem_mem hlt)
      generalize U[k] = u at k1 k2 HN hsz
      obtain ⟨un, up⟩ := u
      dsimp only at k1 k2 HN hsz
      generalize knowsB (U.take k) n p = kb at HN ⊢
      obtain ⟨hs1, hs2⟩ := hsz
      go_wp2_with fail
      refine (same_c up p (by omega) (by omega) _).mono ?_
      rintro e w2 ⟨rfl, hk2⟩
      have hbl : w2.heap[wr.heap.size]? = some (.cells #[.string un, .string up] 23 (0, 0)) := (hk2.block _ (by simp) (fun h => h)).trans (heap_alloc_new wr _)
      have c0 := cell_of_row w2 _ 0 _ _ _ hbl
      simp at c0
      have HB2 := hidden ((HB.out.alloc HB.out.size (.cells #[.string un, .string up] 23)).trans (Keeps.below hk2 (by have := HB.out.size; simp; omega) (fun _ h => h.elim)))
      clear hk2 hbl k1 k2
      generalize hdp : decide (up = p) = dp at HN ⊢
      clear hdp
      cases hd : decide (un = n)
      · have hst : (un.toList == n.toList) = false := by rw [str_dec]; exact hd
        rw [hd] at HN
        have HN2 : Hid (knowsB (U.take (k + 1)) n p = kb) := by have := HN.out; exact hidden (by simpa using this)
        clear hd HN
        go_wp2_with fail
        go_roundw
        case rel => exact ⟨k + 1, by omega, by go_num, by rw [HN2.out], HB2.out⟩
        case measure => simp [intOf]; omega
      · have hst : (un.toList == n.toList) = true := by rw [str_dec]; exact hd
        rw [hd] at HN
        have HN2 : Hid (knowsB (U.take (k + 1)) n p = (kb || dp)) := by have := HN.out; exact hidden (by simpa using this)
        clear hd HN
        cases dp
        · have HN3 : Hid (knowsB (U.take (k + 1)) n p = kb) := by have := HN2.out; exact hidden (by simpa using this)
          clear HN2
          go_wp2_with fail
          go_roundw
          case rel => exact ⟨k + 1, by omega, by go_num, by rw [HN3.out], HB2.out⟩
          case measure => simp [intOf]; omega
        · have HN3 : Hid (knowsB (U.take (k + 1)) n p = true) := by have := HN2.out; exact hidden (by simpa using this)
          clear HN2
          go_wp2_with fail
          go_roundw
          case rel => exact ⟨k + 1, by omega, by go_num, by rw [HN3.out], HB2.out⟩
          case measure => simp [intOf]; omega
    · have i1 : ¬ (k : Int) < (U.length : Int) := by omega
      have HE : Hid (knowsB (U.take k) n p = knowsB U n p) := by show _ = _; rw [List.take_of_length_le (by omega)]
      go_wp2_with fail
      go_ret
      exact ⟨by rw [← HE.out]; rfl, HB.out⟩

end Go.Proofs.Ytpildjijaigmfaa
