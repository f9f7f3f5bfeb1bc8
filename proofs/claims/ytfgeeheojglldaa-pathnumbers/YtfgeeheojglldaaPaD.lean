/- Where a part ends; one step; Split; Join; Clean: the program's. -/
import Derived.Test.YtfgeeheojglldaaPaC
namespace Go.Proofs.Ytfgeeheojglldaa
open Go Go.RowKit

/-- No stroke between i and j. -/
def plainTo (s : ByteArray) (i j : Nat) : Prop := ∀ b ∈ (s.data.toList.take j).drop i, b ≠ 47
theorem plainTo_refl (s : ByteArray) (i : Nat) : plainTo s i i := fun b hb => by
  rw [List.drop_of_length_le (by simp; omega)] at hb
  cases hb
theorem plainTo_succ {s : ByteArray} {i j : Nat} (h : plainTo s i j) (hij : i ≤ j) (hj : j < s.size) (hb : s[j] ≠ 47) : plainTo s i (j + 1) := by
  intro b hm
  have hk : j < s.data.toList.length := by rw [Array.length_toList]; exact hj
  rw [List.take_succ_eq_append_getElem hk, List.drop_append_of_le_length (by simp; omega)] at hm
  rcases List.mem_append.1 hm with h1 | h1
  · exact h b h1
  · rw [List.mem_singleton.1 h1, Array.getElem_toList]
    exact hb
theorem u8_ne {b : UInt8} (h : ((b.toNat : Int) == 47) = false) : b ≠ 47 := fun e => by subst e; revert h; decide
theorem u8_eq {b : UInt8} (h : ((b.toNat : Int) == 47) = true) : b = 47 := by
  have : (b.toNat : Int) = 47 := by simpa using h
  exact UInt8.toNat_inj.1 (by simp; omega)

set_option maxHeartbeats 800000 in
set_option maxRecDepth 100000 in
theorem endOfPart_c (s : ByteArray) (i : Nat) (hi : i ≤ s.size) (hs : s.size ≤ 1000000) (w : World) :
    Calls Try.prog 21 #[.string s, .int .i64 i] w fun e w' => ∃ n : Nat, e = .returned (.int .i64 n) ∧ i ≤ n ∧ n ≤ s.size ∧ plainTo s i n ∧ ((h : n < s.size) → s[n] = 47) ∧ w' = w := by
  go_enter Try.func21, Try.ntmps21
  go_wp2
  go_loop [5] (fun c => ∃ k : Nat, i ≤ k ∧ k ≤ s.size ∧ c = .int .i64 k ∧ plainTo s i k) (fun c => s.size - (intOf c).toNat)
  case atStart => exact ⟨i, Nat.le_refl _, hi, rfl, plainTo_refl s i⟩
  case round =>
    obtain ⟨k, hik, hk, rfl, hp⟩ := hrel
    have HP := hidden hp
    clear hp
    by_cases hlt : k < s.size
    · have hi1 : (k : Int) < (s.size : Int) := by omega
      cases hb : (((s[k]'hlt).toNat : Int) == 47) with
      | true =>
        have HB := hidden (u8_eq hb)
        go_wp2
        go_ret
        exact ⟨k, rfl, hik, by omega, HP.out, fun _ => HB.out, rfl⟩
      | false =>
        have HN := hidden (plainTo_succ HP.out hik hlt (u8_ne hb))
        go_wp2
        go_round
        case rel => exact ⟨k + 1, by omega, by omega, by go_num, HN.out⟩
        case measure => simp [intOf]; omega
    · have hi1 : ¬ (k : Int) < (s.size : Int) := by omega
      have HK : Hid (k = s.size) := by show _ = _; omega
      go_wp2
      go_ret
      exact ⟨s.size, rfl, hi, Nat.le_refl _, HK.out ▸ HP.out, fun h => absurd h (Nat.lt_irrefl _), rfl⟩

/-- A row without its last text. -/
theorem SOwn.init {w : World} {base : Nat} {ao : Option Addr} {n cap : Nat} {ss : List ByteArray} (h : SOwn w base (.slice ao n cap) ss) : SOwn w base (.slice ao (n - 1) cap) ss.dropLast := by
  unfold SOwn at h ⊢
  have hl := h.1
  rcases h.2 with ⟨e, h0⟩ | ⟨g, c, cur, e, h1, h2, h3, h4, h5, h6⟩
  · cases e
    have hn : ss = [] := List.eq_nil_of_length_eq_zero h0
    subst hn
    exact World.ownsRow_nil _ _ _ _
  · cases e
    refine ⟨by simp, .inr ⟨g, _, cur, by simp, h1, h2, by simp; omega, h4, h5, ?_⟩⟩
    have e2 : ss.dropLast.map Value.string = (ss.map Value.string).dropLast := by simp [List.map_dropLast]
    have h7 : cur.toList.length = cur.size := Array.length_toList
    rw [e2, ← h6, List.length_dropLast, List.dropLast_eq_take, List.take_take, List.length_take]
    congr 1
    omega
theorem SOwn.len {w : World} {base : Nat} {v : Value} {ss : List ByteArray} (h : SOwn w base v ss) : ∃ ao cap, v = .slice ao ss.length cap := by
  obtain ⟨ao, cap, e⟩ := ownsRow_shape h
  exact ⟨ao, cap, e⟩
theorem SOwn.nil (w : World) (base : Nat) : SOwn w base (.slice none 0 0) [] := World.ownsRow_nil _ _ _ _

/-- What a step answers. -/
def StepTold (w : World) (base : Nat) (o : Option (List ByteArray)) (e : Ending) (w' : World) : Prop :=
  Below base w w' ∧ match o with
    | none => e = .returned (.tuple #[.slice none 0 0, .int .i64 20])
    | some a => ∃ v', e = .returned (.tuple #[v', .int .i64 0]) ∧ SOwn w' base v' a

set_option maxHeartbeats 1600000 in
set_option maxRecDepth 100000 in
theorem step_c (v : Value) (acc : List ByteArray) (s : ByteArray) (base : Nat) (w : World) (hv : SOwn w base v acc) (hb : base ≤ w.heap.size) (hl : acc.length ≤ 1000) (hs : s.size ≤ 1000) :
    Calls Try.prog 22 #[v, .string s] w (StepTold w base (stepP acc s.data.toList)) := by
  obtain ⟨i0, hi, hz0, hz1, hz2⟩ := info_parts Try.infoStr
  obtain ⟨ao, cap, rfl⟩ := hv.len
  have HV := hidden hv
  clear hv
  cases he : s.data.toList == [] with
  | true =>
    have h1 : (s.toList == []) = true := by rw [← he]; exact str_lit s []
    have hs0 : stepP acc s.data.toList = some acc := by rw [eq_of_beq he, stepP_nil]
    rw [hs0]
    clear he hs0
    go_enter Try.func22, Try.ntmps22
    go_wp2
    go_ret2
    exact ⟨Below.refl _ _, _, rfl, HV.out⟩
  | false =>
  have h1 : (s.toList == []) = false := by rw [← he]; exact str_lit s []
  cases hd : s.data.toList == [46] with
  | true =>
    have h2 : (s.toList == [46]) = true := by rw [← hd]; exact str_lit s [46]
    have hs0 : stepP acc s.data.toList = some acc := by rw [eq_of_beq hd, stepP_dot]
    rw [hs0]
    clear he hd hs0
    go_enter Try.func22, Try.ntmps22
    go_wp2
    go_ret2
    exact ⟨Below.refl _ _, _, rfl, HV.out⟩
  | false =>
  have h2 : (s.toList == [46]) = false := by rw [← hd]; exact str_lit s [46]
  cases hu : s.data.toList == [46, 46] with
  | true =>
    have h3 : (s.toList == [46, 46]) = true := by rw [← hu]; exact str_lit s [46, 46]
    have hs0 : stepP acc s.data.toList = some acc.dropLast := by rw [eq_of_beq hu, stepP_up]
    rw [hs0]
    clear he hd hu hs0
    have HI := hidden HV.out.init
    have HC := hidden HV.out.2
    generalize hA : acc.dropLast = A at HI ⊢
    clear hA
    have hc : acc.length ≤ cap := by
      rcases HC.out with ⟨e, _⟩ | ⟨g, c, cur, e, _, _, h3, _⟩
      · injection e with e1 e2 e3; omega
      · injection e with e1 e2 e3; omega
    clear HC HV
    generalize acc.length = n at HI hc hl ⊢
    cases n with
    | zero =>
      go_enter Try.func22, Try.ntmps22
      go_wp2
      go_ret2
      exact ⟨Below.refl _ _, _, rfl, HI.out⟩
    | succ m =>
      go_enter Try.func22, Try.ntmps22
      go_wp2
      go_ret2
      exact ⟨Below.refl _ _, _, rfl, HI.out⟩
  | false =>
  have h3 : (s.toList == [46, 46]) = false := by rw [← hu]; exact str_lit s [46, 46]
  have n1 : s.data.toList ≠ [] := by simpa using he
  have n2 : s.data.toList ≠ [46] := by simpa using hd
  have n3 : s.data.toList ≠ [46, 46] := by simpa using hu
  have hs0 : stepP acc s.data.toList = if rightP s.data.toList then some (acc ++ [s]) else none := by
    simp [stepP, n1, n2, n3, tb_of]
  rw [hs0]
  clear he hd hu hs0 n1 n2 n3
  have HR := hidden (right_c s)
  cases hr : rightP s.data.toList with
  | false =>
    rw [hr] at HR
    rw [if_neg (by simp)]
    go_enter Try.func22, Try.ntmps22
    go_wp2_with fail
    refine (HR.out _).mono ?_
    rintro e w1 ⟨rfl, rfl⟩
    go_wp2
    go_ret2
    exact ⟨Below.refl _ _, rfl⟩
  | true =>
    rw [hr] at HR
    rw [if_pos rfl]
    go_enter Try.func22, Try.ntmps22
    go_wp2_with fail
    refine (HR.out _).mono ?_
    rintro e w1 ⟨rfl, rfl⟩
    go_wp2_with fail
    refine (clone_c s _ (by omega)).mono ?_
    rintro e w2 ⟨rfl, hb2⟩
    have hown : SOwn w2 base (.slice ao acc.length cap) acc := (Keeps.ofFresh (S := fun _ => False) hb2).row HV.out (fun _ _ h => h)
    have HO := hidden hown
    unfold SOwn at hown
    have HB := hidden hb2
    clear hb2
    go_wp2_with (at_builtin; refine wpList_append_src _ rfl (.tmp 22) (.tmp 25) 24 24 rfl base 9 i0 _ 16 Try.underlying24 hi hz0 hz1 hz2 rfl _ _ _ rfl (hown.alloc _) _ 1 [.string s] rfl (srcStr1 s) (by unfold maxLen; omega) (by omega) (by have := HB.out.size; simp; omega) (w2.heap.size + 1) (by simp) ?_)
    intro v' w3 hown' hgrow hnil hat
    obtain ⟨ao', cp', rfl⟩ := ownsRow_shape hown'
    have HO2 := hidden hown'
    have HG := hidden hgrow
    clear hown' hgrow hnil hat hown
    go_wp2
    go_ret2
    refine ⟨?_, _, rfl, ?_⟩
    · exact (((HB.out.mono hb).alloc (by have := HB.out.size; omega) _).grown HG.out (by have := HB.out.size; simp; omega) (fun g hg => (HO.out.lt g hg).1))
    · unfold SOwn
      rw [List.length_append, List.map_append]
      exact HO2.out
end Go.Proofs.Ytfgeeheojglldaa
