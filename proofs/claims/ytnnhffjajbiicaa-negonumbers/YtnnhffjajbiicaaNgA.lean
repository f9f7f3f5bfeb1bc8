/- Lists of names: what Choose answers, and what Few makes. -/
import Derived.Test.YtnnhffjajbiicaaKpW
import Derived.Test.YtnnhffjajbiicaaPut
namespace Go.Proofs.Ytnnhffjajbiicaa
open Go Go.RowKit

theorem str_eq (s t : ByteArray) : (s.toList == t.toList) = true ↔ s = t := by
  rw [ByteArray.toList_eq, ByteArray.toList_eq, beq_iff_eq]
  exact ⟨fun h => ByteArray.ext (Array.toList_inj.1 h), fun h => h ▸ rfl⟩
theorem str_ne {s t : ByteArray} (h : (s.toList == t.toList) = false) : s ≠ t := fun e => by rw [(str_eq s t).2 e] at h; cases h
theorem str_no {s t : ByteArray} (h : s ≠ t) : (s.toList == t.toList) = false := by
  cases e : s.toList == t.toList with
  | false => rfl
  | true => exact absurd ((str_eq s t).1 e) h
/-- Is x among them? -/
def hasB (sv : List ByteArray) (x : ByteArray) : Bool := sv.any fun y => y.toList == x.toList
theorem hasB_iff (sv : List ByteArray) (x : ByteArray) : hasB sv x = true ↔ x ∈ sv := by
  unfold hasB
  rw [List.any_eq_true]
  exact ⟨fun ⟨y, hy, h⟩ => (str_eq y x).1 h ▸ hy, fun h => ⟨x, h, by simp⟩⟩
theorem hasB_no (sv : List ByteArray) (x : ByteArray) : hasB sv x = false ↔ x ∉ sv := by
  rw [← hasB_iff]; simp
/-- The first of cl that sv has. -/
def chooseO (cl sv : List ByteArray) : Option ByteArray := cl.find? (hasB sv)
def chosenV : Option ByteArray → Value
  | some s => .tuple #[.string s, .int .i64 0]
  | none => .tuple #[.string ⟨#[]⟩, .int .i64 22]

theorem choose_some {cl sv : List ByteArray} {k : Nat} (hk : k < cl.length) (h : ∀ x ∈ cl.take k, x ∉ sv) (hs : cl[k] ∈ sv) : chooseO cl sv = some cl[k] := by
  have e : cl = cl.take k ++ cl[k] :: cl.drop (k + 1) := by simp
  unfold chooseO
  conv => lhs; rw [e]
  rw [List.find?_append, List.find?_eq_none.2 (fun x hx => by rw [(hasB_no sv x).2 (h x hx)]; simp), List.find?_cons_of_pos ((hasB_iff _ _).2 hs)]
  rfl
theorem choose_none {cl sv : List ByteArray} (h : ∀ x ∈ cl, x ∉ sv) : chooseO cl sv = none := List.find?_eq_none.2 fun x hx => by rw [(hasB_no sv x).2 (h x hx)]; simp

theorem take_next {α : Type} {l : List α} {k : Nat} (hk : k < l.length) {p : α → Prop} (h : ∀ x ∈ l.take k, p x) (hp : p l[k]) : ∀ x ∈ l.take (k + 1), p x := by
  intro x hx
  rw [List.take_succ_eq_append_getElem hk] at hx
  rcases List.mem_append.1 hx with h1 | h1
  · exact h x h1
  · rw [List.mem_singleton.1 h1]; exact hp

theorem SSl.addr' {w : World} {ao : Option Addr} {n cap : Nat} {ss : List ByteArray} (h : SSl w (.slice ao n cap) ss) (hne : ss ≠ []) : ∃ b off, ao = some ⟨b, off, none⟩ := by
  obtain ⟨ao', cap', e, _, _, h3, h4⟩ := h
  cases e
  cases ao with
  | none => exact absurd (h3 rfl).1 hne
  | some ad => obtain ⟨b, off, rfl, _⟩ := h4 ad rfl hne; exact ⟨b, off, rfl⟩

set_option maxHeartbeats 1600000 in
set_option maxRecDepth 100000 in
theorem choose_c (a b : Value) (cl sv : List ByteArray) (w : World) (ha : SSl w a cl) (hb : SSl w b sv) :
    Calls Try.prog 25 #[a, b] w fun e w' => e = .returned (chosenV (chooseO cl sv)) ∧ w' = w := by
  have HA : Hid (SSl w a cl) := ha
  have HB : Hid (SSl w b sv) := hb
  obtain ⟨ao, ca, rfl, hca, hcm, _⟩ := ha
  obtain ⟨bo, cb, rfl, hcb, hcn, _⟩ := hb
  unfold maxLen at hcm hcn
  have H1 : Hid (∀ k, (hk : k < cl.length) → (∀ x ∈ cl.take k, x ∉ sv) → cl[k] ∈ sv → chooseO cl sv = some cl[k]) := fun k hk => choose_some hk
  have H2 : Hid ((∀ x ∈ cl, x ∉ sv) → chooseO cl sv = none) := choose_none
  generalize chooseO cl sv = R at H1 H2 ⊢
  go_enter Try.func25, Try.ntmps25
  go_wp2
  go_loop [12] (fun i => ∃ k : Nat, k ≤ cl.length ∧ i = .int .i64 k ∧ ∀ x ∈ cl.take k, x ∉ sv) (fun i => cl.length - (intOf i).toNat)
  case atStart => exact ⟨0, Nat.zero_le _, rfl, by simp⟩
  case round =>
    obtain ⟨k, hk, rfl, hno⟩ := hrel
    have HN : Hid (∀ x ∈ cl.take k, x ∉ sv) := hno
    clear hno
    by_cases hlt : k < cl.length
    · have hne : cl ≠ [] := by rintro rfl; simp at hlt
      obtain ⟨b1, o1, rfl⟩ := HA.out.addr' hne
      have k1 := HA.out.cellAt k hlt
      have hi1 : (k : Int) < (cl.length : Int) := by omega
      have HX : Hid (∀ x ∈ cl.take k, x ∉ sv) := HN.out
      have HS : Hid (cl[k] ∈ sv → R = some cl[k]) := H1.out k hlt HN.out
      have HT : Hid (cl[k] ∉ sv → ∀ x ∈ cl.take (k + 1), x ∉ sv) := fun h => take_next hlt HN.out h
      generalize cl[k] = s at k1 HS HT
      go_wp2
      go_loop [18] (fun i => ∃ j : Nat, j ≤ sv.length ∧ i = .int .i64 j ∧ ∀ y ∈ sv.take j, s ≠ y) (fun i => sv.length - (intOf i).toNat)
      case atStart => exact ⟨0, Nat.zero_le _, rfl, by simp⟩
      case round =>
        obtain ⟨j, hj, rfl, hnj⟩ := hrel
        have HJ : Hid (∀ y ∈ sv.take j, s ≠ y) := hnj
        clear hnj
        by_cases hjl : j < sv.length
        · have hne2 : sv ≠ [] := by rintro rfl; simp at hjl
          obtain ⟨b2, o2, rfl⟩ := HB.out.addr' hne2
          have k2 := HB.out.cellAt j hjl
          have hj1 : (j : Int) < (sv.length : Int) := by omega
          have HM : Hid (s = sv[j] → s ∈ sv) := fun h => h ▸ List.getElem_mem hjl
          have HJ2 : Hid (s ≠ sv[j] → ∀ y ∈ sv.take (j + 1), s ≠ y) := fun h => take_next hjl HJ.out h
          generalize sv[j] = t at k2 HM HJ2
          go_wp2
          · rename_i hq _
            have he := HS.out (HM.out ((str_eq s t).1 hq))
            subst he
            go_ret2
            exact ⟨rfl, rfl⟩
          · rename_i hq
            go_round
            case rel => exact ⟨j + 1, by omega, by go_num, HJ2.out (str_ne hq)⟩
            case measure => simp [intOf]; omega
        · have hj1 : ¬ (j : Int) < (sv.length : Int) := by omega
          have HF : Hid (s ∉ sv) := fun h => by
            have hj2 : j = sv.length := by omega
            have := HJ.out
            rw [hj2, List.take_length] at this
            exact this s h rfl
          go_wp2
          go_round
          case rel => exact ⟨k + 1, by omega, by go_num, HT.out HF.out⟩
          case measure => simp [intOf]; omega
    · have hi1 : ¬ (k : Int) < (cl.length : Int) := by omega
      have he : R = none := H2.out (by
        have hk2 : k = cl.length := by omega
        have := HN.out
        rwa [hk2, List.take_length] at this)
      subst he
      go_wp2
      go_ret2
      exact ⟨rfl, rfl⟩

/-- What Few makes: so many texts, none too long. -/
def fewL (l : List ByteArray) (n m : Nat) : List ByteArray := (l.take n).map fun s => s.extract 0 m
theorem fewL_length (l : List ByteArray) (n m : Nat) : (fewL l n m).length ≤ n := by simp [fewL]; omega
theorem fewL_size {l : List ByteArray} {n m : Nat} {s : ByteArray} (h : s ∈ fewL l n m) : s.size ≤ m := by
  obtain ⟨x, _, rfl⟩ := List.mem_map.1 h
  simp
  omega
end Go.Proofs.Ytnnhffjajbiicaa
