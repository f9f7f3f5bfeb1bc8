/- Lists of names: what Choose answers, and what Few makes. -/
import Derived.Test.YtpildjijaigmfaaKpW
import Derived.Test.YtpildjijaigmfaaPut
namespace Go.Proofs.Ytpildjijaigmfaa
open Go Go.RowKit

theorem str_eq (s t : ByteArray) : (s.toList == t.toList) = true ↔ s = t := by
  rw [ByteArray.toList_eq, ByteArray.toList_eq, beq_iff_eq]
  exact ⟨fun h => ByteArray.ext (Array.toList_inj.1 h), fun h => h ▸ rfl⟩
theorem str_ne {s t : ByteArray} (h : (s.toList == t.toList) = false) : s ≠ t := fun e => by rw [(str_eq s t).2 e] at h; cases h
theorem str_no {s t : ByteArray} (h : s ≠ t) : (s.toList == t.toList) = false := by
  cases e : s.toList == t.toList with
  | false => rfl
  | true => exact absurd ((str_eq s t).1 e) h
/-- Is x among them? -/
def hasB (sv : List ByteArray) (x : ByteArray) : Bool := sv.any fun y => y.toList == x.toList
theorem hasB_iff (sv : List ByteArray) (x : ByteArray) : hasB sv x = true ↔ x ∈ sv := by
  unfold hasB
  rw [List.any_eq_true]
  exact ⟨fun ⟨y, hy, h⟩ => (str_eq y x).1 h ▸ hy, fun h => ⟨x, h, by simp⟩⟩
theorem hasB_no (sv : List ByteArray) (x : ByteArray) : hasB sv x = false ↔ x ∉ sv := by
  rw [← hasB_iff]; simp
/-- The first of cl that sv has. -/
def chooseO (cl sv : List ByteArray) : Option ByteArray := cl.find? (hasB sv)
def chosenV : Option ByteArray → Value
  | some s => .tuple #[.string s, .int .i64 0]
  | none => .tuple #[.string ⟨#[]⟩, .int .i64 22]

theorem choose_some {cl sv : List ByteArray} {k : Nat} (hk : k < cl.length) (h : ∀ x ∈ cl.take k, x ∉ sv) (hs : cl[k] ∈ sv) : chooseO cl sv = some cl[k] := by
  have e : cl = cl.take k ++ cl[k] :: cl.drop (k + 1) := by simp
  unfold chooseO
  conv => lhs; rw [e]
  rw [List.find?_append, List.find?_eq_none.2 (fun x hx => by rw [(hasB_no sv x).2 (h x hx)]; simp), List.find?_cons_of_pos ((hasB_iff _ _).2 hs)]
  rfl
theorem choose_none {cl sv : List ByteArray} (h : ∀ x ∈ cl, x ∉ sv) : chooseO cl sv = none := List.find?_eq_none.2 fun x hx => by rw [(hasB_no sv x).2 (h x hx)]; simp

theorem take_next {α : Type} {l : List α} {k : Nat} (hk : k < l.length) {p : α → Prop} (h : ∀ x ∈ l.take k, p x) (hp : p l[k]) : ∀ x ∈ l.take (k + 1), p x := by
  intro x hx
  rw [List.take_succ_eq_append_getElem hk] at hx
  rcases List.mem_append.1 hx with h1 | h1
  · exact h x h1
  · rw [List.mem_singleton.1 h1]; exact hp

theorem SSl.addr' {w : World} {ao : Option Addr} {n cap : Nat} {ss : List ByteArray} (h : SSl w (.slice ao n cap) ss) (hne : ss ≠ []) : ∃ b off, ao = some ⟨b, off, none⟩ := by
  obtain ⟨ao', cap', e, _, _, h3, h4⟩ := h
  cases e
  cases ao with
  | none => exact absurd (h3 rfl).1 hne
  | some ad => obtain ⟨b, off, rfl, _⟩ := h4 ad rfl hne; exact ⟨b, off, rfl⟩


/-- What Few makes: so many texts, none too long. -/
def fewL (l : List ByteArray) (n m : Nat) : List ByteArray := (l.take n).map fun s => s.extract 0 m
theorem fewL_length (l : List ByteArray) (n m : Nat) : (fewL l n m).length ≤ n := by simp [fewL]; omega
theorem fewL_size {l : List ByteArray} {n m : Nat} {s : ByteArray} (h : s ∈ fewL l n m) : s.size ≤ m := by
  obtain ⟨x, _, rfl⟩ := List.mem_map.1 h
  simp
  omega
end Go.Proofs.Ytpildjijaigmfaa
