/- The walk of the law WireWrites. -/
import Derived.Test.YtahlefnkdbomfaaPutD
import Derived.Deep.RegionWith
namespace Go.Proofs.Ytahlefnkdbomfaa
open Go Go.RowKit

/-- A part, as data. -/
structure PartD where
  k : Int
  n : Int
  s : ByteArray
  l : Value
  ss : List ByteArray

/-- The slice value v reads as the parts ps in w. -/
def PSl (w : World) (v : Value) (ps : List PartD) : Prop :=
  ∃ ao cap, v = .slice ao ps.length cap ∧ ps.length ≤ cap ∧ cap ≤ maxLen ∧ (ao = none → ps = [] ∧ cap = 0) ∧ (∀ p ∈ ps, 0 ≤ p.n ∧ p.n < 18446744073709551616 ∧ SSl w p.l p.ss) ∧
    ∀ ad, ao = some ad → ps ≠ [] → ∃ b off, ad = ⟨b, off, none⟩ ∧ ∀ (i : Nat) p, ps[i]? = some p → w.cell? ⟨b, off + i * 4, none⟩ = some (.int .i64 p.k) ∧ w.cell? ⟨b, off + i * 4 + 1, none⟩ = some (.int .u64 p.n) ∧ w.cell? ⟨b, off + i * 4 + 2, none⟩ = some (.string p.s) ∧ w.cell? ⟨b, off + i * 4 + 3, none⟩ = some p.l

theorem joined_few (ss : List ByteArray) : (joined (few ss)).length ≤ 10000 := by
  have h1 : ∀ l : List ByteArray, (∀ s ∈ l, s.size ≤ 66) → (Lib.lens (l.map (·.data.toList))) ≤ 66 * l.length := by
    intro l hl
    induction l with
    | nil => simp [Lib.lens]
    | cons x r ih =>
      have h2 := hl x (by simp)
      have h3 := ih fun s hs => hl s (by simp [hs])
      simp only [Lib.lens, List.map_cons, List.sum_cons, List.length_cons, Array.length_toList] at h3 ⊢
      have : x.size = x.data.size := rfl
      omega
  have h4 : ∀ s ∈ few ss, s.size ≤ 66 := by
    intro s hs
    obtain ⟨x, _, rfl⟩ := List.mem_map.1 hs
    simp; omega
  have h5 := few_len ss
  have h6 : ∀ l : List (List UInt8), (Lib.join l [44]).length ≤ Lib.lens l + l.length := by
    intro l
    cases l with
    | nil => simp [Lib.join_nil]
    | cons x r =>
      rw [Lib.join_cons, List.length_append, Lib.joinTail_length]
      simp only [Lib.lens, List.map_cons, List.sum_cons, List.length_cons, List.length_nil]
      omega
  have h7 := h1 _ h4
  have h8 := h6 ((few ss).map (·.data.toList))
  simp only [List.length_map] at h8
  unfold joined
  omega

theorem text_len' (xs : List UInt8) : (textBytes xs).length = 4 + xs.length := by simp [textBytes, be_length]

theorem part_len {k n : Int} {s : ByteArray} {ss : List ByteArray} (hs : s.size ≤ 200) : (partBytes k n s (few ss)).length ≤ 11000 := by
  have hj := joined_few ss
  have hsz : s.data.toList.length = s.size := by rw [Array.length_toList]; rfl
  have hm : (mpBytes s.data.toList).length ≤ s.size + 6 := by
    have h3 := bare_le s.data.toList
    rw [hsz] at h3
    unfold mpBytes
    rcases hb : bare s.data.toList with _ | ⟨x, r⟩
    · simp [be_length]
    · rw [hb] at h3
      simp only [List.length_cons] at h3
      by_cases hx : 128 ≤ x.toNat
      · simp [hx, be_length]; omega
      · simp [hx, be_length]; omega
  unfold partBytes
  repeat' split
  all_goals first | omega | (simp; done) | (simp [be_length]; done) | (rw [text_len']; omega)

theorem PSl.at {w : World} {ao : Option Addr} {n cap : Nat} {ps : List PartD} (h : PSl w (.slice ao n cap) ps) (k : Nat) (hk : k < ps.length) : ∃ b off, ao = some ⟨b, off, none⟩ ∧
    w.cell? ⟨b, off + k * 4, none⟩ = some (.int .i64 ps[k].k) ∧ w.cell? ⟨b, off + k * 4 + 1, none⟩ = some (.int .u64 ps[k].n) ∧ w.cell? ⟨b, off + k * 4 + 2, none⟩ = some (.string ps[k].s) ∧ w.cell? ⟨b, off + k * 4 + 3, none⟩ = some ps[k].l ∧
    0 ≤ ps[k].n ∧ ps[k].n < 18446744073709551616 ∧ SSl w ps[k].l ps[k].ss := by
  obtain ⟨ao, cap, e, h1, h2, h3, h4, hc⟩ := h
  cases e
  have h5 := h4 ps[k] (List.getElem_mem hk)
  cases ao with
  | none => have := (h3 rfl).1; subst this; simp at hk
  | some ad =>
    obtain ⟨b, off, rfl, hcell⟩ := hc ad rfl (by rintro rfl; simp at hk)
    obtain ⟨c0, c1, c2, c3⟩ := hcell k ps[k] (List.getElem?_eq_getElem hk)
    exact ⟨b, off, rfl, c0, c1, c2, c3, h5.1, h5.2.1, h5.2.2⟩

theorem PSl.fresh {w w' : World} {v : Value} {ps : List PartD} (h : PSl w v ps) (hb : Below w.heap.size w w') : PSl w' v ps := by
  obtain ⟨ao, cap, rfl, h1, h2, h3, h4, hc⟩ := h
  have hk : Keeps (fun _ => False) w w' := Keeps.ofFresh hb
  refine ⟨ao, cap, rfl, h1, h2, h3, fun p hp => ⟨(h4 p hp).1, (h4 p hp).2.1, (h4 p hp).2.2.fresh hb⟩, ?_⟩
  rintro ad rfl hx
  obtain ⟨b, off, rfl, hcell⟩ := hc ad rfl hx
  refine ⟨b, off, rfl, fun i p hp => ?_⟩
  obtain ⟨c0, c1, c2, c3⟩ := hcell i p hp
  exact ⟨hk.cell c0 (fun h => h), hk.cell c1 (fun h => h), hk.cell c2 (fun h => h), hk.cell c3 (fun h => h)⟩


end Go.Proofs.Ytahlefnkdbomfaa
