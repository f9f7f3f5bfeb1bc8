/- From what rows of asks and of texts read as to what the walks are told of them. -/
import Derived.Test.YtnigfnikajejaaaTnA
import Derived.Test.YtnigfnikajejaaaRows
import Derived.ProofKit
import Derived.OpenShut
import Derived.ShutString
import Derived.ChangeOld
import Derived.Deep.Strs
import Derived.SizedLaws
import Derived.ChangeArms
import Derived.Deep.Slices
namespace Go.Proofs.Ytnigfnikajejaaa
open Go Go.RowKit Go.ChangeShapes Go.WideShapes Go.ChangeAt Go.Deep

theorem own : ownKnob Try.prog.godebug = none := by kernel_rfl
theorem laidOut : laidOutB Try.prog = true := by kernel_rfl
theorem cellsU8 : Try.prog.cellsOf 5 = 1 := by kernel_rfl
theorem spot_none {w : World} {a : Addr} {v : Value} (h : w.cell? a = some v) : ∃ b off, a = ⟨b, off, none⟩ := by
  obtain ⟨b, off, spot⟩ := a
  cases spot with
  | none => exact ⟨b, off, rfl⟩
  | some x =>
    simp only [World.cell?] at h
    split at h <;> simp at h
theorem cellsB : Try.prog.cellsOf 30 = 1 := by kernel_rfl
theorem cellsInt : Try.prog.cellsOf 3 = 1 := by kernel_rfl
theorem cellsStr : Try.prog.cellsOf 9 = 1 := by kernel_rfl
theorem cellsSs : Try.prog.cellsOf 29 = 1 := by kernel_rfl
theorem cellsBool : Try.prog.cellsOf 4 = 1 := by kernel_rfl
theorem cellsU32 : Try.prog.cellsOf 37 = 1 := by kernel_rfl
theorem cellsU64 : Try.prog.cellsOf 34 = 1 := by kernel_rfl
theorem cellsA7 : Try.prog.cellsOf 40 = 7 := by kernel_rfl
theorem cellsAsk : Try.prog.cellsOf 47 = 15 := by kernel_rfl
theorem len9 {α : Type} {l : List α} (h : l.length = 9) : ∃ a b c d e f g i j, l = [a, b, c, d, e, f, g, i, j] := by
  match l, h with
  | [a, b, c, d, e, f, g, i, j], _ => exact ⟨a, b, c, d, e, f, g, i, j, rfl⟩
theorem len15 {α : Type} {l : List α} (h : l.length = 15) : ∃ a b c d e f g i j k m n o p q, l = [a, b, c, d, e, f, g, i, j, k, m, n, o, p, q] := by
  match l, h with
  | [a, b, c, d, e, f, g, i, j, k, m, n, o, p, q], _ => exact ⟨a, b, c, d, e, f, g, i, j, k, m, n, o, p, q, rfl⟩

section
variable {H : Type} {enc : TypeId × Value → H} {w : World} {fuel : Nat} {cs : List Value} {x : DataW H × List MemPlace}
theorem open_bsl {ao : Option Addr} {n cap : Nat} (h : DataW.trod enc Try.prog w 0 (fun _ => true) true fuel 30 cs = some x) (hcs : cs = [.slice ao n cap]) : ∃ xs, BSl w (.slice ao n cap) xs := by
  rcases open_ints Try.underlying30 Try.underlying5 cellsU8 h with ⟨rfl, _⟩ | ⟨a, len, cap', zs, rfl, _, hl, hm, hz, _, hx, hwf⟩
  · cases hcs
    exact ⟨[], none, 0, rfl, by simp, by simp [maxLen], fun _ => ⟨rfl, rfl⟩, (fun ad e => by cases e)⟩
  · cases hcs
    simp at hz
    refine ⟨(List.range n).map fun i => byteOf (zs.getD i 0), some a, cap, by simp, by simpa using hl, hm, (fun e => by cases e), ?_⟩
    intro ad e hne
    cases e
    have hn : 0 < n := by
      rcases Nat.eq_zero_or_pos n with h0 | h0
      · subst h0; simp at hne
      · exact h0
    have h0 := hx 0 (by omega)
    rw [show a.add 0 = a from by simp [Addr.add]] at h0
    obtain ⟨b, off, rfl⟩ := spot_none h0
    refine ⟨b, off, rfl, fun j u hu => ?_⟩
    have hj : j < n := by have := (List.getElem?_eq_some_iff.1 hu).1; simpa [bcells] using this
    have := hx j (by omega)
    rw [add_lit'] at this
    rw [this]
    have hb := bounds_u8 (hwf (zs.getD j 0) (by
      rw [List.getD_eq_getElem?_getD, List.getElem?_eq_getElem (show j < zs.length by omega)]
      exact List.getElem_mem _))
    simp only [bcells, List.map_map, List.getElem?_map, List.getElem?_range hj, Option.map_some, Function.comp] at hu
    rw [← hu, byteOf_nat, Int.emod_eq_of_lt hb.1 (by omega)]
theorem open_ssl {ao : Option Addr} {n cap : Nat} (h : DataW.trod enc Try.prog w 0 (fun _ => true) true fuel 29 cs = some x) (hcs : cs = [.slice ao n cap]) : ∃ ss, SSl w (.slice ao n cap) ss := by
  rcases open_strs Try.underlying29 Try.underlying9 cellsStr h with ⟨rfl, _⟩ | ⟨a, len, cap', m, Sx, rfl, _, hl, hm, hmm, _, hx⟩
  · cases hcs
    exact ⟨[], none, 0, rfl, by simp, by simp [maxLen], fun _ => ⟨rfl, rfl⟩, (fun ad e => by cases e)⟩
  · cases hcs
    simp at hmm
    subst hmm
    refine ⟨(List.range n).map Sx, some a, m, by simp, by simpa using hl, hm, (fun e => by cases e), ?_⟩
    intro ad e hne
    cases e
    have hn : 0 < n := by
      rcases Nat.eq_zero_or_pos n with h0 | h0
      · subst h0; simp at hne
      · exact h0
    have h0 := (hx 0 (by omega)).1
    rw [show a.add 0 = a from by simp [Addr.add]] at h0
    obtain ⟨b, off, rfl⟩ := spot_none h0
    refine ⟨b, off, rfl, fun j u hu => ?_⟩
    have hj : j < n := by have := (List.getElem?_eq_some_iff.1 hu).1; simpa using this
    have := (hx j (by omega)).1
    rw [add_lit'] at this
    rw [this]
    simp [hj] at hu
    rw [hu]
theorem open_strsV {v : Value} (h : DataW.trod enc Try.prog w 0 (fun _ => true) true fuel 29 [v] = some x) : ∃ ss, SSl w v ss := by
  obtain ⟨ao, n, cap, rfl⟩ : ∃ ao n cap, v = .slice ao n cap := by
    rcases open_strs Try.underlying29 Try.underlying9 cellsStr h with ⟨e, _⟩ | ⟨a, len, cap', m, Sx, e, _⟩
    · exact ⟨_, _, _, by simpa using e⟩
    · exact ⟨_, _, _, by simpa using e⟩
  exact open_ssl h rfl
theorem open_bytesV {v : Value} (h : DataW.trod enc Try.prog w 0 (fun _ => true) true fuel 30 [v] = some x) : ∃ xs, BSl w v xs := by
  obtain ⟨ao, n, cap, rfl⟩ : ∃ ao n cap, v = .slice ao n cap := by
    rcases open_ints Try.underlying30 Try.underlying5 cellsU8 h with ⟨e, _⟩ | ⟨a, len, cap', zs, e, _⟩
    · exact ⟨_, _, _, by simpa using e⟩
    · exact ⟨_, _, _, by simpa using e⟩
  exact open_bsl h rfl
theorem len7 {α : Type} {l : List α} (h : l.length = 7) : ∃ a b c d e f g, l = [a, b, c, d, e, f, g] := by
  match l, h with
  | [a, b, c, d, e, f, g], _ => exact ⟨a, b, c, d, e, f, g, rfl⟩
theorem open_attrs (h : DataW.trod enc Try.prog w 0 (fun _ => true) true fuel 40 cs = some x) : ∃ a : At, cs = a.cells.toList ∧ a.Ok := by
  obtain ⟨xs, n, _, _, hl, hxl, hf⟩ := DataW.trod_struct Try.underlying40 h
  rw [cellsA7] at hl
  obtain ⟨v0, v1, v2, v3, v4, v5, v6, rfl⟩ := len7 hl
  obtain ⟨y0, y1, y2, y3, y4, y5, y6, rfl⟩ := len7 (show xs.length = 7 from hxl)
  have g0 : DataW.trod enc Try.prog w 0 (fun _ => true) true n 37 [v0] = some y0 := by have := hf 0 _ rfl; simpa [cellsU32] using this
  obtain ⟨a0, e0, _, w0⟩ := DataW.trod_int Try.underlying37 g0
  obtain rfl : v0 = .int .u32 a0 := by simpa using e0
  have b0 := bounds_u32 w0
  obtain ⟨n0, rfl⟩ := Int.eq_ofNat_of_zero_le b0.1
  have g1 : DataW.trod enc Try.prog w 0 (fun _ => true) true n 34 [v1] = some y1 := by have := hf 1 _ rfl; simpa [cellsU64] using this
  obtain ⟨a1, e1, _, w1⟩ := DataW.trod_int Try.underlying34 g1
  obtain rfl : v1 = .int .u64 a1 := by simpa using e1
  have b1 := bounds_u64 w1
  obtain ⟨n1, rfl⟩ := Int.eq_ofNat_of_zero_le b1.1
  have g2 : DataW.trod enc Try.prog w 0 (fun _ => true) true n 37 [v2] = some y2 := by have := hf 2 _ rfl; simpa [cellsU32] using this
  obtain ⟨a2, e2, _, w2⟩ := DataW.trod_int Try.underlying37 g2
  obtain rfl : v2 = .int .u32 a2 := by simpa using e2
  have b2 := bounds_u32 w2
  obtain ⟨n2, rfl⟩ := Int.eq_ofNat_of_zero_le b2.1
  have g3 : DataW.trod enc Try.prog w 0 (fun _ => true) true n 37 [v3] = some y3 := by have := hf 3 _ rfl; simpa [cellsU32] using this
  obtain ⟨a3, e3, _, w3⟩ := DataW.trod_int Try.underlying37 g3
  obtain rfl : v3 = .int .u32 a3 := by simpa using e3
  have b3 := bounds_u32 w3
  obtain ⟨n3, rfl⟩ := Int.eq_ofNat_of_zero_le b3.1
  have g4 : DataW.trod enc Try.prog w 0 (fun _ => true) true n 37 [v4] = some y4 := by have := hf 4 _ rfl; simpa [cellsU32] using this
  obtain ⟨a4, e4, _, w4⟩ := DataW.trod_int Try.underlying37 g4
  obtain rfl : v4 = .int .u32 a4 := by simpa using e4
  have b4 := bounds_u32 w4
  obtain ⟨n4, rfl⟩ := Int.eq_ofNat_of_zero_le b4.1
  have g5 : DataW.trod enc Try.prog w 0 (fun _ => true) true n 37 [v5] = some y5 := by have := hf 5 _ rfl; simpa [cellsU32] using this
  obtain ⟨a5, e5, _, w5⟩ := DataW.trod_int Try.underlying37 g5
  obtain rfl : v5 = .int .u32 a5 := by simpa using e5
  have b5 := bounds_u32 w5
  obtain ⟨n5, rfl⟩ := Int.eq_ofNat_of_zero_le b5.1
  have g6 : DataW.trod enc Try.prog w 0 (fun _ => true) true n 37 [v6] = some y6 := by have := hf 6 _ rfl; simpa [cellsU32] using this
  obtain ⟨a6, e6, _, w6⟩ := DataW.trod_int Try.underlying37 g6
  obtain rfl : v6 = .int .u32 a6 := by simpa using e6
  have b6 := bounds_u32 w6
  obtain ⟨n6, rfl⟩ := Int.eq_ofNat_of_zero_le b6.1
  exact ⟨⟨n0, n1, n2, n3, n4, n5, n6⟩, rfl, ⟨by have := b0.2; show n0 ≤ _; omega, by have := b1.2; show n1 ≤ _; omega, by have := b2.2; show n2 ≤ _; omega, by have := b3.2; show n3 ≤ _; omega, by have := b4.2; show n4 ≤ _; omega, by have := b5.2; show n5 ≤ _; omega, by have := b6.2; show n6 ≤ _; omega⟩⟩
theorem open_ask (h : DataW.trod enc Try.prog w 0 (fun _ => true) true fuel 47 cs = some x) : ∃ p : AskD, cs = (askC p.x p.pv p.tv p.bv).toList ∧ p.good w := by
  obtain ⟨xs, n, _, _, hl, hxl, hf⟩ := DataW.trod_struct Try.underlying47 h
  obtain ⟨y0, y1, y2, y3, y4, y5, y6, y7, y8, rfl⟩ := len9 (show xs.length = 9 from hxl)
  rw [cellsAsk] at hl
  obtain ⟨v0, v1, v2, v3, v4, v5, v6, v7, v8, v9, v10, v11, v12, v13, v14, rfl⟩ := len15 hl
  have g0 : DataW.trod enc Try.prog w 0 (fun _ => true) true n 3 [v0] = some y0 := by have := hf 0 _ rfl; simpa [cellsInt] using this
  have g1 : DataW.trod enc Try.prog w 0 (fun _ => true) true n 3 [v1] = some y1 := by have := hf 1 _ rfl; simpa [cellsInt] using this
  have g2 : DataW.trod enc Try.prog w 0 (fun _ => true) true n 29 [v2] = some y2 := by have := hf 2 _ rfl; simpa [cellsSs] using this
  have g3 : DataW.trod enc Try.prog w 0 (fun _ => true) true n 29 [v3] = some y3 := by have := hf 3 _ rfl; simpa [cellsSs] using this
  have g4 : DataW.trod enc Try.prog w 0 (fun _ => true) true n 4 [v4] = some y4 := by have := hf 4 _ rfl; simpa [cellsBool] using this
  have g5 : DataW.trod enc Try.prog w 0 (fun _ => true) true n 34 [v5] = some y5 := by have := hf 5 _ rfl; simpa [cellsU64] using this
  have g6 : DataW.trod enc Try.prog w 0 (fun _ => true) true n 37 [v6] = some y6 := by have := hf 6 _ rfl; simpa [cellsU32] using this
  have g7 : DataW.trod enc Try.prog w 0 (fun _ => true) true n 30 [v7] = some y7 := by have := hf 7 _ rfl; simpa [cellsB] using this
  have g8 : DataW.trod enc Try.prog w 0 (fun _ => true) true n 40 [v8, v9, v10, v11, v12, v13, v14] = some y8 := by have := hf 8 _ rfl; simpa [cellsA7] using this
  obtain ⟨a0, e0, _, _⟩ := DataW.trod_int Try.underlying3 g0
  obtain rfl : v0 = .int .i64 a0 := by simpa using e0
  obtain ⟨a1, e1, _, _⟩ := DataW.trod_int Try.underlying3 g1
  obtain rfl : v1 = .int .i64 a1 := by simpa using e1
  obtain ⟨P, hP⟩ := open_strsV g2
  obtain ⟨Q, hQ⟩ := open_strsV g3
  obtain ⟨d, e4, _⟩ := DataW.trod_bool Try.underlying4 g4
  obtain rfl : v4 = .bool d := by simpa using e4
  obtain ⟨a5, e5, _, w5⟩ := DataW.trod_int Try.underlying34 g5
  obtain rfl : v5 = .int .u64 a5 := by simpa using e5
  have b5 := bounds_u64 w5
  obtain ⟨n5, rfl⟩ := Int.eq_ofNat_of_zero_le b5.1
  obtain ⟨a6, e6, _, w6⟩ := DataW.trod_int Try.underlying37 g6
  obtain rfl : v6 = .int .u32 a6 := by simpa using e6
  have b6 := bounds_u32 w6
  obtain ⟨n6, rfl⟩ := Int.eq_ofNat_of_zero_le b6.1
  obtain ⟨bs, hb⟩ := open_bytesV g7
  obtain ⟨A, e8, hA⟩ := open_attrs g8
  obtain ⟨f0, f1, f2, f3, f4, f5, f6⟩ := A
  simp [At.cells] at e8
  obtain ⟨rfl, rfl, rfl, rfl, rfl, rfl, rfl⟩ := e8
  exact ⟨⟨⟨a0, a1, P, Q, d, n5, n6, bs, ⟨f0, f1, f2, f3, f4, f5, f6⟩⟩, v2, v3, v7⟩, rfl, hP, hQ, hb, by have := b5.2; show n5 ≤ _; omega, by have := b6.2; show n6 ≤ _; omega, hA⟩
theorem open_asl {ao : Option Addr} {n cap : Nat} (h : DataW.trod enc Try.prog w 0 (fun _ => true) true fuel 45 cs = some x) (hcs : cs = [.slice ao n cap]) : ∃ qs, ASl w (.slice ao n cap) qs := by
  rcases open_slice Try.underlying45 h with ⟨rfl, _⟩ | ⟨a, len, cap', m, k, D, Pl, rfl, _, hl, hm, hmm, _, hx⟩
  · cases hcs
    exact ⟨[], none, 0, rfl, by simp, by simp [maxLen], (fun p hp => by cases hp), (fun i hi => by simp at hi)⟩
  · cases hcs
    simp at hmm
    subst hmm
    rw [cellsAsk] at hx
    have each : ∀ i, i < n → ∃ p : AskD, (∀ (j : Nat) (c : Value), (askC p.x p.pv p.tv p.bv)[j]? = some c → w.cell? (a.add (i * 15 + j)) = some c) ∧ p.good w := by
      intro i hi
      obtain ⟨cs', h1, h2⟩ := hx i (by omega)
      obtain ⟨p, rfl, h3⟩ := open_ask h2
      obtain ⟨_, _, hcell⟩ := World.cells?_some h1
      refine ⟨p, fun j c hj => ?_, h3⟩
      have hj15 : j < 15 := by
        have := (Array.getElem?_eq_some_iff.1 hj).1
        exact this
      have e := hcell j (by omega)
      rw [add_add] at e
      rw [e]
      simpa using hj
    haveI : Inhabited AskD := ⟨⟨⟨0, 0, [], [], false, 0, 0, [], ⟨0, 0, 0, 0, 0, 0, 0⟩⟩, .slice none 0 0, .slice none 0 0, .slice none 0 0⟩⟩
    obtain ⟨f, hf⟩ := choose_lt each
    refine ⟨(List.range n).map f, some a, m, by simp, by simpa using hl, hm, ?_, ?_⟩
    · intro p hp
      obtain ⟨i, hi, rfl⟩ := List.mem_map.1 hp
      exact (hf i (List.mem_range.1 hi)).2
    · intro i hi
      have hi' : i < n := by simpa using hi
      have h0 := (hf 0 (by omega)).1 0 _ rfl
      rw [show a.add (0 * 15 + 0) = a from by simp [Addr.add]] at h0
      obtain ⟨b, off, hbo⟩ := spot_none h0
      subst hbo
      refine ⟨b, off, rfl, fun j c hj => ?_⟩
      rw [List.getElem_map, List.getElem_range] at hj
      have := (hf i hi').1 j c hj
      rw [add_lit'] at this
      rw [Nat.add_assoc]
      exact this
end
end Go.Proofs.Ytnigfnikajejaaa
