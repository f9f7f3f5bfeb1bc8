/- From what Lists and byte slices read as to what the walks are told of them. -/
import Derived.Test.YtnnhffjajbiicaaOpenN
import Derived.Test.YtnnhffjajbiicaaNgG
import Derived.SizedLaws
namespace Go.Proofs.Ytnnhffjajbiicaa
open Go Go.RowKit Go.ChangeShapes Go.WideShapes Go.ChangeAt Go.Deep

theorem cellsL : Try.prog.cellsOf 38 = 12 := by kernel_rfl
theorem cellsA : Try.prog.cellsOf 36 = 10 := by kernel_rfl
theorem cellsSs : Try.prog.cellsOf 24 = 1 := by kernel_rfl
theorem cellsBs : Try.prog.cellsOf 22 = 1 := by kernel_rfl
theorem cellsBo : Try.prog.cellsOf 4 = 1 := by kernel_rfl
theorem bytesU8 : Try.prog.bytesOf 5 = 1 := by kernel_rfl

section
variable {H : Type} {enc : TypeId × Value → H} {w : World} {fuel : Nat} {cs : List Value} {x : DataW H × List MemPlace}

theorem len3 {α : Type} {l : List α} (h : l.length = 3) : ∃ a b c, l = [a, b, c] := by
  match l, h with
  | [a, b, c], _ => exact ⟨a, b, c, rfl⟩
theorem trod_struct3 {P : Program} {t : TypeId} {f0 f1 f2 : Field} (ht : P.underlying t = some (.struct #[f0, f1, f2])) (h : DataW.trod enc P w 0 (fun _ => true) true fuel t cs = some x) :
    ∃ y0 y1 y2 n, cs.length = P.cellsOf t ∧ DataW.trod enc P w 0 (fun _ => true) true n f0.type ((cs.drop f0.offset).take (P.cellsOf f0.type)) = some y0 ∧ DataW.trod enc P w 0 (fun _ => true) true n f1.type ((cs.drop f1.offset).take (P.cellsOf f1.type)) = some y1 ∧
      DataW.trod enc P w 0 (fun _ => true) true n f2.type ((cs.drop f2.offset).take (P.cellsOf f2.type)) = some y2 := by
  obtain ⟨xs, n, _, _, hl, hxl, hf⟩ := DataW.trod_struct ht h
  obtain ⟨y0, y1, y2, rfl⟩ := len3 (show xs.length = 3 from hxl)
  exact ⟨y0, y1, y2, n, hl, by simpa using hf 0 f0 rfl, by simpa using hf 1 f1 rfl, by simpa using hf 2 f2 rfl⟩

theorem open_strsV {v : Value} (h : DataW.trod enc Try.prog w 0 (fun _ => true) true fuel 24 [v] = some x) : ∃ ss, SSl w v ss := by
  obtain ⟨ao, n, cap, rfl⟩ : ∃ ao n cap, v = .slice ao n cap := by
    rcases open_strs Try.underlying24 Try.underlying9 cellsStr h with ⟨e, _⟩ | ⟨a, len, cap', m, Sx, e, _⟩
    · exact ⟨_, _, _, by simpa using e⟩
    · exact ⟨_, _, _, by simpa using e⟩
  exact open_ssl h rfl
theorem open_bytesV {v : Value} (h : DataW.trod enc Try.prog w 0 (fun _ => true) true fuel 22 [v] = some x) : ∃ xs, BSl w v xs := by
  obtain ⟨ao, n, cap, rfl⟩ : ∃ ao n cap, v = .slice ao n cap := by
    rcases open_ints Try.underlying22 Try.underlying5 cellsU8 h with ⟨e, _⟩ | ⟨a, len, cap', zs, e, _⟩
    · exact ⟨_, _, _, by simpa using e⟩
    · exact ⟨_, _, _, by simpa using e⟩
  exact open_bsl h rfl

theorem open_lists (h : DataW.trod enc Try.prog w 0 (fun _ => true) true fuel 38 cs = some x) :
    ∃ ck nm fo bs ls, cs = lcells ck nm fo ∧ LRd w ck nm bs ls := by
  obtain ⟨y0, y1, y2, n, hl, g0, g1, g2⟩ := trod_struct3 Try.underlying38 h
  rw [cellsL] at hl
  obtain ⟨c0, r, rfl⟩ : ∃ c0 r, cs = c0 :: r := by
    cases cs with
    | nil => simp at hl
    | cons a b => exact ⟨a, b, rfl⟩
  simp only [List.length_cons] at hl
  have hr : r.length = 11 := by omega
  obtain ⟨nm, c11, e, hn⟩ : ∃ nm c, r = nm ++ [c] ∧ nm.length = 10 := by
    refine ⟨r.take 10, r[10], ?_, by rw [List.length_take]; omega⟩
    have := List.take_append_drop 10 r
    rw [List.drop_eq_getElem_cons (by omega), List.drop_of_length_le (by omega)] at this
    exact this.symm
  subst e
  simp only [cellsBs, cellsA, cellsBo] at g0 g1 g2
  have e0 : ((c0 :: (nm ++ [c11])).drop 0).take 1 = [c0] := rfl
  have e1 : ((c0 :: (nm ++ [c11])).drop 1).take 10 = nm := by
    rw [List.drop_succ_cons, List.drop_zero, List.take_append_of_le_length (by omega), List.take_of_length_le (by omega)]
  have e2 : ((c0 :: (nm ++ [c11])).drop 11).take 1 = [c11] := by
    rw [List.drop_succ_cons, List.drop_append_of_le_length (by omega), List.drop_of_length_le (by omega)]
    rfl
  rw [e0] at g0
  rw [e1] at g1
  rw [e2] at g2
  obtain ⟨bs, hbs⟩ := open_bytesV g0
  obtain ⟨fo, e3, _⟩ := DataW.trod_bool Try.underlying4 g2
  obtain rfl : c11 = .bool fo := by simpa using e3
  obtain ⟨xs, m, _, _, _, hxl, hx⟩ := DataW.trod_array Try.underlying36 g1
  have each : ∀ i, i < 10 → ∃ ss, SSl w (nm.getD i undef) ss := by
    intro i hi
    have h1 := hx i hi
    rw [cellsSs, Nat.mul_one] at h1
    have h2 : (nm.drop i).take 1 = [nm.getD i undef] := by
      rw [List.drop_eq_getElem_cons (by omega), List.getD_eq_getElem?_getD, List.getElem?_eq_getElem (by omega)]
      rfl
    rw [h2, List.getElem?_eq_getElem (by omega)] at h1
    exact open_strsV h1
  obtain ⟨f, hf⟩ := choose_lt each
  refine ⟨c0, nm, fo, bs, (List.range 10).map f, rfl, hbs, hn, by simp, fun i hi => ?_⟩
  have e : ((List.range 10).map f).getD i [] = f i := by
    rw [List.getD_eq_getElem?_getD, List.getElem?_map, List.getElem?_range hi]
    rfl
  rw [e]
  exact hf i hi

/-- A byte slice, and how long it may be. -/
theorem open_bslx {ao : Option Addr} {n cap : Nat} (h : DataW.trod enc Try.prog w 0 (fun _ => true) true fuel 22 [.slice ao n cap] = some x) : ∃ xs, BSl w (.slice ao n cap) xs ∧ (xs = [] ∨ ∃ elems spare, x.1 = .slice elems spare ∧ elems.length = xs.length) := by
  obtain ⟨xs, hxs⟩ := open_bsl h rfl
  refine ⟨xs, hxs, ?_⟩
  have hn : xs.length = n := by obtain ⟨_, _, e, _⟩ := hxs; cases e; rfl
  rcases open_ints Try.underlying22 Try.underlying5 cellsU8 h with ⟨e, _⟩ | ⟨a, len, cap', zs, e, _, hl, hm, hz, hx, _⟩
  · simp at e
    exact .inl (List.eq_nil_of_length_eq_zero (by omega))
  · simp at e
    obtain ⟨rfl, rfl, rfl⟩ := e
    refine .inr ⟨_, _, by rw [hx], ?_⟩
    simp at hz
    simp [lits, hn]
    omega
theorem sized_bytes {ts : List TypeId} {ds : List (DataW H)} (h : (DataW.weightsEach Try.prog ts ds).all (· ≤ reachBytes) = true) {j : Nat} {d : DataW H} {xs : List UInt8} (ht : ts[j]? = some 22) (hd : ds[j]? = some d) (hx : xs = [] ∨ ∃ elems spare, d = .slice elems spare ∧ elems.length = xs.length) : xs.length ≤ 140737488351232 := by
  rcases hx with rfl | ⟨elems, spare, rfl, hl⟩
  · simp
  · have := sized_slice h ht hd Try.underlying22
    rw [bytesU8] at this
    unfold reachBytes at this
    omega
end
end Go.Proofs.Ytnnhffjajbiicaa
