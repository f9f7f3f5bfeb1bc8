/- What the law NegoNumbers is made of: its ten texts, and what operations of its drawn region give. -/
import Derived.Test.YtnnhffjajbiicaaNhD
namespace Go.Proofs.Ytnnhffjajbiicaa
open Go Go.RowKit

/-- The ten texts. -/
def T10 (A B : ByteArray) : List ByteArray := [⟨#[]⟩, startB, ⟨#[83, 83, 72, 45, 50, 46, 48, 45, 120]⟩, ⟨#[83, 83, 72, 45, 49, 46, 53, 45, 120]⟩, ⟨#[83, 83, 72, 45, 50, 46, 48, 45, 120, 32, 121]⟩, ⟨#[83, 83, 72, 45, 50, 46, 48, 45, 120, 31]⟩, ⟨#[83, 83, 72, 45, 50, 46, 48, 45, 127]⟩, A, B, ⟨#[115, 115, 104, 45, 50, 46, 48, 45, 120]⟩]
theorem T10_len (A B : ByteArray) : (T10 A B).length = 10 := rfl
theorem T10_size {A B : ByteArray} (ha : A.size ≤ 300) (hb : B.size ≤ 300) : ∀ s ∈ T10 A B, s.size ≤ 300 := by
  intro s hs
  simp only [T10, List.mem_cons, List.not_mem_nil, or_false] at hs
  rcases hs with rfl | rfl | rfl | rfl | rfl | rfl | rfl | rfl | rfl | rfl
  all_goals first
    | exact ha
    | exact hb
    | (simp [startB, ByteArray.size])
def tails6 : List ByteArray := [⟨#[]⟩, ⟨#[13]⟩, ⟨#[10]⟩, ⟨#[13, 10]⟩, ⟨#[13, 10, 83, 83, 72, 45, 50, 46, 48, 45, 121, 13, 10]⟩, ⟨#[13, 13, 10]⟩]
theorem tails6_size : ∀ s ∈ tails6, s.size ≤ 20 := by
  intro s hs
  simp only [tails6, List.mem_cons, List.not_mem_nil, or_false] at hs
  rcases hs with rfl | rfl | rfl | rfl | rfl | rfl <;> simp [ByteArray.size]
def tails3 : List ByteArray := [⟨#[]⟩, ⟨#[13]⟩, ⟨#[13, 10]⟩]
theorem tails3_size : ∀ s ∈ tails3, s.size ≤ 20 := by
  intro s hs
  simp only [tails3, List.mem_cons, List.not_mem_nil, or_false] at hs
  rcases hs with rfl | rfl | rfl <;> simp [ByteArray.size]
theorem strs_at {T : List ByteArray} {k : Nat} (h : k < T.length) : (T.map Value.string)[k]? = some (.string (T.getD k ⟨#[]⟩)) := by
  simp [List.getD, List.getElem?_eq_getElem h]
theorem strs_mem {T : List ByteArray} {k : Nat} (h : k < T.length) : T.getD k ⟨#[]⟩ ∈ T := by
  simp [List.getD, List.getElem?_eq_getElem h]
def ns5 : List Nat := [253, 254, 255, 256, 300]
def nCells (l : List Nat) : List Value := l.map fun (n : Nat) => Value.int .i64 (n : Int)
theorem ns5_le : ∀ n ∈ ns5, n ≤ 300 := by decide
theorem ns_at {T : List Nat} {k : Nat} (h : k < T.length) : (nCells T)[k]? = some (.int .i64 ((T.getD k 0 : Nat) : Int)) := by
  simp [nCells, List.getD, List.getElem?_eq_getElem h]
theorem ns_mem {T : List Nat} {k : Nat} (h : k < T.length) : T.getD k 0 ∈ T := by
  simp [List.getD, List.getElem?_eq_getElem h]
/-- Bytes of a text, ready for both Versions. -/
theorem ready_v (s : ByteArray) (hs : s.size ≤ 1000) (w : World) : ∃ cap w', (convert 9 22 (.string s)).run Try.prog w = .ok (.slice (some ⟨w.heap.size, 0, none⟩) s.size cap) w' ∧ BSl w' (.slice (some ⟨w.heap.size, 0, none⟩) s.size cap) s.data.toList ∧ Below w.heap.size w w' :=
  ⟨_, _, run_bytes s w, bytes_bsl w s (by omega), bytesW_below w s⟩
/-- A slice of such texts, in a block of its own. -/
def Fact.strs (ss : List ByteArray) : Fact := ⟨fun v w => ∃ g, v = .slice (some ⟨g, 0, none⟩) ss.length ss.length ∧ LBox w g 9 (ss.map Value.string), fun _ _ _ he ⟨g, h1, h2⟩ => ⟨g, h1, h2.fresh he⟩⟩
def z16 : List UInt8 := List.replicate 16 0
theorem made16 (V : World) : (Instr.makeSlice 22 (.int .i64 16) (.int .i64 16)).run Try.prog V = .ok (.slice (some ⟨V.heap.size, 0, none⟩) 16 16) (V.alloc (.cells (bcells z16).toArray 5)) := made_run 16 (by omega) V
theorem bsl16 (V : World) : BSl (V.alloc (.cells (bcells z16).toArray 5)) (.slice (some ⟨V.heap.size, 0, none⟩) 16 16) z16 := bsl_mark V z16 (0, 0) (by simp [z16])
theorem lrd_pair {W : World} {ck s0 s1 : Value} {bs : List UInt8} {l0 l1 : List ByteArray} (hc : BSl W ck bs) (h0 : SSl W s0 l0) (h1 : SSl W s1 l1) : LRd W ck (s0 :: s1 :: List.replicate 8 (.slice none 0 0)) bs (l0 :: l1 :: List.replicate 8 []) :=
  ⟨hc, rfl, rfl, fun i hi => match i, hi with
    | 0, _ => h0
    | 1, _ => h1
    | 2, _ => ssl_none W
    | 3, _ => ssl_none W
    | 4, _ => ssl_none W
    | 5, _ => ssl_none W
    | 6, _ => ssl_none W
    | 7, _ => ssl_none W
    | 8, _ => ssl_none W
    | 9, _ => ssl_none W⟩
theorem tame_pair {l0 l1 : List ByteArray} (h0 : l0.length ≤ 100 ∧ ∀ s ∈ l0, s.size ≤ 1000) (h1 : l1.length ≤ 100 ∧ ∀ s ∈ l1, s.size ≤ 1000) : Tame (l0 :: l1 :: List.replicate 8 []) := fun l hl => by
  rcases List.mem_cons.1 hl with rfl | hl
  · exact h0
  rcases List.mem_cons.1 hl with rfl | hl
  · exact h1
  rw [(List.mem_replicate.1 hl).2]
  exact ⟨by simp, fun s hs => by simp at hs⟩
theorem encE_comma : encE z16 ([⟨#[97, 44, 98]⟩] :: [] :: List.replicate 8 []) = 12 := by kernel_rfl
theorem lens_rep (s : ByteArray) (n : Nat) : lens (List.replicate n s) = n * s.size := by
  induction n with
  | zero => simp [lens]
  | succ n ih => rw [List.replicate_succ, lens_cons, ih]; rw [Nat.succ_mul]; omega
theorem encE_many {s : ByteArray} (hs : s.size = 60) : encE z16 ([] :: List.replicate 17 s :: List.replicate 8 []) = 12 := by
  have hn : rightNs (List.replicate 17 s) = false := by
    cases h : rightNs (List.replicate 17 s) with
    | false => rfl
    | true =>
      have h1 := rightNs_len h
      rw [show List.replicate 17 s = s :: List.replicate 16 s from rfl, joined_length, ← List.replicate_succ, lens_rep, hs, List.length_replicate] at h1
      omega
  generalize List.replicate 17 s = M at hn ⊢
  unfold encE
  rw [if_pos (by simp [z16]), if_neg]
  rw [List.all_cons, List.all_cons, hn]
  simp
theorem decE_nil : decE [] = 12 := by kernel_rfl
theorem encE_ours : encE z16 oursL = 0 := by kernel_rfl
theorem agE_ours : agE oursL oursL = 0 := by kernel_rfl
theorem agC_first : (agC oursL oursL)[0]? = some (.string ⟨#[99, 117, 114, 118, 101, 50, 53, 53, 49, 57, 45, 115, 104, 97, 50, 53, 54]⟩) := by kernel_rfl
theorem agC_last : (agC oursL oursL)[7]? = some (.string ⟨#[110, 111, 110, 101]⟩) := by kernel_rfl
theorem agE_none : agE oursL (List.replicate 10 []) = 22 := by kernel_rfl
theorem tame_ours : Tame oursL := by
  intro l hl
  have : oursL.all (fun l => decide (l.length ≤ 100) && l.all fun s => decide (s.size ≤ 1000)) = true := by kernel_rfl
  have := List.all_eq_true.1 this l hl
  rw [Bool.and_eq_true, decide_eq_true_eq, List.all_eq_true] at this
  exact ⟨this.1, fun s hs => of_decide_eq_true (this.2 s hs)⟩
theorem tame_none : Tame (List.replicate 10 []) := fun l hl => by
  rw [(List.mem_replicate.1 hl).2]
  exact ⟨by simp, fun s hs => by simp at hs⟩
theorem encE_none : encE [] (List.replicate 10 []) = 1 := rfl
section
variable {o : Oper} {ρ : Operand → Value} {w : World} {x y : Operand} {v : Value} {Φ : Value → World → Prop}
theorem gives_addS {a b : ByteArray} (hs : a.size + b.size ≤ 1000) (ho : o.op = .binOp .add 9 x y 9) (hx : ρ x = .string a) (hy : ρ y = .string b) (h : Φ (.string (a ++ b)) w) : Gives Try.prog o ρ w Φ := by
  refine Gives.value (w' := w) (v := .string (a ++ b)) ?_ h
  unfold execOp
  simp only [ho]
  rw [hx, hy]
  simp [eqGuard, binOp, run_string_add_sum w a b (by omega)]
theorem gives_headS {s : ByteArray} {n : Nat} (hn : n ≤ s.size) (ho : o.op = .slice 9 x none (some y) none) (hx : ρ x = .string s) (hy : ρ y = .int .i64 (n : Int)) (h : Φ (.string (s.extract 0 n)) w) : Gives Try.prog o ρ w Φ := by
  refine gives_slice (v := .string (s.extract 0 n)) ho ?_ h
  simp only [hx, Option.map_none, Option.map_some, hy]
  rw [run_sliceAt_string _ _ _ _ _ _ Try.underlying9, run_slice_string_to_if _ _ _ _ _ Try.underlying9, if_pos (by omega)]
  simp
theorem gives_T10 {A B : ByteArray} (ho : o.op = .buildSlice 24 10 #[(0, .const (.string ⟨#[]⟩)), (1, .const (.string ⟨#[83, 83, 72, 45, 50, 46, 48, 45]⟩)), (2, .const (.string ⟨#[83, 83, 72, 45, 50, 46, 48, 45, 120]⟩)), (3, .const (.string ⟨#[83, 83, 72, 45, 49, 46, 53, 45, 120]⟩)), (4, .const (.string ⟨#[83, 83, 72, 45, 50, 46, 48, 45, 120, 32, 121]⟩)), (5, .const (.string ⟨#[83, 83, 72, 45, 50, 46, 48, 45, 120, 31]⟩)), (6, .const (.string ⟨#[83, 83, 72, 45, 50, 46, 48, 45, 127]⟩)), (7, .tmp 51), (8, .tmp 54), (9, .const (.string ⟨#[115, 115, 104, 45, 50, 46, 48, 45, 120]⟩))])
    (hc : ∀ v, ρ (.const v) = v) (h7 : ρ (.tmp 51) = .string A) (h8 : ρ (.tmp 54) = .string B)
    (h : Φ (.slice (some ⟨w.heap.size, 0, none⟩) 10 10) (w.alloc (.cells ((T10 A B).map Value.string).toArray 9))) : Gives Try.prog o ρ w Φ := by
  obtain ⟨j0, ji, jz0, jz1, jz2⟩ := info_parts Try.infoStr
  refine Gives.value ?_ h
  unfold execOp
  simp only [ho]
  have hb := run_buildSlice (P := Try.prog) w 24 9 10 (#[((0 : Nat), Operand.const (.string ⟨#[]⟩)), (1, .const (.string ⟨#[83, 83, 72, 45, 50, 46, 48, 45]⟩)), (2, .const (.string ⟨#[83, 83, 72, 45, 50, 46, 48, 45, 120]⟩)), (3, .const (.string ⟨#[83, 83, 72, 45, 49, 46, 53, 45, 120]⟩)), (4, .const (.string ⟨#[83, 83, 72, 45, 50, 46, 48, 45, 120, 32, 121]⟩)), (5, .const (.string ⟨#[83, 83, 72, 45, 50, 46, 48, 45, 120, 31]⟩)), (6, .const (.string ⟨#[83, 83, 72, 45, 50, 46, 48, 45, 127]⟩)), (7, .tmp 51), (8, .tmp 54), (9, .const (.string ⟨#[115, 115, 104, 45, 50, 46, 48, 45, 120]⟩))].map fun (i, x) => (i, ρ x)) ((T10 A B).map Value.string).toArray j0 (.string ⟨#[]⟩) Try.underlying24 ji jz0 (by rw [jz1]; omega) (by rw [jz1]; omega) (by rw [jz1]; simp only [List.map_toArray, List.map_cons, List.map_nil, hc, h7, h8]; kernel_rfl)
  rw [Sem.run_bind, hb]
  rfl
end
end Go.Proofs.Ytnnhffjajbiicaa
