/- What has a name among a directory's, and what has a number among all: the searches. -/
import Derived.Test.YtnigfnikajejaabTmC
import Derived.Test.YtnigfnikajejaabTrD
import Derived.Test.YtnigfnikajejaabPaC
import Derived.Lib.Bytealg
namespace Go.Proofs.Ytnigfnikajejaab
open Go Go.RowKit

theorem compare_lt : ∀ a b : List UInt8, decide (Lib.compareBytes a b < 0) = Op.bytesLess a b
  | [], [] => by simp [Lib.compareBytes, Op.bytesLess]
  | [], _ :: _ => by simp [Lib.compareBytes, Op.bytesLess]
  | _ :: _, [] => by simp [Lib.compareBytes, Op.bytesLess]
  | a :: x, b :: y => by
    unfold Lib.compareBytes Op.bytesLess
    rw [← compare_lt x y]
    by_cases h1 : a < b
    · simp [h1]
    · by_cases h2 : b < a
      · have : ¬ a = b := by rintro rfl; exact h1 h2
        simp [h1, h2, this]
      · have : a = b := UInt8.toNat_inj.1 (by have := mt UInt8.lt_iff_toNat_lt.2 h1; have := mt UInt8.lt_iff_toNat_lt.2 h2; omega)
        subst this
        simp [h1]
theorem compare_eq : ∀ a b : List UInt8, (Lib.compareBytes a b = 0) ↔ a = b
  | [], [] => by simp [Lib.compareBytes]
  | [], _ :: _ => by simp [Lib.compareBytes]
  | _ :: _, [] => by simp [Lib.compareBytes]
  | a :: x, b :: y => by
    unfold Lib.compareBytes
    by_cases h1 : a < b
    · have : ¬ a = b := by rintro rfl; exact absurd h1 (UInt8.lt_irrefl a)
      simp [h1, this]
    · by_cases h2 : b < a
      · have : ¬ a = b := by rintro rfl; exact h1 h2
        simp [h1, h2, this]
      · have : a = b := UInt8.toNat_inj.1 (by have := mt UInt8.lt_iff_toNat_lt.2 h1; have := mt UInt8.lt_iff_toNat_lt.2 h2; omega)
        subst this
        simp [h1, compare_eq x y]
/-- How two names compare. -/
def cmpN (a b : Nm) : Int := Lib.compareBytes a.data.toList b.data.toList
theorem cmpN_lt (a b : Nm) : decide (cmpN a b < 0) = nlt a b := compare_lt _ _
theorem cmpN_eq (a b : Nm) : cmpN a b = 0 ↔ a = b := by
  unfold cmpN
  rw [compare_eq]
  exact ⟨fun h => ByteArray.ext (Array.toList_inj.1 h), fun h => by rw [h]⟩

set_option maxHeartbeats 1000000 in
set_option maxRecDepth 100000 in
theorem compareString_c (a b : ByteArray) (w : World) : Calls Try.prog 71 #[.string a, .string b] w fun e w' => e = .returned (.int .i64 (cmpN a b)) ∧ w' = w := by
  go_enter Try.func71, Try.ntmps71
  go_wp2
  rw [run_callFunc_extern Try.func74 (by kernel_rfl) (by kernel_rfl) (by kernel_rfl) (e := Extern.BytealgCompare.compare) (by kernel_rfl), Lib.run_compareString]
  simp only [Result.andThen]
  rw [Oper.upon_value]
  go_wp2
  go_ret
  exact ⟨rfl, rfl⟩
set_option maxHeartbeats 400000 in
theorem compare_c (a b : ByteArray) (w : World) : Calls Try.prog 64 #[.string a, .string b] w fun e w' => e = .returned (.int .i64 (cmpN a b)) ∧ w' = w := by
  go_enter Try.func64, Try.ntmps64
  go_wp2_with (go_at_call 71; refine (compareString_c _ _ _).mono ?_; rintro e w' ⟨rfl, rfl⟩)
  go_ret
  exact ⟨rfl, rfl⟩
set_option maxHeartbeats 400000 in
theorem cmpE_c (s name : ByteArray) (p : Value) (w : World) : Calls Try.prog 63 #[.agg #[.string s, p], .string name] w fun e w' => e = .returned (.int .i64 (cmpN s name)) ∧ Below w.heap.size w w' := by
  go_enter Try.func63, Try.ntmps63
  go_wp2_with (go_at_call 64; refine (compare_c _ _ _).mono ?_; rintro e w' ⟨rfl, rfl⟩)
  go_ret
  exact ⟨rfl, (Below.refl _ _).alloc (Nat.le_refl _) _⟩

/-- The cells of a directory's rows: names, and the blocks of what they name. -/
def ecells (B : Nat → Nat) (l : HL) : List Value := l.flatMap fun e => [.string e.1, .pointer (some ⟨B e.2, 0, none⟩)]
theorem ecells_length (B : Nat → Nat) (l : HL) : (ecells B l).length = l.length * 2 := by
  induction l with
  | nil => rfl
  | cons e l ih => simp [ecells] at ih ⊢; omega
theorem ecells_append (B : Nat → Nat) (a b : HL) : ecells B (a ++ b) = ecells B a ++ ecells B b := by simp [ecells]
theorem ecells_one (B : Nat → Nat) (l : HL) : ∀ u ∈ ecells B l, u.oneCell' = true := by
  intro u hu
  obtain ⟨e, _, he⟩ := List.mem_flatMap.1 hu
  rcases List.mem_cons.1 he with rfl | he
  · rfl
  · rw [List.mem_singleton.1 he]; rfl
theorem ecells_take (B : Nat → Nat) (l : HL) (k : Nat) : (ecells B l).take (k * 2) = ecells B (l.take k) := by
  conv => lhs; rw [← List.take_append_drop k l, ecells_append]
  by_cases h : k ≤ l.length
  · exact List.take_left' (by rw [ecells_length, List.length_take]; omega)
  · rw [List.drop_of_length_le (by omega), show ecells B [] = [] from rfl, List.append_nil, List.take_of_length_le (by rw [ecells_length, List.length_take]; omega)]
theorem ecells_drop (B : Nat → Nat) (l : HL) (k : Nat) : (ecells B l).drop (k * 2) = ecells B (l.drop k) := by
  conv => lhs; rw [← List.take_append_drop k l, ecells_append]
  by_cases h : k ≤ l.length
  · exact List.drop_left' (by rw [ecells_length, List.length_take]; omega)
  · rw [List.drop_of_length_le (l := l) (by omega), show ecells B [] = [] from rfl, List.append_nil, List.drop_of_length_le (by rw [ecells_length, List.length_take]; omega)]
theorem ecells_at (B : Nat → Nat) (l : HL) (k : Nat) (hk : k < l.length) : (ecells B l)[k * 2]? = some (.string (l[k]).1) ∧ (ecells B l)[k * 2 + 1]? = some (.pointer (some ⟨B (l[k]).2, 0, none⟩)) := by
  have h : (ecells B l).drop (k * 2) = ecells B (l.drop k) := ecells_drop B l k
  rw [List.drop_eq_getElem_cons hk] at h
  have h0 : ((ecells B l).drop (k * 2))[0]? = some (.string (l[k]).1) := by rw [h]; rfl
  have h1 : ((ecells B l).drop (k * 2))[1]? = some (.pointer (some ⟨B (l[k]).2, 0, none⟩)) := by rw [h]; rfl
  rw [List.getElem?_drop] at h0 h1
  exact ⟨by simpa using h0, h1⟩
/-- A directory's rows in memory. -/
def ERow (w : World) (B : Nat → Nat) (v : Value) (l : HL) : Prop := w.ownsRow 0 90 2 v l.length (ecells B l)
theorem ERow.keep {S : Nat → Prop} {w w' : World} {B : Nat → Nat} {v : Value} {l : HL} (h : ERow w B v l) (hk : Keeps S w w') (hn : ∀ k, v.ownBlock = some k → ¬ S k) : ERow w' B v l := hk.row h hn
theorem ERow.fresh {w w' : World} {B : Nat → Nat} {v : Value} {l : HL} (h : ERow w B v l) (hb : Below w.heap.size w w') : ERow w' B v l := h.keep (S := fun _ => False) (Keeps.ofFresh hb) fun _ _ h => h
theorem ERow.shape {w : World} {B : Nat → Nat} {v : Value} {l : HL} (h : ERow w B v l) : ∃ ao cap, v = .slice ao l.length cap ∧ l.length ≤ cap ∧ cap ≤ maxLen ∧ (l ≠ [] → ∃ g, ao = some ⟨g, 0, none⟩) := by
  rcases h.2 with ⟨rfl, h0⟩ | ⟨g, cap, cur, rfl, _, _, h1, h2, _⟩
  · refine ⟨none, 0, by rw [h0], by omega, by simp [maxLen], fun h => absurd (List.eq_nil_of_length_eq_zero h0) h⟩
  · exact ⟨_, cap, rfl, h1, h2, fun _ => ⟨g, rfl⟩⟩
theorem ERow.at {w : World} {B : Nat → Nat} {g n cap : Nat} {l : HL} (h : ERow w B (.slice (some ⟨g, 0, none⟩) n cap) l) (k : Nat) (hk : k < l.length) :
    w.cell? ⟨g, k * 2, none⟩ = some (.string (l[k]).1) ∧ w.cell? ⟨g, k * 2 + 1, none⟩ = some (.pointer (some ⟨B (l[k]).2, 0, none⟩)) := by
  obtain ⟨h0, h1⟩ := ecells_at B l k hk
  have c0 := World.ownsRow.cells h (g := g) rfl _ _ h0
  have c1 := World.ownsRow.cells h (g := g) rfl _ _ h1
  rw [add_lit', Nat.zero_add] at c0 c1
  exact ⟨c0, c1⟩

set_option maxHeartbeats 4000000 in
set_option maxRecDepth 100000 in
theorem searchE_c (B : Nat → Nat) (l : HL) (hs : Srt l) (hl : l.length ≤ 1000) (name : Nm) (v : Value) (w : World) (h : ERow w B v l) :
    Calls Try.prog 62 #[v, .string name, .func (.func 63) #[] #[]] w fun e w' => e = .returned (.tuple #[.int .i64 (posH l name : Nat), .bool (getH l name).isSome]) ∧ Below w.heap.size w w' := by
  have HE := hidden h
  obtain ⟨ao, cap, rfl, hc, hcm, hne⟩ := h.shape
  unfold maxLen at hcm
  clear h
  go_enter Try.func62, Try.ntmps62
  go_wp2
  go_loopw [9, 10] (fun x y wr => ∃ i j : Nat, x = .int .i64 i ∧ y = .int .i64 j ∧ i ≤ j ∧ j ≤ l.length ∧ (∀ k (hk : k < l.length), k < i → nlt (l[k]).1 name = true) ∧ (∀ k (hk : k < l.length), j ≤ k → nlt (l[k]).1 name = false) ∧ Below w.heap.size w wr) (fun x y _ => (intOf y - intOf x).toNat)
  case atStart => exact ⟨0, l.length, rfl, rfl, Nat.zero_le _, Nat.le_refl _, fun k _ h => by omega, fun k h1 h2 => by omega, Below.refl _ _⟩
  case round =>
    obtain ⟨i, j, rfl, rfl, hij, hjl, hlo, hhi, hb⟩ := hrel
    have HL := hidden hlo
    have HH := hidden hhi
    have HB := hidden hb
    clear hlo hhi hb
    by_cases hlt : i < j
    · have hi1 : (i : Int) < (j : Int) := by omega
      obtain ⟨g, rfl⟩ := hne (by rintro rfl; simp at hjl; omega)
      have hml : (i + j) / 2 < l.length := by omega
      obtain ⟨c0, c1⟩ := (HE.out.fresh HB.out).at ((i + j) / 2) hml
      have HC := hidden (cmpN_lt (l[(i + j) / 2]).1 name)
      have HS := hidden (fun k (hk : k < l.length) => (List.pairwise_iff_getElem.1 hs) k ((i + j) / 2) hk hml)
      have HT := hidden (fun k (hk : k < l.length) => (List.pairwise_iff_getElem.1 hs) ((i + j) / 2) k hml hk)
      cases hn : nlt (l[(i + j) / 2]).1 name with
      | true =>
        have HM : Hid (∀ k (hk : k < l.length), k < (i + j) / 2 + 1 → nlt (l[k]).1 name = true) := fun k hk h => by
          by_cases e : k = (i + j) / 2
          · subst e; exact hn
          · exact nlt_trans (HS.out k hk (by omega)) hn
        rw [hn] at HC
        have hcn : cmpN (l[(i + j) / 2]).1 name < 0 := by simpa using HC.out
        clear HC HS HT hn
        generalize l[(i + j) / 2] = e0 at c0 c1 hcn
        go_wp2_with fail
        refine (cmpE_c _ _ _ _).mono ?_
        rintro e w1 ⟨rfl, hb1⟩
        have HB1 := hidden (HB.out.trans (hb1.mono HB.out.size))
        clear hb1
        go_wp2_with fail
        go_roundw
        case rel => exact ⟨(i + j) / 2 + 1, j, by go_num, rfl, by omega, hjl, HM.out, HH.out, HB1.out⟩
        case measure => simp [intOf]; omega
      | false =>
        have HM : Hid (∀ k (hk : k < l.length), (i + j) / 2 ≤ k → nlt (l[k]).1 name = false) := fun k hk h => by
          by_cases e : k = (i + j) / 2
          · subst e; exact hn
          · cases hx : nlt (l[k]).1 name with
            | false => rfl
            | true => rw [nlt_trans (HT.out k hk (by omega)) hx] at hn; cases hn
        rw [hn] at HC
        have hcn : ¬ cmpN (l[(i + j) / 2]).1 name < 0 := by simpa using HC.out
        clear HC HS HT hn
        generalize l[(i + j) / 2] = e0 at c0 c1 hcn
        go_wp2_with fail
        refine (cmpE_c _ _ _ _).mono ?_
        rintro e w1 ⟨rfl, hb1⟩
        have HB1 := hidden (HB.out.trans (hb1.mono HB.out.size))
        clear hb1
        go_wp2_with fail
        go_roundw
        case rel => exact ⟨i, (i + j) / 2, rfl, by go_num, by omega, by omega, HL.out, HM.out, HB1.out⟩
        case measure => simp [intOf]; omega
    · obtain rfl : i = j := by omega
      have HP := hidden (posH_uniq hs hjl (fun k hk h => HL.out k hk h) (fun k hk h => HH.out k hk h))
      have HG := hidden (getH_at hs name)
      rw [← HP.out] at HG
      have hi1 : ¬ (i : Int) < (i : Int) := by omega
      by_cases hil : i < l.length
      · have hi2 : (i : Int) < (l.length : Int) := by omega
        obtain ⟨g, rfl⟩ := hne (by rintro rfl; simp at hil)
        obtain ⟨c0, c1⟩ := (HE.out.fresh HB.out).at i hil
        rw [dif_pos hil] at HG
        have hcq := cmpN_eq (l[i]).1 name
        have HF : Hid ((cmpN (l[i]).1 name == 0) = (getH l name).isSome) := by
          show _ = _
          rw [HG.out]
          by_cases e : (l[i]).1 = name
          · rw [if_pos e, hcq.2 e]; rfl
          · rw [if_neg e, beq_eq_false_iff_ne.2 fun h => e (hcq.1 h)]; rfl
        clear HG hcq
        generalize l[i] = e0 at c0 c1 HF
        go_wp2_with fail
        refine (cmpE_c _ _ _ _).mono ?_
        rintro e w1 ⟨rfl, hb1⟩
        have HB1 := hidden (HB.out.trans (hb1.mono HB.out.size))
        clear hb1
        go_wp2_with fail
        go_ret2
        exact ⟨by rw [← HP.out, ← HF.out]; rfl, HB1.out⟩
      · have hi2 : ¬ (i : Int) < (l.length : Int) := by omega
        rw [dif_neg hil] at HG
        go_wp2_with fail
        go_ret2
        exact ⟨by rw [← HP.out, HG.out]; rfl, HB.out⟩
end Go.Proofs.Ytnigfnikajejaab
