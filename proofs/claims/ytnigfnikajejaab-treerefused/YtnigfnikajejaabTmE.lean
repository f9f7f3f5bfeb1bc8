/- The search among all things, by their numbers. -/
import Derived.Test.YtnigfnikajejaabTmD
namespace Go.Proofs.Ytnigfnikajejaab
open Go Go.RowKit

/-- The same of all things, by their numbers. -/
def tlt (x : Th) (i : Int) : Bool := decide ((x.id : Int) < i)
def posT (l : List Th) (i : Int) : Nat := (l.takeWhile fun x => tlt x i).length
def cmpI (a b : Int) : Int := if a < b then -1 else if b < a then 1 else 0
def cmpT (x : Th) (i : Int) : Int := cmpI x.id i
theorem cmpT_lt (x : Th) (i : Int) : decide (cmpT x i < 0) = tlt x i := by
  unfold cmpT cmpI tlt
  split
  · next h => simp [h]
  · next h => split <;> simp [h]
theorem cmpT_eq (x : Th) (i : Int) : cmpT x i = 0 ↔ (x.id : Int) = i := by
  unfold cmpT cmpI
  split
  · constructor
    · intro h; cases h
    · omega
  · split
    · constructor
      · intro h; cases h
      · omega
    · constructor
      · omega
      · intro _; rfl
theorem tlt_down {x y : Th} {i : Int} (h : x.id < y.id) (k : tlt y i = true) : tlt x i = true := by
  unfold tlt at k ⊢
  simp only [decide_eq_true_eq] at k ⊢
  omega
theorem posT_cons (e : Th) (h : List Th) (i : Int) : posT (e :: h) i = if tlt e i then posT h i + 1 else 0 := by
  unfold posT
  rw [List.takeWhile_cons]
  split <;> simp
theorem posT_le (h : List Th) (i : Int) : posT h i ≤ h.length := List.Sublist.length_le (List.takeWhile_sublist _)
theorem posT_uniq {h : List Th} (s : Inc h) {i : Int} {p : Nat} (hp : p ≤ h.length) (h1 : ∀ k (hl : k < h.length), k < p → tlt (h[k]) i = true) (h2 : ∀ k (hl : k < h.length), p ≤ k → tlt (h[k]) i = false) : p = posT h i := by
  induction h generalizing p with
  | nil => simp at hp; subst hp; rfl
  | cons e r ih =>
    rw [posT_cons]
    cases p with
    | zero => rw [if_neg (by have := h2 0 (by simp) (Nat.le_refl _); simpa using this)]
    | succ p =>
      rw [if_pos (by have := h1 0 (by simp) (by omega); simpa using this)]
      rw [← ih (List.pairwise_cons.1 s).2 (p := p) (by simpa using hp) (fun k hl hk => h1 (k + 1) (by simpa using hl) (by omega)) (fun k hl hk => h2 (k + 1) (by simpa using hl) (by omega))]
theorem posT_lt {h : List Th} {i : Int} {k : Nat} (hk : k < posT h i) (hl : k < h.length) : tlt (h[k]) i = true := by
  induction h generalizing k with
  | nil => simp at hl
  | cons e r ih =>
    rw [posT_cons] at hk
    cases he : tlt e i
    · rw [he] at hk; simp at hk
    · rw [he, if_pos rfl] at hk
      cases k with
      | zero => simpa using he
      | succ k => simpa using ih (k := k) (by omega) (by simpa using hl)
theorem posT_ge {h : List Th} (s : Inc h) {i : Int} {k : Nat} (hk : posT h i ≤ k) (hl : k < h.length) : tlt (h[k]) i = false := by
  induction h generalizing k with
  | nil => simp at hl
  | cons e r ih =>
    obtain ⟨s1, s2⟩ := List.pairwise_cons.1 s
    rw [posT_cons] at hk
    cases he : tlt e i
    · cases k with
      | zero => simpa using he
      | succ k =>
        have hm : r[k]'(by simpa using hl) ∈ r := List.getElem_mem _
        have h1 := s1 _ hm
        show tlt (r[k]'(by simpa using hl)) i = false
        cases hx : tlt (r[k]'(by simpa using hl)) i
        · rfl
        · rw [tlt_down h1 hx] at he; cases he
    · rw [he, if_pos rfl] at hk
      cases k with
      | zero => omega
      | succ k => simpa using ih s2 (k := k) (by omega) (by simpa using hl)
theorem findT_at {h : List Th} (s : Inc h) (i : Int) : findT h i = if hp : posT h i < h.length then (if ((h[posT h i]).id : Int) = i then some (h[posT h i]) else none) else none := by
  split
  · next hp =>
    split
    · next e => exact (findT_some s i _).2 ⟨List.getElem_mem hp, e⟩
    · next e =>
      rw [findT_none]
      intro x hm hx
      obtain ⟨k, hk, rfl⟩ := List.mem_iff_getElem.1 hm
      rcases Nat.lt_trichotomy k (posT h i) with hlt | heq | hgt
      · have := posT_lt hlt hk
        unfold tlt at this; simp at this; omega
      · subst heq; exact e hx
      · have h1 := List.pairwise_iff_getElem.1 s _ _ hp hk hgt
        have h2 := posT_ge s (Nat.le_refl _) hp
        unfold tlt at h2; simp at h2; omega
  · next hp =>
    rw [findT_none]
    intro x hm hx
    obtain ⟨k, hk, rfl⟩ := List.mem_iff_getElem.1 hm
    have hlt : k < posT h i := by omega
    have := posT_lt hlt hk
    unfold tlt at this; simp at this; omega
/-- A thing's block. -/
def ThB (w : World) (x : Th) (b : Nat) (dv hv : Value) : Prop :=
  w.heap[b]? = some (.cells #[.int .i64 x.id, .bool x.dir, .int .u32 x.a.f, .int .u64 x.a.s, .int .u32 x.a.u, .int .u32 x.a.g, .int .u32 x.a.m, .int .u32 x.a.a, .int .u32 x.a.t, dv, hv] 67 (0, 0))
theorem ThB.keep {S : Nat → Prop} {w w' : World} {x : Th} {b : Nat} {dv hv : Value} (h : ThB w x b dv hv) (hk : Keeps S w w') (hb : ¬ S b) : ThB w' x b dv hv := (hk.block b (lt_of_block h) hb).trans h
/-- The row of all things: where they lie; each tells its number. -/
def tcells (B : Nat → Nat) (l : List Th) : List Value := l.map fun x => .pointer (some ⟨B x.id, 0, none⟩)
theorem tcells_one (B : Nat → Nat) (l : List Th) : ∀ u ∈ tcells B l, u.oneCell' = true := by
  intro u hu
  obtain ⟨x, _, rfl⟩ := List.mem_map.1 hu
  rfl
structure PRow (w : World) (B : Nat → Nat) (v : Value) (l : List Th) : Prop where
  own : w.ownsRow 0 53 1 v l.length (tcells B l)
  num : ∀ x ∈ l, w.cell? ⟨B x.id, 0, none⟩ = some (.int .i64 x.id)
theorem PRow.keep {S : Nat → Prop} {w w' : World} {B : Nat → Nat} {v : Value} {l : List Th} (h : PRow w B v l) (hk : Keeps S w w') (hn : ∀ k, v.ownBlock = some k → ¬ S k) (hb : ∀ x ∈ l, ¬ S (B x.id)) : PRow w' B v l :=
  ⟨hk.row h.own hn, fun x hx => hk.cell (h.num x hx) (hb x hx)⟩
theorem PRow.fresh {w w' : World} {B : Nat → Nat} {v : Value} {l : List Th} (h : PRow w B v l) (hb : Below w.heap.size w w') : PRow w' B v l := h.keep (S := fun _ => False) (Keeps.ofFresh hb) (fun _ _ h => h) fun _ _ h => h
theorem PRow.shape {w : World} {B : Nat → Nat} {v : Value} {l : List Th} (h : PRow w B v l) : ∃ ao cap, v = .slice ao l.length cap ∧ l.length ≤ cap ∧ cap ≤ maxLen ∧ (l ≠ [] → ∃ g, ao = some ⟨g, 0, none⟩) := by
  rcases h.own.2 with ⟨rfl, h0⟩ | ⟨g, cap, cur, rfl, _, _, h1, h2, _⟩
  · refine ⟨none, 0, by rw [h0], by omega, by simp [maxLen], fun h => absurd (List.eq_nil_of_length_eq_zero h0) h⟩
  · exact ⟨_, cap, rfl, h1, h2, fun _ => ⟨g, rfl⟩⟩
theorem PRow.at {w : World} {B : Nat → Nat} {g n cap : Nat} {l : List Th} (h : PRow w B (.slice (some ⟨g, 0, none⟩) n cap) l) (k : Nat) (hk : k < l.length) :
    w.cell? ⟨g, k, none⟩ = some (.pointer (some ⟨B (l[k]).id, 0, none⟩)) ∧ w.cell? ⟨B (l[k]).id, 0, none⟩ = some (.int .i64 (l[k]).id) := by
  have c0 := World.ownsRow.cells h.own (g := g) rfl k (.pointer (some ⟨B (l[k]).id, 0, none⟩)) (by simp [tcells, hk])
  rw [add_lit', Nat.zero_add] at c0
  exact ⟨c0, h.num _ (List.getElem_mem hk)⟩
set_option maxHeartbeats 400000 in
theorem isNaN_c (a : Int) (w : World) : Calls Try.prog 73 #[.int .i64 a] w fun e w' => e = .returned (.bool false) ∧ w' = w := by
  go_enter Try.func73, Try.ntmps73
  go_wp2
  go_ret
  exact ⟨by simp, rfl⟩
set_option maxHeartbeats 400000 in
theorem icmp_c (a b : Int) (w : World) : Calls Try.prog 70 #[.int .i64 a, .int .i64 b] w fun e w' => e = .returned (.int .i64 (cmpI a b)) ∧ w' = w := by
  by_cases h1 : a < b
  · rw [show cmpI a b = -1 from if_pos h1]
    go_enter Try.func70, Try.ntmps70
    go_wp2_with (go_at_call 73; refine (isNaN_c _ _).mono ?_; rintro e w' ⟨rfl, rfl⟩)
    go_ret
    exact ⟨rfl, rfl⟩
  · by_cases h2 : b < a
    · rw [show cmpI a b = 1 from (if_neg h1).trans (if_pos h2)]
      go_enter Try.func70, Try.ntmps70
      go_wp2_with (go_at_call 73; refine (isNaN_c _ _).mono ?_; rintro e w' ⟨rfl, rfl⟩)
      go_ret
      exact ⟨rfl, rfl⟩
    · rw [show cmpI a b = 0 from (if_neg h1).trans (if_neg h2)]
      go_enter Try.func70, Try.ntmps70
      go_wp2_with (go_at_call 73; refine (isNaN_c _ _).mono ?_; rintro e w' ⟨rfl, rfl⟩)
      go_ret
      exact ⟨rfl, rfl⟩
set_option maxHeartbeats 400000 in
theorem cmpP_c (x : Th) (b : Nat) (i : Int) (w : World) (hx : w.cell? ⟨b, 0, none⟩ = some (.int .i64 x.id)) : Calls Try.prog 69 #[.pointer (some ⟨b, 0, none⟩), .int .i64 i] w fun e w' => e = .returned (.int .i64 (cmpT x i)) ∧ w' = w := by
  go_enter Try.func69, Try.ntmps69
  go_wp2_with (go_at_call 70; refine (icmp_c _ _ _).mono ?_; rintro e w' ⟨rfl, rfl⟩)
  go_ret
  exact ⟨rfl, rfl⟩

set_option maxHeartbeats 4000000 in
set_option maxRecDepth 100000 in
theorem searchP_c (B : Nat → Nat) (l : List Th) (hs : Inc l) (hl : l.length ≤ 1000) (name : Int) (v : Value) (w : World) (h : PRow w B v l) :
    Calls Try.prog 68 #[v, .int .i64 name, .func (.func 69) #[] #[]] w fun e w' => e = .returned (.tuple #[.int .i64 (posT l name : Nat), .bool (findT l name).isSome]) ∧ Below w.heap.size w w' := by
  have HE := hidden h
  obtain ⟨ao, cap, rfl, hc, hcm, hne⟩ := h.shape
  unfold maxLen at hcm
  clear h
  go_enter Try.func68, Try.ntmps68
  go_wp2
  go_loopw [9, 10] (fun x y wr => ∃ i j : Nat, x = .int .i64 i ∧ y = .int .i64 j ∧ i ≤ j ∧ j ≤ l.length ∧ (∀ k (hk : k < l.length), k < i → tlt (l[k]) name = true) ∧ (∀ k (hk : k < l.length), j ≤ k → tlt (l[k]) name = false) ∧ Below w.heap.size w wr) (fun x y _ => (intOf y - intOf x).toNat)
  case atStart => exact ⟨0, l.length, rfl, rfl, Nat.zero_le _, Nat.le_refl _, fun k _ h => by omega, fun k h1 h2 => by omega, Below.refl _ _⟩
  case round =>
    obtain ⟨i, j, rfl, rfl, hij, hjl, hlo, hhi, hb⟩ := hrel
    have HL := hidden hlo
    have HH := hidden hhi
    have HB := hidden hb
    clear hlo hhi hb
    by_cases hlt : i < j
    · have hi1 : (i : Int) < (j : Int) := by omega
      obtain ⟨g, rfl⟩ := hne (by rintro rfl; simp at hjl; omega)
      have hml : (i + j) / 2 < l.length := by omega
      obtain ⟨c0, c1⟩ := (HE.out.fresh HB.out).at ((i + j) / 2) hml
      have HC := hidden (cmpT_lt (l[(i + j) / 2]) name)
      have HS := hidden (fun k (hk : k < l.length) => (List.pairwise_iff_getElem.1 hs) k ((i + j) / 2) hk hml)
      have HT := hidden (fun k (hk : k < l.length) => (List.pairwise_iff_getElem.1 hs) ((i + j) / 2) k hml hk)
      cases hn : tlt (l[(i + j) / 2]) name with
      | true =>
        have HM : Hid (∀ k (hk : k < l.length), k < (i + j) / 2 + 1 → tlt (l[k]) name = true) := fun k hk h => by
          by_cases e : k = (i + j) / 2
          · subst e; exact hn
          · exact tlt_down (HS.out k hk (by omega)) hn
        rw [hn] at HC
        have hcn : cmpT (l[(i + j) / 2]) name < 0 := by simpa using HC.out
        clear HC HS HT hn
        generalize l[(i + j) / 2] = e0 at c0 c1 hcn
        go_wp2_with fail
        refine (cmpP_c e0 _ _ _ c1).mono ?_
        rintro e w1 ⟨rfl, rfl⟩
        go_wp2_with fail
        go_roundw
        case rel => exact ⟨(i + j) / 2 + 1, j, by go_num, rfl, by omega, hjl, HM.out, HH.out, HB.out⟩
        case measure => simp [intOf]; omega
      | false =>
        have HM : Hid (∀ k (hk : k < l.length), (i + j) / 2 ≤ k → tlt (l[k]) name = false) := fun k hk h => by
          by_cases e : k = (i + j) / 2
          · subst e; exact hn
          · cases hx : tlt (l[k]) name with
            | false => rfl
            | true => rw [tlt_down (HT.out k hk (by omega)) hx] at hn; cases hn
        rw [hn] at HC
        have hcn : ¬ cmpT (l[(i + j) / 2]) name < 0 := by simpa using HC.out
        clear HC HS HT hn
        generalize l[(i + j) / 2] = e0 at c0 c1 hcn
        go_wp2_with fail
        refine (cmpP_c e0 _ _ _ c1).mono ?_
        rintro e w1 ⟨rfl, rfl⟩
        go_wp2_with fail
        go_roundw
        case rel => exact ⟨i, (i + j) / 2, rfl, by go_num, by omega, by omega, HL.out, HM.out, HB.out⟩
        case measure => simp [intOf]; omega
    · obtain rfl : i = j := by omega
      have HP := hidden (posT_uniq hs hjl (fun k hk h => HL.out k hk h) (fun k hk h => HH.out k hk h))
      have HG := hidden (findT_at hs name)
      rw [← HP.out] at HG
      have hi1 : ¬ (i : Int) < (i : Int) := by omega
      by_cases hil : i < l.length
      · have hi2 : (i : Int) < (l.length : Int) := by omega
        obtain ⟨g, rfl⟩ := hne (by rintro rfl; simp at hil)
        obtain ⟨c0, c1⟩ := (HE.out.fresh HB.out).at i hil
        rw [dif_pos hil] at HG
        have hcq := cmpT_eq (l[i]) name
        have HF : Hid ((cmpT (l[i]) name == 0) = (findT l name).isSome) := by
          show _ = _
          rw [HG.out]
          by_cases e : ((l[i]).id : Int) = name
          · rw [if_pos e, hcq.2 e]; rfl
          · rw [if_neg e, beq_eq_false_iff_ne.2 fun h => e (hcq.1 h)]; rfl
        clear HG hcq
        generalize l[i] = e0 at c0 c1 HF
        go_wp2_with fail
        refine (cmpP_c e0 _ _ _ c1).mono ?_
        rintro e w1 ⟨rfl, rfl⟩
        go_wp2_with fail
        go_ret2
        exact ⟨by rw [← HP.out, ← HF.out]; rfl, HB.out⟩
      · have hi2 : ¬ (i : Int) < (l.length : Int) := by omega
        rw [dif_neg hil] at HG
        go_wp2_with fail
        go_ret2
        exact ⟨by rw [← HP.out, HG.out]; rfl, HB.out⟩
end Go.Proofs.Ytnigfnikajejaab
