/- What attr's Put does to a Writer. -/
import Derived.Test.YtnigfnikajejaabAtA
import Derived.Deep.CutRange
namespace Go.Proofs.Ytnigfnikajejaab
open Go Go.RowKit


/-- From w on a Writer has written up to L. -/
def PS (w wx : World) (base a : Nat) (g : Option Nat) (L : List UInt8) : Prop := ∃ g', WS wx base a g' L ∧ Wrote a g g' w wx
theorem ps_u32 (n : Nat) (hn : n ≤ 4294967295) (w wx : World) {base a : Nat} {g : Option Nat} {L : List UInt8} (h : PS w wx base a g L) (hl : L.length + 8 ≤ 140737488355328) :
    Calls Try.prog 55 #[.pointer (some ⟨a, 0, none⟩), .int .u32 n] wx fun e w' => e = .returned (.tuple #[]) ∧ PS w w' base a g (L ++ be 4 n) := by
  obtain ⟨g1, h1, h2⟩ := h
  refine (u32_c (n : Int) (by omega) (by omega) wx h1 hl).mono ?_
  rintro e w' ⟨rfl, g2, h3, h4⟩
  exact ⟨rfl, g2, h3, h2.trans h4⟩
theorem ps_u64 (n : Nat) (hn : n ≤ 18446744073709551615) (w wx : World) {base a : Nat} {g : Option Nat} {L : List UInt8} (h : PS w wx base a g L) (hl : L.length + 8 ≤ 140737488355328) :
    Calls Try.prog 33 #[.pointer (some ⟨a, 0, none⟩), .int .u64 n] wx fun e w' => e = .returned (.tuple #[]) ∧ PS w w' base a g (L ++ be 8 n) := by
  obtain ⟨g1, h1, h2⟩ := h
  refine (u64_c (n : Int) (by omega) (by omega) wx h1 hl).mono ?_
  rintro e w' ⟨rfl, g2, h3, h4⟩
  exact ⟨rfl, g2, h3, h2.trans h4⟩
theorem PS.box {w wx : World} {base a B : Nat} {g : Option Nat} {L : List UInt8} {o : Obj} (h : PS w wx base a g L) (hB : w.heap[B]? = some o) (ha : B ≠ a) (hg : g ≠ some B) : wx.heap[B]? = some o := by
  obtain ⟨g1, h1, h2⟩ := h
  rw [h2.keeps.block B (lt_of_block hB) (by rintro (e | e); exact ha e; exact hg e)]
  exact hB
theorem cells7 {w : World} {B : Nat} {t : TypeId} {v0 v1 v2 v3 v4 v5 v6 : Value} (h : w.heap[B]? = some (.cells #[v0, v1, v2, v3, v4, v5, v6] t (0, 0))) :
    w.cell? ⟨B, 0, none⟩ = some v0 ∧ w.cell? ⟨B, 1, none⟩ = some v1 ∧ w.cell? ⟨B, 2, none⟩ = some v2 ∧ w.cell? ⟨B, 3, none⟩ = some v3 ∧ w.cell? ⟨B, 4, none⟩ = some v4 ∧ w.cell? ⟨B, 5, none⟩ = some v5 ∧ w.cell? ⟨B, 6, none⟩ = some v6 ∧ ∀ j, w.frozen? ⟨B, j, none⟩ = false := by
  refine ⟨?_, ?_, ?_, ?_, ?_, ?_, ?_, fun j => by simp [World.frozen?, h]⟩ <;> simp [World.cell?, h]
theorem put1_le (x : At) : (put1 x).length ≤ 8 := by unfold put1; split <;> simp [be_length]
theorem put2_le (x : At) : (put2 x).length ≤ 8 := by unfold put2; split <;> simp [be_length]
theorem put4_le (x : At) : (put4 x).length ≤ 4 := by unfold put4; split <;> simp [be_length]
theorem put8_le (x : At) : (put8 x).length ≤ 8 := by unfold put8; split <;> simp [be_length]
theorem putA_le (x : At) : (putA x).length ≤ 32 := by
  have := put1_le x; have := put2_le x; have := put4_le x; have := put8_le x
  simp only [putA, List.length_append, be_length]; omega
set_option maxHeartbeats 1600000 in
set_option maxRecDepth 100000 in
theorem put_c (x : At) (hx : x.Ok) (w : World) {base a : Nat} {g : Option Nat} {bs : List UInt8} (h : WS w base a g bs) (hl : bs.length + 100 ≤ 140737488355328) :
    Calls Try.prog 53 #[.pointer (some ⟨a, 0, none⟩), x.v] w fun e w' => e = .returned (.tuple #[]) ∧ ∃ g', WS w' base a g' (bs ++ putA x) ∧ Wrote a g g' w w' := by
  obtain ⟨e1, e2, e4, e8, n1, n2, n4, n8⟩ := bits_of x.f hx.f
  clear e1 e2 e4 e8
  have p1 := put1_le x
  have p2 := put2_le x
  have p4 := put4_le x
  have hlt := h.lt
  have hrow := h.rowLt
  have hB := heap_alloc_new w (.cells x.cells 30)
  have hP : PS (w.alloc (.cells x.cells 30)) (w.alloc (.cells x.cells 30)) base a g bs := ⟨g, h.keep (S := fun _ => False) ((Keeps.refl _ _).alloc _) (fun h => h) (fun _ _ h => h), Wrote.refl _ _ _⟩
  have hBa : w.heap.size ≠ a := by omega
  have hBg : g ≠ some w.heap.size := fun e => by have := (hrow _ e).2; omega
  obtain ⟨W1, hW1⟩ : ∃ W1, W1 = w.alloc (.cells x.cells 30) := ⟨_, rfl⟩
  rw [← hW1] at hB hP
  have hK : Keeps (fun k => k = a ∨ g = some k) w W1 := by rw [hW1]; exact (Keeps.refl _ _).alloc _
  unfold At.v
  have hfin : ∀ w', PS W1 w' base a g (bs ++ putA x) → ∃ g', WS w' base a g' (bs ++ putA x) ∧ Wrote a g g' w w' := by
    rintro w' ⟨g', q1, q2⟩
    refine ⟨g', q1, hK.trans q2.keeps, ?_⟩
    rcases q2.row with q3 | ⟨k, q3, q4⟩
    · exact .inl q3
    · exact .inr ⟨k, q3, Nat.le_trans hK.size q4⟩
  generalize hBn : w.heap.size = B at hB hBa hBg
  unfold At.cells at hW1 hB ⊢
  go_enter Try.func53, Try.ntmps53
  go_wp2_with fail
  rw [← hW1]
  refine (ps_u32 x.f hx.f W1 _ hP (by omega)).mono ?_
  rintro e w2 ⟨rfl, h2⟩
  have hb2 := h2.box hB hBa hBg
  obtain ⟨c0, c1, c2, c3, c4, c5, c6, cf⟩ := cells7 hb2
  clear hW1 hBn hP
  go_upto_if 13 with fail
  go_cut [] from 10 to 17 (fun wx => PS W1 wx base a g (bs ++ be 4 x.f ++ put1 x))
  case first =>
    cases hb : bt 1 x.f with
    | false =>
      rw [hb] at n1
      have e0 : put1 x = [] := by simp [put1, hb]
      go_wp2_with fail
      go_meet
      case rel => rw [e0, List.append_nil]; exact h2
    | true =>
      rw [hb] at n1
      have e0 : put1 x = be 8 x.s := by simp [put1, hb]
      go_wp2_with fail
      refine (ps_u64 x.s hx.s W1 _ h2 (by simp only [List.length_append, be_length]; omega)).mono ?_
      rintro e wp ⟨rfl, hwp⟩
      have hb_wp := hwp.box hB hBa hBg
      clear c0 c1 c2 c3 c4 c5 c6 cf
      obtain ⟨c0, c1, c2, c3, c4, c5, c6, cf⟩ := cells7 hb_wp
      go_wp2_with fail
      go_meet
      case rel => rw [e0]; first | exact hwp | (rw [← List.append_assoc]; exact hwp)
  case rest =>
  clear h2 hb2 c0 c1 c2 c3 c4 c5 c6 cf
  obtain ⟨w2, hw2⟩ : ∃ W, W = wc := ⟨_, rfl⟩
  rw [← hw2] at hcut ⊢
  have h2 := hcut
  have hb2 := h2.box hB hBa hBg
  obtain ⟨c0, c1, c2, c3, c4, c5, c6, cf⟩ := cells7 hb2
  clear hcut hw2
  go_upto_if 21 with fail
  go_cut [] from 18 to 29 (fun wx => PS W1 wx base a g (bs ++ be 4 x.f ++ put1 x ++ put2 x))
  case first =>
    cases hb : bt 2 x.f with
    | false =>
      rw [hb] at n2
      have e0 : put2 x = [] := by simp [put2, hb]
      go_wp2_with fail
      go_meet
      case rel => rw [e0, List.append_nil]; exact h2
    | true =>
      rw [hb] at n2
      have e0 : put2 x = be 4 x.u ++ be 4 x.g := by simp [put2, hb]
      go_wp2_with fail
      refine (ps_u32 x.u hx.u W1 _ h2 (by simp only [List.length_append, be_length]; omega)).mono ?_
      rintro e wp ⟨rfl, hwp⟩
      have hb_wp := hwp.box hB hBa hBg
      clear c0 c1 c2 c3 c4 c5 c6 cf
      obtain ⟨c0, c1, c2, c3, c4, c5, c6, cf⟩ := cells7 hb_wp
      go_wp2_with fail
      refine (ps_u32 x.g hx.g W1 _ hwp (by simp only [List.length_append, be_length]; omega)).mono ?_
      rintro e wq ⟨rfl, hwq⟩
      have hb_wq := hwq.box hB hBa hBg
      clear c0 c1 c2 c3 c4 c5 c6 cf
      obtain ⟨c0, c1, c2, c3, c4, c5, c6, cf⟩ := cells7 hb_wq
      go_wp2_with fail
      go_meet
      case rel => rw [e0]; first | exact hwq | (rw [← List.append_assoc]; exact hwq)
  case rest =>
  clear h2 hb2 c0 c1 c2 c3 c4 c5 c6 cf
  obtain ⟨w2, hw2⟩ : ∃ W, W = wc := ⟨_, rfl⟩
  rw [← hw2] at hcut ⊢
  have h2 := hcut
  have hb2 := h2.box hB hBa hBg
  obtain ⟨c0, c1, c2, c3, c4, c5, c6, cf⟩ := cells7 hb2
  clear hcut hw2
  go_upto_if 33 with fail
  go_cut [] from 30 to 37 (fun wx => PS W1 wx base a g (bs ++ be 4 x.f ++ put1 x ++ put2 x ++ put4 x))
  case first =>
    cases hb : bt 4 x.f with
    | false =>
      rw [hb] at n4
      have e0 : put4 x = [] := by simp [put4, hb]
      go_wp2_with fail
      go_meet
      case rel => rw [e0, List.append_nil]; exact h2
    | true =>
      rw [hb] at n4
      have e0 : put4 x = be 4 x.m := by simp [put4, hb]
      go_wp2_with fail
      refine (ps_u32 x.m hx.m W1 _ h2 (by simp only [List.length_append, be_length]; omega)).mono ?_
      rintro e wp ⟨rfl, hwp⟩
      have hb_wp := hwp.box hB hBa hBg
      clear c0 c1 c2 c3 c4 c5 c6 cf
      obtain ⟨c0, c1, c2, c3, c4, c5, c6, cf⟩ := cells7 hb_wp
      go_wp2_with fail
      go_meet
      case rel => rw [e0]; first | exact hwp | (rw [← List.append_assoc]; exact hwp)
  case rest =>
  clear h2 hb2 c0 c1 c2 c3 c4 c5 c6 cf
  obtain ⟨w2, hw2⟩ : ∃ W, W = wc := ⟨_, rfl⟩
  rw [← hw2] at hcut ⊢
  have h2 := hcut
  have hb2 := h2.box hB hBa hBg
  obtain ⟨c0, c1, c2, c3, c4, c5, c6, cf⟩ := cells7 hb2
  clear hcut hw2
  cases hb : bt 8 x.f with
  | false =>
    rw [hb] at n8
    have e0 : put8 x = [] := by simp [put8, hb]
    go_wp2_with fail
    go_end0
    refine ⟨rfl, hfin _ ?_⟩
    unfold putA
    rw [e0, List.append_nil]
    simpa only [List.append_assoc] using h2
  | true =>
    rw [hb] at n8
    have e0 : put8 x = be 4 x.a ++ be 4 x.t := by simp [put8, hb]
    go_wp2_with fail
    refine (ps_u32 x.a hx.a W1 _ h2 (by simp only [List.length_append, be_length]; omega)).mono ?_
    rintro e wp ⟨rfl, hwp⟩
    have hb_wp := hwp.box hB hBa hBg
    clear c0 c1 c2 c3 c4 c5 c6 cf
    obtain ⟨c0, c1, c2, c3, c4, c5, c6, cf⟩ := cells7 hb_wp
    go_wp2_with fail
    refine (ps_u32 x.t hx.t W1 _ hwp (by simp only [List.length_append, be_length]; omega)).mono ?_
    rintro e wq ⟨rfl, hwq⟩
    have hb_wq := hwq.box hB hBa hBg
    clear c0 c1 c2 c3 c4 c5 c6 cf
    obtain ⟨c0, c1, c2, c3, c4, c5, c6, cf⟩ := cells7 hb_wq
    go_wp2_with fail
    go_end0
    refine ⟨rfl, hfin _ ?_⟩
    unfold putA
    rw [e0]
    simpa only [List.append_assoc] using hwq

end Go.Proofs.Ytnigfnikajejaab
