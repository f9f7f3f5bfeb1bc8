/- What the document's Put answers. -/
import Derived.Test.YtkbfgfpdchgjpaaAtD
import Derived.Deep.RegionHeld3
namespace Go.Proofs.Ytkbfgfpdchgjpaa
open Go Go.RowKit

/-- From w on a new row has been made, it reads as L. -/
def RS (w wx : World) (v : Value) (L : List UInt8) : Prop := wx.ownsRow w.heap.size 5 1 v L.length (bcells L) ∧ Below w.heap.size w wx
theorem RS.drew {w wx : World} {v : Value} {L : List UInt8} (h : RS w wx v L) : RS w wx.drew v L := ⟨h.1, h.2.drew⟩
theorem RS.drewN {w wx : World} {v : Value} {L : List UInt8} (h : RS w wx v L) (n : Nat) : RS w (wx.drewN n) v L := ⟨h.1, below_drewN h.2 n⟩
theorem RS.box {w wx : World} {v : Value} {L : List UInt8} {B : Nat} {o : Obj} (h : RS w wx v L) (hB : w.heap[B]? = some o) : wx.heap[B]? = some o := by
  rw [h.2.block B (lt_of_block hB)]; exact hB
theorem rs_u32 (n : Nat) (hn : n ≤ 4294967295) (w wx : World) {v : Value} {L : List UInt8} (h : RS w wx v L) (hl : L.length + 8 ≤ 140737488355328) :
    Calls Try.prog 23 #[v, .int .u32 n] wx fun e w' => ∃ v', e = .returned v' ∧ RS w w' v' (L ++ be 4 n) := by
  refine (ru32_c (n : Int) (by omega) (by omega) v L wx (BSl.ofRow h.1) (by omega)).mono ?_
  rintro e w' hf
  obtain ⟨v', rfl, h3, h4⟩ := Fresh.next h.2 hf
  exact ⟨v', rfl, h3, h4⟩
theorem rs_u64 (n : Nat) (hn : n ≤ 18446744073709551615) (w wx : World) {v : Value} {L : List UInt8} (h : RS w wx v L) (hl : L.length + 8 ≤ 140737488355328) :
    Calls Try.prog 24 #[v, .int .u64 n] wx fun e w' => ∃ v', e = .returned v' ∧ RS w w' v' (L ++ be 8 n) := by
  refine (ru64_c (n : Int) (by omega) (by omega) v L wx (BSl.ofRow h.1) (by omega)).mono ?_
  rintro e w' hf
  obtain ⟨v', rfl, h3, h4⟩ := Fresh.next h.2 hf
  exact ⟨v', rfl, h3, h4⟩

set_option maxHeartbeats 1600000 in
set_option maxRecDepth 100000 in
theorem rput_c (x : At) (hx : x.Ok) (v : Value) (bs : List UInt8) (w : World) (hv : BSl w v bs) (hl : bs.length + 100 ≤ 140737488355328) :
    Calls Try.prog 9 #[v, x.v] w fun e w' => Fresh w (bs ++ putA x) e w' := by
  obtain ⟨e1, e2, e4, e8, n1, n2, n4, n8⟩ := bits_of x.f hx.f
  clear e1 e2 e4 e8
  have p1 := put1_le x
  have p2 := put2_le x
  have p4 := put4_le x
  have hB := heap_alloc_new w (.cells x.cells 25)
  have hV := hv.alloc (.cells x.cells 25)
  have hK : Below w.heap.size w (w.alloc (.cells x.cells 25)) := (Below.refl _ w).alloc (Nat.le_refl _) _
  obtain ⟨W1, hW1⟩ : ∃ W1, W1 = w.alloc (.cells x.cells 25) := ⟨_, rfl⟩
  rw [← hW1] at hB hV hK
  have hfin : ∀ v' w', RS W1 w' v' (bs ++ putA x) → Fresh w (bs ++ putA x) (.returned v') w' := fun v' w' h => Fresh.next hK ⟨v', rfl, h.1, h.2⟩
  unfold At.v
  generalize hBn : w.heap.size = B at hB
  unfold At.cells at hW1 hB ⊢
  go_enter Try.func9, Try.ntmps9
  go_wp2_with fail
  rw [← hW1]
  refine (ru32_c x.f (by omega) (by have := hx.f; omega) v bs W1 hV (by omega)).mono ?_
  rintro e w2 ⟨v2, rfl, q1, q2⟩
  rw [Int.toNat_natCast] at q1
  have h2 : RS W1 w2 v2 (bs ++ be 4 x.f) := ⟨q1, q2⟩
  clear q1 q2
  have hb2 := h2.box hB
  obtain ⟨c0, c1, c2, c3, c4, c5, c6, cf⟩ := cells7 hb2
  have HS : Hid (∀ w' v' L', RS W1 w' v' L' → (w'.cell? ⟨B, 2, none⟩ = some (.int .u32 (x.u : Int)) ∧ w'.cell? ⟨B, 3, none⟩ = some (.int .u32 (x.g : Int))) ∧ w'.cell? ⟨B, 5, none⟩ = some (.int .u32 (x.a : Int)) ∧ w'.cell? ⟨B, 6, none⟩ = some (.int .u32 (x.t : Int))) := hidden fun w' v' L' h => by
    obtain ⟨_, _, c2, c3, _, c5, c6, _⟩ := cells7 (h.box hB)
    exact ⟨⟨c2, c3⟩, c5, c6⟩
  clear hW1 hBn hV
  go_upto_if 12 with fail
  go_cut [0] from 9 to 16 (fun vx wx => RS W1 wx vx (bs ++ be 4 x.f ++ put1 x))
  case first =>
    cases hb : bt 1 x.f with
    | false =>
      rw [hb] at n1
      have e0 : put1 x = [] := by simp [put1, hb]
      go_wp2_with fail
      go_meet
      case rel => rw [e0, List.append_nil]; exact h2
    | true =>
      rw [hb] at n1
      have e0 : put1 x = be 8 x.s := by simp [put1, hb]
      go_wp2_with fail
      refine (rs_u64 x.s hx.s W1 _ h2 (by simp only [List.length_append, be_length]; omega)).mono ?_
      rintro e wp ⟨vp, rfl, hp⟩
      go_wp2_with fail
      go_meet
      case rel => rw [e0]; exact hp
  case rest =>
  clear h2 hb2 c0 c1 c2 c3 c4 c5 c6 cf
  obtain ⟨w2, hw2⟩ : ∃ W, W = wc := ⟨_, rfl⟩
  rw [← hw2] at hcut ⊢
  have h2 := hcut
  have hb2 := h2.box hB
  obtain ⟨c0, c1, c2, c3, c4, c5, c6, cf⟩ := cells7 hb2
  clear hcut hw2
  go_upto_if 20 with fail
  go_cut [0] from 17 to 27 (fun vx wx => RS W1 wx vx (bs ++ be 4 x.f ++ put1 x ++ put2 x))
  case first =>
    cases hb : bt 2 x.f with
    | false =>
      rw [hb] at n2
      have e0 : put2 x = [] := by simp [put2, hb]
      go_wp2_with fail
      go_meet
      case rel => rw [e0, List.append_nil]; exact h2
    | true =>
      rw [hb] at n2
      have e0 : put2 x = be 4 x.u ++ be 4 x.g := by simp [put2, hb]
      have HL : Hid ((bs ++ be 4 x.f ++ put1 x).length + 4 ≤ 140737488355320) := hidden (by simp only [List.length_append, be_length]; omega)
      have HH2 := hidden h2
      generalize hLL : bs ++ be 4 x.f ++ put1 x = L0 at HH2 HL ⊢
      have HLL := hidden hLL
      clear h2 hb2 p1 p2 p4 hLL
      go_wp2_with fail
      go_region_held3 (fun w' => w'.cell? ⟨B, 2, none⟩ = some (.int .u32 (x.u : Int)) ∧ w'.cell? ⟨B, 3, none⟩ = some (.int .u32 (x.g : Int)))
        (first | exact (HS.out _ _ _ HH2.out).1 | exact (HS.out _ _ _ HH2.out.drew).1 | exact (HS.out _ _ _ HP.out).1 | exact (HS.out _ _ _ HQ.out).1)
        (first
          | (go_at_call 23; have HP2 := HP; refine (rs_u32 x.g hx.g W1 _ (by first | exact HP.out | exact HP.out.drew) (by have := HL.out; simp only [List.length_append, be_length]; omega)).mono ?_; rintro e wq ⟨vq, rfl, hq⟩; have HQ := hidden hq; clear hq)
          | (go_at_call 23; refine (rs_u32 x.u hx.u W1 _ (by first | exact HH2.out | exact HH2.out.drew) (by have := HL.out; omega)).mono ?_; rintro e wp ⟨vp, rfl, hp⟩; have HP := hidden hp; clear hp)
          | fail)
      all_goals
        go_wp2_with fail
        go_meet
        case rel => rw [e0, ← List.append_assoc, HLL.out]; first | exact HQ.out | exact HQ.out.drew | exact HQ.out.drewN _
  case rest =>
  clear h2 hb2 c0 c1 c2 c3 c4 c5 c6 cf
  obtain ⟨w2, hw2⟩ : ∃ W, W = wc := ⟨_, rfl⟩
  rw [← hw2] at hcut ⊢
  have h2 := hcut
  have hb2 := h2.box hB
  obtain ⟨c0, c1, c2, c3, c4, c5, c6, cf⟩ := cells7 hb2
  clear hcut hw2
  go_upto_if 31 with fail
  go_cut [0] from 28 to 35 (fun vx wx => RS W1 wx vx (bs ++ be 4 x.f ++ put1 x ++ put2 x ++ put4 x))
  case first =>
    cases hb : bt 4 x.f with
    | false =>
      rw [hb] at n4
      have e0 : put4 x = [] := by simp [put4, hb]
      go_wp2_with fail
      go_meet
      case rel => rw [e0, List.append_nil]; exact h2
    | true =>
      rw [hb] at n4
      have e0 : put4 x = be 4 x.m := by simp [put4, hb]
      go_wp2_with fail
      refine (rs_u32 x.m hx.m W1 _ h2 (by simp only [List.length_append, be_length]; omega)).mono ?_
      rintro e wp ⟨vp, rfl, hp⟩
      go_wp2_with fail
      go_meet
      case rel => rw [e0]; exact hp
  case rest =>
  clear h2 hb2 c0 c1 c2 c3 c4 c5 c6 cf
  obtain ⟨w2, hw2⟩ : ∃ W, W = wc := ⟨_, rfl⟩
  rw [← hw2] at hcut ⊢
  have h2 := hcut
  have hb2 := h2.box hB
  obtain ⟨c0, c1, c2, c3, c4, c5, c6, cf⟩ := cells7 hb2
  clear hcut hw2
  go_upto_if 39 with fail
  go_cut [0] from 36 to 46 (fun vx wx => RS W1 wx vx (bs ++ be 4 x.f ++ put1 x ++ put2 x ++ put4 x ++ put8 x))
  case first =>
    cases hb : bt 8 x.f with
    | false =>
      rw [hb] at n8
      have e0 : put8 x = [] := by simp [put8, hb]
      go_wp2_with fail
      go_meet
      case rel => rw [e0, List.append_nil]; exact h2
    | true =>
      rw [hb] at n8
      have e0 : put8 x = be 4 x.a ++ be 4 x.t := by simp [put8, hb]
      have HL : Hid ((bs ++ be 4 x.f ++ put1 x ++ put2 x ++ put4 x).length + 4 ≤ 140737488355320) := hidden (by simp only [List.length_append, be_length]; omega)
      have HH2 := hidden h2
      generalize hLL : bs ++ be 4 x.f ++ put1 x ++ put2 x ++ put4 x = L0 at HH2 HL ⊢
      have HLL := hidden hLL
      clear h2 hb2 p1 p2 p4 hLL
      go_wp2_with fail
      go_region_held3 (fun w' => w'.cell? ⟨B, 5, none⟩ = some (.int .u32 (x.a : Int)) ∧ w'.cell? ⟨B, 6, none⟩ = some (.int .u32 (x.t : Int)))
        (first | exact (HS.out _ _ _ HH2.out).2 | exact (HS.out _ _ _ HH2.out.drew).2 | exact (HS.out _ _ _ HP.out).2 | exact (HS.out _ _ _ HQ.out).2)
        (first
          | (go_at_call 23; have HP2 := HP; refine (rs_u32 x.t hx.t W1 _ (by first | exact HP.out | exact HP.out.drew) (by have := HL.out; simp only [List.length_append, be_length]; omega)).mono ?_; rintro e wq ⟨vq, rfl, hq⟩; have HQ := hidden hq; clear hq)
          | (go_at_call 23; refine (rs_u32 x.a hx.a W1 _ (by first | exact HH2.out | exact HH2.out.drew) (by have := HL.out; omega)).mono ?_; rintro e wp ⟨vp, rfl, hp⟩; have HP := hidden hp; clear hp)
          | fail)
      all_goals
        go_wp2_with fail
        go_meet
        case rel => rw [e0, ← List.append_assoc, HLL.out]; first | exact HQ.out | exact HQ.out.drew | exact HQ.out.drewN _
  case rest =>
  clear h2 hb2 c0 c1 c2 c3 c4 c5 c6 cf
  obtain ⟨w2, hw2⟩ : ∃ W, W = wc := ⟨_, rfl⟩
  rw [← hw2] at hcut ⊢
  have h2 := hcut
  have hb2 := h2.box hB
  obtain ⟨c0, c1, c2, c3, c4, c5, c6, cf⟩ := cells7 hb2
  clear hcut hw2
  go_wp2_with fail

  go_ret
  refine hfin _ _ ?_
  unfold putA
  have h9 := h2
  simp only [List.append_assoc] at h9 ⊢
  exact h9

end Go.Proofs.Ytkbfgfpdchgjpaa
