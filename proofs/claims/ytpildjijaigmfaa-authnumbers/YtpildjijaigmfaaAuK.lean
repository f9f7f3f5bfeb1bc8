/- What payload makes of an ask. -/
import Derived.Test.YtpildjijaigmfaaAuC
namespace Go.Proofs.Ytpildjijaigmfaa
open Go Go.RowKit

/-- The payload of an ask. -/
def payL (k n : Int) (us ps nm : ByteArray) (bs : List UInt8) : List UInt8 :=
  if k = 1 then (if n.tmod 5 = 1 then [5] ++ textBytes (nm.extract 0 66).data.toList else [5] ++ textBytes userauthB.data.toList)
  else if k = 2 then [50] ++ textBytes (us.extract 0 66).data.toList ++ textBytes connB.data.toList ++ textBytes passB.data.toList ++ [bit (n.tmod 7 == 1)] ++ textBytes (ps.extract 0 66).data.toList
  else if k = 3 then [50] ++ textBytes (us.extract 0 66).data.toList ++ textBytes connB.data.toList ++ textBytes (nm.extract 0 66).data.toList
  else if k = 4 then [50] ++ textBytes (us.extract 0 66).data.toList ++ textBytes (nm.extract 0 66).data.toList ++ textBytes passB.data.toList
  else if k = 5 then [byteOf n]
  else bs.take 100
def askV (k n : Int) (us ps nm : ByteArray) (b : Value) : Value := .agg #[.int .i64 k, .int .i64 n, .string us, .string ps, .string nm, b]
def AskAt (w : World) (B : Nat) (k n : Int) (us ps nm : ByteArray) (b : Value) : Prop := w.heap[B]? = some (.cells #[.int .i64 k, .int .i64 n, .string us, .string ps, .string nm, b] 28 (0, 0))
theorem cells6 {w : World} {a : Nat} {t : TypeId} {v0 v1 v2 v3 v4 v5 : Value} (h : w.heap[a]? = some (.cells #[v0, v1, v2, v3, v4, v5] t (0, 0))) :
    w.cell? ⟨a, 0, none⟩ = some v0 ∧ w.cell? ⟨a, 1, none⟩ = some v1 ∧ w.cell? ⟨a, 2, none⟩ = some v2 ∧ w.cell? ⟨a, 3, none⟩ = some v3 ∧ w.cell? ⟨a, 4, none⟩ = some v4 ∧ w.cell? ⟨a, 5, none⟩ = some v5 ∧ ∀ j, w.frozen? ⟨a, j, none⟩ = false := by
  refine ⟨?_, ?_, ?_, ?_, ?_, ?_, fun j => by simp [World.frozen?, h]⟩ <;> simp [World.cell?, h]
/-- What payload answers. -/
def PayPost (w : World) (b : Value) (bs xs : List UInt8) (e : Ending) (w' : World) : Prop :=
  ∃ v', e = .returned v' ∧ BSl w' v' xs ∧ (∀ k, v'.ownBlock = some k → w.heap.size ≤ k ∨ (b.ownBlock = some k ∧ (xs ≠ [] → bs ≠ []))) ∧ Below w.heap.size w w'
/-- While payload goes on: the box, bytes that were made, and nothing else has turned. -/
structure PW (w w1 : World) (k n : Int) (us ps nm : ByteArray) (b v : Value) (xs bs : List UInt8) : Prop where
  box : AskAt w1 w.heap.size k n us ps nm b
  row : BSl w1 v xs
  own : ∀ j, v.ownBlock = some j → w.heap.size ≤ j
  inp : BSl w1 b bs
  below : Below w.heap.size w w1
theorem PW.next {w w1 w2 : World} {k n : Int} {us ps nm : ByteArray} {b v v2 : Value} {xs ys bs : List UInt8} (h : PW w w1 k n us ps nm b v xs bs) (ho : w2.ownsRow w1.heap.size 5 1 v2 ys.length (bcells ys)) (hb : Below w1.heap.size w1 w2) : PW w w2 k n us ps nm b v2 ys bs :=
  ⟨(hb.block _ (lt_of_block h.box)).trans h.box, BSl.ofRow ho, fun j hj => Nat.le_trans h.below.size (ho.lt j hj).1, h.inp.fresh hb, h.below.trans (hb.mono h.below.size)⟩
theorem PW.lit {w w1 : World} {k n : Int} {us ps nm : ByteArray} {b v : Value} {xs bs : List UInt8} (h : PW w w1 k n us ps nm b v xs bs) (ys : List UInt8) (hl : ys.length ≤ 1000) : PW w (w1.alloc (.cells (bcells ys).toArray 5)) k n us ps nm b (.slice (some ⟨w1.heap.size, 0, none⟩) ys.length ys.length) ys bs :=
  ⟨(Below.heap_alloc w1 _ _ (lt_of_block h.box)).trans h.box, bsl_lit w1 ys hl, fun j hj => by simp [Value.ownBlock] at hj; have := h.below.size; omega, h.inp.alloc _, h.below.alloc h.below.size _⟩
theorem PW.post {w w1 : World} {k n : Int} {us ps nm : ByteArray} {b v : Value} {xs bs : List UInt8} (h : PW w w1 k n us ps nm b v xs bs) : PayPost w b bs xs (.returned v) w1 := ⟨v, rfl, h.row, fun j hj => .inl (h.own j hj), h.below⟩
theorem tl (s : ByteArray) : (textBytes s.data.toList).length = s.size + 4 := by
  simp only [textBytes, List.length_append, be_length, Array.length_toList]
  have : s.data.size = s.size := rfl
  omega
theorem ex66 (s : ByteArray) : (s.extract 0 66).size ≤ 66 := by simp; omega
theorem connZ : connB.size = 14 := rfl
theorem passZ : passB.size = 8 := rfl
theorem authZ : userauthB.size = 12 := rfl
theorem payL_len (k n : Int) (us ps nm : ByteArray) (bs : List UInt8) : (payL k n us ps nm bs).length ≤ 300 := by
  have h1 := ex66 us
  have h2 := ex66 ps
  have h3 := ex66 nm
  have h4 := connZ
  have h5 := passZ
  have h6 := authZ
  unfold payL
  repeat' split
  all_goals (simp only [List.length_append, tl, List.length_cons, List.length_nil, List.length_take]; omega)

theorem rtext_p (s : ByteArray) (hs : s.size ≤ 66) {w w1 : World} {k n : Int} {us ps nm : ByteArray} {b v : Value} {xs bs : List UInt8} (h : PW w w1 k n us ps nm b v xs bs) (hx : xs.length ≤ 1000) (ys : List UInt8) (hy : ys = xs ++ textBytes s.data.toList) :
    Calls Try.prog 20 #[v, .string s] w1 fun e w2 => ∃ v2, e = .returned v2 ∧ PW w w2 k n us ps nm b v2 ys bs := by
  subst hy
  refine (rtext_c s (by omega) v xs w1 h.row (by omega)).mono ?_
  rintro e w2 ⟨v2, rfl, ho, hb⟩
  exact ⟨v2, rfl, h.next ho hb⟩
theorem rbool_p (t : Bool) {w w1 : World} {k n : Int} {us ps nm : ByteArray} {b v : Value} {xs bs : List UInt8} (h : PW w w1 k n us ps nm b v xs bs) (hx : xs.length ≤ 1000) (ys : List UInt8) (hy : ys = xs ++ [bit t]) :
    Calls Try.prog 21 #[v, .bool t] w1 fun e w2 => ∃ v2, e = .returned v2 ∧ PW w w2 k n us ps nm b v2 ys bs := by
  subst hy
  refine (rbool_c t v xs w1 h.row (by omega)).mono ?_
  rintro e w2 ⟨v2, rfl, ho, hb⟩
  exact ⟨v2, rfl, h.next ho hb⟩

set_option maxHeartbeats 1600000 in
set_option maxRecDepth 100000 in
theorem payload_c (k n : Int) (us ps nm : ByteArray) (b : Value) (bs : List UInt8) (w : World) (hb : BSl w b bs) :
    Calls Try.prog 8 #[askV k n us ps nm b] w fun e w' => PayPost w b bs (payL k n us ps nm bs) e w' := by
  have HB0 : Hid (PW w (w.alloc (.cells #[.int .i64 k, .int .i64 n, .string us, .string ps, .string nm, b] 28)) k n us ps nm b (.slice none 0 0) [] bs) := hidden ⟨heap_alloc_new w _, bsl_none _, (fun j hj => by simp [Value.ownBlock] at hj), hb.alloc _, (Below.refl _ _).alloc (Nat.le_refl _) _⟩
  have HU : Hid (∀ w1, Calls Try.prog 17 #[.string us, .int .i64 66] w1 fun e w' => e = .returned (.string (us.extract 0 66)) ∧ w' = w1) := hidden (head_c us 66 (by omega))
  have HP : Hid (∀ w1, Calls Try.prog 17 #[.string ps, .int .i64 66] w1 fun e w' => e = .returned (.string (ps.extract 0 66)) ∧ w' = w1) := hidden (head_c ps 66 (by omega))
  have HN : Hid (∀ w1, Calls Try.prog 17 #[.string nm, .int .i64 66] w1 fun e w' => e = .returned (.string (nm.extract 0 66)) ∧ w' = w1) := hidden (head_c nm 66 (by omega))
  have hu6 := ex66 us
  have hp6 := ex66 ps
  have hn6 := ex66 nm
  obtain ⟨ao, cap, rfl⟩ := hb.len
  unfold askV payL
  clear hb
  generalize us.extract 0 66 = us1 at *
  generalize ps.extract 0 66 = ps1 at *
  generalize nm.extract 0 66 = nm1 at *
  obtain ⟨CB, hCB⟩ : ∃ C, C = connB := ⟨_, rfl⟩
  obtain ⟨PB, hPB⟩ : ∃ C, C = passB := ⟨_, rfl⟩
  obtain ⟨AB, hAB⟩ : ∃ C, C = userauthB := ⟨_, rfl⟩
  have hc6 : CB.size ≤ 66 := by rw [hCB, connZ]; omega
  have hq6 : PB.size ≤ 66 := by rw [hPB, passZ]; omega
  have ha6 : AB.size ≤ 66 := by rw [hAB, authZ]; omega
  rw [← hCB, ← hPB, ← hAB]
  have HCB := hidden hCB
  have HPB := hidden hPB
  have HAB := hidden hAB
  clear hCB hPB hAB
  obtain ⟨L2, hL2⟩ : ∃ L, L = [50] ++ textBytes us1.data.toList := ⟨_, rfl⟩
  have hz2 : L2.length ≤ 100 := by rw [hL2, List.length_append, tl]; simp; omega
  rw [← hL2]
  have HL2 := hidden hL2
  clear hL2
  by_cases e1 : k = 1
  · rw [if_pos e1]
    have t1 : (k == 1) = true := by simp; omega
    clear e1
    by_cases e5 : n.tmod 5 = 1
    · rw [if_pos e5]
      have t5 : (n.tmod 5 == 1) = true := by simpa using e5
      clear e5
      obtain ⟨L3, hL3⟩ : ∃ L, L = [5] ++ textBytes nm1.data.toList := ⟨_, rfl⟩
      rw [← hL3]
      have HL3 := hidden hL3
      clear hL3
      go_enter Try.func8, Try.ntmps8
      go_wp2_with fail
      refine (HU.out _).mono ?_
      rintro e w1 ⟨rfl, rfl⟩
      go_wp2_with fail
      refine (HP.out _).mono ?_
      rintro e w1 ⟨rfl, rfl⟩
      go_wp2_with fail
      refine (HN.out _).mono ?_
      rintro e w1 ⟨rfl, rfl⟩
      clear HU HP HN
      generalize w.alloc (.cells #[.int .i64 k, .int .i64 n, .string us, .string ps, .string nm, .slice ao bs.length cap] 28) = w0 at HB0 ⊢
      obtain ⟨k0, k1, k2, k3, k4, k5, kf⟩ := cells6 HB0.out.box
      go_wp2_with fail
      have HL1 := hidden (HB0.out.lit [50] (by simp))
      clear k0 k1 k2 k3 k4 k5 kf HB0
      refine (rtext_p us1 hu6 HL1.out (by simp) L2 HL2.out).mono ?_
      rintro e w2 ⟨v2, rfl, h2⟩
      have H2 := hidden h2
      clear HL1 h2
      obtain ⟨a2, c2, rfl⟩ := H2.out.row.len
      obtain ⟨k0, k1, k2, k3, k4, k5, kf⟩ := cells6 H2.out.box
      generalize L2.length = n2 at H2 ⊢
      go_wp2_with fail
      have HL5 := hidden (H2.out.lit [5] (by simp))
      clear H2 k0 k1 k2 k3 k4 k5 kf
      refine (rtext_p nm1 hn6 HL5.out (by simp) L3 HL3.out).mono ?_
      rintro e w3 ⟨v3, rfl, h3⟩
      have H3 := hidden (PW.post h3)
      clear HL5 h3
      go_wp2_with fail
      go_ret
      exact H3.out
    · rw [if_neg e5]
      have t5 : (n.tmod 5 == 1) = false := by simpa using e5
      clear e5
      obtain ⟨L3, hL3⟩ : ∃ L, L = [5] ++ textBytes AB.data.toList := ⟨_, rfl⟩
      rw [← hL3]
      have HL3 := hidden hL3
      clear hL3
      go_enter Try.func8, Try.ntmps8
      go_wp2_with fail
      refine (HU.out _).mono ?_
      rintro e w1 ⟨rfl, rfl⟩
      go_wp2_with fail
      refine (HP.out _).mono ?_
      rintro e w1 ⟨rfl, rfl⟩
      go_wp2_with fail
      refine (HN.out _).mono ?_
      rintro e w1 ⟨rfl, rfl⟩
      clear HU HP HN
      generalize w.alloc (.cells #[.int .i64 k, .int .i64 n, .string us, .string ps, .string nm, .slice ao bs.length cap] 28) = w0 at HB0 ⊢
      obtain ⟨k0, k1, k2, k3, k4, k5, kf⟩ := cells6 HB0.out.box
      go_wp2_with fail
      have HL1 := hidden (HB0.out.lit [50] (by simp))
      clear k0 k1 k2 k3 k4 k5 kf HB0
      refine (rtext_p us1 hu6 HL1.out (by simp) L2 HL2.out).mono ?_
      rintro e w2 ⟨v2, rfl, h2⟩
      have H2 := hidden h2
      clear HL1 h2
      obtain ⟨a2, c2, rfl⟩ := H2.out.row.len
      obtain ⟨k0, k1, k2, k3, k4, k5, kf⟩ := cells6 H2.out.box
      generalize L2.length = n2 at H2 ⊢
      go_wp2_with fail
      have HL5 := hidden (H2.out.lit [5] (by simp))
      clear H2 k0 k1 k2 k3 k4 k5 kf
      rw [show (⟨#[115, 115, 104, 45, 117, 115, 101, 114, 97, 117, 116, 104]⟩ : ByteArray) = AB from HAB.out.symm]
      refine (rtext_p AB ha6 HL5.out (by simp) L3 HL3.out).mono ?_
      rintro e w3 ⟨v3, rfl, h3⟩
      have H3 := hidden (PW.post h3)
      clear HL5 h3
      go_wp2_with fail
      go_ret
      exact H3.out
  · rw [if_neg e1]
    by_cases e2 : k = 2
    · rw [if_pos e2]
      have t1 : (k == 1) = false := by simp; omega
      have t2 : (k == 2) = true := by simp; omega
      clear e1 e2
      obtain ⟨b7, ht7⟩ : ∃ b7, b7 = (n.tmod 7 == 1) := ⟨_, rfl⟩
      rw [← ht7]
      have HT7 := hidden ht7
      clear ht7
      obtain ⟨L3, hL3⟩ : ∃ L, L = L2 ++ textBytes CB.data.toList := ⟨_, rfl⟩
      have hz3 : L3.length ≤ 200 := by rw [hL3, List.length_append]; first | (rw [tl]; omega) | (simp; omega)
      rw [← hL3]
      have HL3 := hidden hL3
      clear hL3
      obtain ⟨L4, hL4⟩ : ∃ L, L = L3 ++ textBytes PB.data.toList := ⟨_, rfl⟩
      have hz4 : L4.length ≤ 300 := by rw [hL4, List.length_append]; first | (rw [tl]; omega) | (simp; omega)
      rw [← hL4]
      have HL4 := hidden hL4
      clear hL4
      obtain ⟨L5, hL5⟩ : ∃ L, L = L4 ++ [bit b7] := ⟨_, rfl⟩
      have hz5 : L5.length ≤ 301 := by rw [hL5, List.length_append]; first | (rw [tl]; omega) | (simp; omega)
      rw [← hL5]
      have HL5 := hidden hL5
      clear hL5
      obtain ⟨L6, hL6⟩ : ∃ L, L = L5 ++ textBytes ps1.data.toList := ⟨_, rfl⟩
      have hz6 : L6.length ≤ 400 := by rw [hL6, List.length_append]; first | (rw [tl]; omega) | (simp; omega)
      rw [← hL6]
      have HL6 := hidden hL6
      clear hL6
      go_enter Try.func8, Try.ntmps8
      go_wp2_with fail
      refine (HU.out _).mono ?_
      rintro e w1 ⟨rfl, rfl⟩
      go_wp2_with fail
      refine (HP.out _).mono ?_
      rintro e w1 ⟨rfl, rfl⟩
      go_wp2_with fail
      refine (HN.out _).mono ?_
      rintro e w1 ⟨rfl, rfl⟩
      clear HU HP HN
      generalize w.alloc (.cells #[.int .i64 k, .int .i64 n, .string us, .string ps, .string nm, .slice ao bs.length cap] 28) = w0 at HB0 ⊢
      obtain ⟨k0, k1, k2, k3, k4, k5, kf⟩ := cells6 HB0.out.box
      go_wp2_with fail
      have HL1 := hidden (HB0.out.lit [50] (by simp))
      clear k0 k1 k2 k3 k4 k5 kf HB0
      refine (rtext_p us1 hu6 HL1.out (by simp) L2 HL2.out).mono ?_
      rintro e w2 ⟨v2, rfl, h2⟩
      have H2 := hidden h2
      clear HL1 h2
      obtain ⟨a2, c2, rfl⟩ := H2.out.row.len
      obtain ⟨k0, k1, k2, k3, k4, k5, kf⟩ := cells6 H2.out.box
      generalize L2.length = n2 at H2 ⊢
      go_wp2_with fail
      rw [show (⟨#[115, 115, 104, 45, 99, 111, 110, 110, 101, 99, 116, 105, 111, 110]⟩ : ByteArray) = CB from HCB.out.symm]
      refine (rtext_p CB hc6 H2.out (by omega) L3 HL3.out).mono ?_
      rintro e w3 ⟨v3, rfl, h3⟩
      have H3 := hidden h3
      clear H2 h3 k0 k1 k2 k3 k4 k5 kf
      obtain ⟨a3, c3, rfl⟩ := H3.out.row.len
      obtain ⟨k0, k1, k2, k3, k4, k5, kf⟩ := cells6 H3.out.box
      generalize L3.length = n3 at H3 ⊢
      go_wp2_with fail
      rw [show (⟨#[112, 97, 115, 115, 119, 111, 114, 100]⟩ : ByteArray) = PB from HPB.out.symm]
      refine (rtext_p PB hq6 H3.out (by omega) L4 HL4.out).mono ?_
      rintro e w4 ⟨v4, rfl, h4⟩
      have H4 := hidden h4
      clear H3 h4 k0 k1 k2 k3 k4 k5 kf
      obtain ⟨a4, c4, rfl⟩ := H4.out.row.len
      obtain ⟨k0, k1, k2, k3, k4, k5, kf⟩ := cells6 H4.out.box
      generalize L4.length = n4 at H4 ⊢
      go_wp2_with fail
      rw [← HT7.out]
      refine (rbool_p b7 H4.out (by omega) L5 HL5.out).mono ?_
      rintro e w5 ⟨v5, rfl, h5⟩
      have H5 := hidden h5
      clear H4 h5 k0 k1 k2 k3 k4 k5 kf
      obtain ⟨a5, c5, rfl⟩ := H5.out.row.len
      obtain ⟨k0, k1, k2, k3, k4, k5, kf⟩ := cells6 H5.out.box
      generalize L5.length = n5 at H5 ⊢
      go_wp2_with fail
      refine (rtext_p ps1 hp6 H5.out (by omega) L6 HL6.out).mono ?_
      rintro e w6 ⟨v6, rfl, h6⟩
      have H6 := hidden h6
      clear H5 h6 k0 k1 k2 k3 k4 k5 kf
      have HPP := hidden (PW.post H6.out)
      clear H6
      go_wp2_with fail
      go_ret
      exact HPP.out
    · rw [if_neg e2]
      by_cases e3 : k = 3
      · rw [if_pos e3]
        have t1 : (k == 1) = false := by simp; omega
        have t2 : (k == 2) = false := by simp; omega
        have t3 : (k == 3) = true := by simp; omega
        clear e1 e2 e3
        obtain ⟨L3, hL3⟩ : ∃ L, L = L2 ++ textBytes CB.data.toList := ⟨_, rfl⟩
        have hz3 : L3.length ≤ 200 := by rw [hL3, List.length_append]; first | (rw [tl]; omega) | (simp; omega)
        rw [← hL3]
        have HL3 := hidden hL3
        clear hL3
        obtain ⟨L4, hL4⟩ : ∃ L, L = L3 ++ textBytes nm1.data.toList := ⟨_, rfl⟩
        have hz4 : L4.length ≤ 300 := by rw [hL4, List.length_append]; first | (rw [tl]; omega) | (simp; omega)
        rw [← hL4]
        have HL4 := hidden hL4
        clear hL4
        go_enter Try.func8, Try.ntmps8
        go_wp2_with fail
        refine (HU.out _).mono ?_
        rintro e w1 ⟨rfl, rfl⟩
        go_wp2_with fail
        refine (HP.out _).mono ?_
        rintro e w1 ⟨rfl, rfl⟩
        go_wp2_with fail
        refine (HN.out _).mono ?_
        rintro e w1 ⟨rfl, rfl⟩
        clear HU HP HN
        generalize w.alloc (.cells #[.int .i64 k, .int .i64 n, .string us, .string ps, .string nm, .slice ao bs.length cap] 28) = w0 at HB0 ⊢
        obtain ⟨k0, k1, k2, k3, k4, k5, kf⟩ := cells6 HB0.out.box
        go_wp2_with fail
        have HL1 := hidden (HB0.out.lit [50] (by simp))
        clear k0 k1 k2 k3 k4 k5 kf HB0
        refine (rtext_p us1 hu6 HL1.out (by simp) L2 HL2.out).mono ?_
        rintro e w2 ⟨v2, rfl, h2⟩
        have H2 := hidden h2
        clear HL1 h2
        obtain ⟨a2, c2, rfl⟩ := H2.out.row.len
        obtain ⟨k0, k1, k2, k3, k4, k5, kf⟩ := cells6 H2.out.box
        generalize L2.length = n2 at H2 ⊢
        go_wp2_with fail
        rw [show (⟨#[115, 115, 104, 45, 99, 111, 110, 110, 101, 99, 116, 105, 111, 110]⟩ : ByteArray) = CB from HCB.out.symm]
        refine (rtext_p CB hc6 H2.out (by omega) L3 HL3.out).mono ?_
        rintro e w3 ⟨v3, rfl, h3⟩
        have H3 := hidden h3
        clear H2 h3 k0 k1 k2 k3 k4 k5 kf
        obtain ⟨a3, c3, rfl⟩ := H3.out.row.len
        obtain ⟨k0, k1, k2, k3, k4, k5, kf⟩ := cells6 H3.out.box
        generalize L3.length = n3 at H3 ⊢
        go_wp2_with fail
        refine (rtext_p nm1 hn6 H3.out (by omega) L4 HL4.out).mono ?_
        rintro e w4 ⟨v4, rfl, h4⟩
        have H4 := hidden h4
        clear H3 h4 k0 k1 k2 k3 k4 k5 kf
        have HPP := hidden (PW.post H4.out)
        clear H4
        go_wp2_with fail
        go_ret
        exact HPP.out
      · rw [if_neg e3]
        by_cases e4 : k = 4
        · rw [if_pos e4]
          have t1 : (k == 1) = false := by simp; omega
          have t2 : (k == 2) = false := by simp; omega
          have t3 : (k == 3) = false := by simp; omega
          have t4 : (k == 4) = true := by simp; omega
          clear e1 e2 e3 e4
          obtain ⟨L3, hL3⟩ : ∃ L, L = L2 ++ textBytes nm1.data.toList := ⟨_, rfl⟩
          have hz3 : L3.length ≤ 200 := by rw [hL3, List.length_append]; first | (rw [tl]; omega) | (simp; omega)
          rw [← hL3]
          have HL3 := hidden hL3
          clear hL3
          obtain ⟨L4, hL4⟩ : ∃ L, L = L3 ++ textBytes PB.data.toList := ⟨_, rfl⟩
          have hz4 : L4.length ≤ 300 := by rw [hL4, List.length_append]; first | (rw [tl]; omega) | (simp; omega)
          rw [← hL4]
          have HL4 := hidden hL4
          clear hL4
          go_enter Try.func8, Try.ntmps8
          go_wp2_with fail
          refine (HU.out _).mono ?_
          rintro e w1 ⟨rfl, rfl⟩
          go_wp2_with fail
          refine (HP.out _).mono ?_
          rintro e w1 ⟨rfl, rfl⟩
          go_wp2_with fail
          refine (HN.out _).mono ?_
          rintro e w1 ⟨rfl, rfl⟩
          clear HU HP HN
          generalize w.alloc (.cells #[.int .i64 k, .int .i64 n, .string us, .string ps, .string nm, .slice ao bs.length cap] 28) = w0 at HB0 ⊢
          obtain ⟨k0, k1, k2, k3, k4, k5, kf⟩ := cells6 HB0.out.box
          go_wp2_with fail
          have HL1 := hidden (HB0.out.lit [50] (by simp))
          clear k0 k1 k2 k3 k4 k5 kf HB0
          refine (rtext_p us1 hu6 HL1.out (by simp) L2 HL2.out).mono ?_
          rintro e w2 ⟨v2, rfl, h2⟩
          have H2 := hidden h2
          clear HL1 h2
          obtain ⟨a2, c2, rfl⟩ := H2.out.row.len
          obtain ⟨k0, k1, k2, k3, k4, k5, kf⟩ := cells6 H2.out.box
          generalize L2.length = n2 at H2 ⊢
          go_wp2_with fail
          refine (rtext_p nm1 hn6 H2.out (by omega) L3 HL3.out).mono ?_
          rintro e w3 ⟨v3, rfl, h3⟩
          have H3 := hidden h3
          clear H2 h3 k0 k1 k2 k3 k4 k5 kf
          obtain ⟨a3, c3, rfl⟩ := H3.out.row.len
          obtain ⟨k0, k1, k2, k3, k4, k5, kf⟩ := cells6 H3.out.box
          generalize L3.length = n3 at H3 ⊢
          go_wp2_with fail
          rw [show (⟨#[112, 97, 115, 115, 119, 111, 114, 100]⟩ : ByteArray) = PB from HPB.out.symm]
          refine (rtext_p PB hq6 H3.out (by omega) L4 HL4.out).mono ?_
          rintro e w4 ⟨v4, rfl, h4⟩
          have H4 := hidden h4
          clear H3 h4 k0 k1 k2 k3 k4 k5 kf
          have HPP := hidden (PW.post H4.out)
          clear H4
          go_wp2_with fail
          go_ret
          exact HPP.out
        · rw [if_neg e4]
          by_cases e5 : k = 5
          · rw [if_pos e5]
            have t1 : (k == 1) = false := by simp; omega
            have t2 : (k == 2) = false := by simp; omega
            have t3 : (k == 3) = false := by simp; omega
            have t4 : (k == 4) = false := by simp; omega
            have t5 : (k == 5) = true := by simp; omega
            clear e1 e2 e3 e4 e5
            go_enter Try.func8, Try.ntmps8
            go_wp2_with fail
            refine (HU.out _).mono ?_
            rintro e w1 ⟨rfl, rfl⟩
            go_wp2_with fail
            refine (HP.out _).mono ?_
            rintro e w1 ⟨rfl, rfl⟩
            go_wp2_with fail
            refine (HN.out _).mono ?_
            rintro e w1 ⟨rfl, rfl⟩
            clear HU HP HN
            generalize w.alloc (.cells #[.int .i64 k, .int .i64 n, .string us, .string ps, .string nm, .slice ao bs.length cap] 28) = w0 at HB0 ⊢
            obtain ⟨k0, k1, k2, k3, k4, k5, kf⟩ := cells6 HB0.out.box
            go_wp2_with fail
            have HL1 := hidden (HB0.out.lit [50] (by simp))
            clear k0 k1 k2 k3 k4 k5 kf HB0
            refine (rtext_p us1 hu6 HL1.out (by simp) L2 HL2.out).mono ?_
            rintro e w2 ⟨v2, rfl, h2⟩
            have H2 := hidden h2
            clear HL1 h2
            obtain ⟨a2, c2, rfl⟩ := H2.out.row.len
            obtain ⟨k0, k1, k2, k3, k4, k5, kf⟩ := cells6 H2.out.box
            generalize L2.length = n2 at H2 ⊢
            have HL5 := hidden (H2.out.lit [byteOf n] (by simp))
            have hcell : (bcells [byteOf n]).toArray = #[Value.int .u8 (n % 256)] := by simp [bcells, byteOf_nat]
            rw [hcell] at HL5
            clear H2 hcell
            go_wp2_with fail
            go_ret
            exact PW.post HL5.out
          · rw [if_neg e5]
            have t1 : (k == 1) = false := by simp; omega
            have t2 : (k == 2) = false := by simp; omega
            have t3 : (k == 3) = false := by simp; omega
            have t4 : (k == 4) = false := by simp; omega
            have t5 : (k == 5) = false := by simp; omega
            clear e1 e2 e3 e4 e5
            go_enter Try.func8, Try.ntmps8
            go_wp2_with fail
            refine (HU.out _).mono ?_
            rintro e w1 ⟨rfl, rfl⟩
            go_wp2_with fail
            refine (HP.out _).mono ?_
            rintro e w1 ⟨rfl, rfl⟩
            go_wp2_with fail
            refine (HN.out _).mono ?_
            rintro e w1 ⟨rfl, rfl⟩
            clear HU HP HN
            generalize w.alloc (.cells #[.int .i64 k, .int .i64 n, .string us, .string ps, .string nm, .slice ao bs.length cap] 28) = w0 at HB0 ⊢
            obtain ⟨k0, k1, k2, k3, k4, k5, kf⟩ := cells6 HB0.out.box
            go_wp2_with fail
            have HL1 := hidden (HB0.out.lit [50] (by simp))
            clear k0 k1 k2 k3 k4 k5 kf HB0
            refine (rtext_p us1 hu6 HL1.out (by simp) L2 HL2.out).mono ?_
            rintro e w2 ⟨v2, rfl, h2⟩
            have H2 := hidden h2
            clear HL1 h2
            obtain ⟨a2, c2, rfl⟩ := H2.out.row.len
            obtain ⟨k0, k1, k2, k3, k4, k5, kf⟩ := cells6 H2.out.box
            generalize L2.length = n2 at H2 ⊢
            go_wp2_with fail
            refine (cut_c 100 (by omega) _ bs _ H2.out.inp).mono ?_
            rintro e w3 ⟨v3, rfl, hb3, ho3, rfl⟩
            have HPP : Hid (PayPost w (.slice ao bs.length cap) bs (bs.take 100) (.returned v3) w3) := hidden ⟨v3, rfl, hb3, fun j hj => .inr ⟨by rw [← ho3]; exact hj, fun h e => h (by rw [e]; rfl)⟩, H2.out.below⟩
            clear hb3 ho3 H2
            go_wp2_with fail
            go_ret
            exact HPP.out

end Go.Proofs.Ytpildjijaigmfaa
