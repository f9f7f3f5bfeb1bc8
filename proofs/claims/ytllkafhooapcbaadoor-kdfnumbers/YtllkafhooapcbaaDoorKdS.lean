/- What Hash answers. -/
import Derived.Test.YtllkafhooapcbaaDoorKdQ
namespace Go.Proofs.YtllkafhooapcbaaDoor
open Go Go.RowKit

/-- Texts, one behind the other. -/
def joinTo (px : Nat → List UInt8) : Nat → List UInt8
  | 0 => []
  | j + 1 => joinTo px j ++ textBytes (px j)
theorem text_len (xs : List UInt8) : (textBytes xs).length = xs.length + 4 := by
  unfold textBytes
  rw [List.length_append, be_length]
  omega
theorem joinTo_le (px : Nat → List UInt8) (M : Nat) (h : ∀ i, (px i).length ≤ M) (j : Nat) : (joinTo px j).length ≤ j * (M + 4) := by
  induction j with
  | zero => simp [joinTo]
  | succ j ih =>
    rw [joinTo, List.length_append, text_len, Nat.succ_mul]
    have := h j
    omega
/-- The sum of all that was told, and of the secret. -/
def hashL (vc vs : List UInt8) (px : Nat → List UInt8) (k : List UInt8) : List UInt8 := sumL (textBytes vc ++ textBytes vs ++ joinTo px 5 ++ mpBytes k)
def five (pv : Nat → Value) : Array Value := #[pv 0, pv 1, pv 2, pv 3, pv 4]
theorem five_at (pv : Nat → Value) (j : Nat) (h : j < 5) : (five pv)[j]? = some (pv j) := by
  match j, h with
  | 0, _ | 1, _ | 2, _ | 3, _ | 4, _ => rfl

/-- The Writer while the parts are written: the row of parts stands. -/
structure HI (base : Nat) (w1 wr : World) (a B : Nat) (pv : Nat → Value) (bs : List UInt8) : Prop where
  ws : ∃ g, WS wr base a g bs ∧ g ≠ some B
  cells : wr.heap[B]? = some (.cells (five pv) 22 (0, 0))
  ne : B ≠ a
  b : Below base w1 wr
theorem HI.next {base : Nat} {w1 wr wr' : World} {a B : Nat} {pv : Nat → Value} {bs bs' : List UInt8} {g g' : Option Nat} (h : HI base w1 wr a B pv bs) (h1 : WS wr base a g bs) (hg : g ≠ some B) (h2 : WS wr' base a g' bs') (h3 : Wrote a g g' wr wr') : HI base w1 wr' a B pv bs' := by
  have hB := lt_of_block h.cells
  refine ⟨⟨g', h2, ?_⟩, ?_, h.ne, h.b.trans (h3.below h1)⟩
  · intro e
    rcases h3.row with rfl | ⟨k, rfl, hk⟩
    · exact hg e
    · cases e; omega
  · exact (h3.keeps.block B hB (fun e => e.elim h.ne hg)).trans h.cells

set_option maxHeartbeats 1600000 in
set_option maxRecDepth 100000 in
theorem Hash_c (vc vs : ByteArray) (pv : Nat → Value) (px : Nat → List UInt8) (v1 : Value) (k : List UInt8) (h0 : vc.size ≤ 2000000) (h1 : vs.size ≤ 2000000) (hp : ∀ i, (px i).length ≤ 1000000) (hk : k.length ≤ 1000000) (w : World) (hr : Rw w) (hv : ∀ i, i < 5 → BSl w (pv i) (px i)) (hb : BSl w v1 k) :
    Calls Tryd.prog 19 #[.agg #[.string vc, .string vs, pv 0, pv 1, pv 2, pv 3, pv 4], v1] w fun e w' => Fresh w (hashL vc.data.toList vs.data.toList px k) e w' := by
  have HR := hidden hr
  have HV := hidden hv
  have HK := hidden hb
  have HP := hidden (joinTo_le px 1000000 hp)
  have HPx := hidden hp
  obtain ⟨a1, c1, rfl⟩ := hb.len
  obtain ⟨s0, t0, e0⟩ := (hv 0 (by omega)).len
  obtain ⟨s1, t1, e1⟩ := (hv 1 (by omega)).len
  obtain ⟨s2, t2, e2⟩ := (hv 2 (by omega)).len
  obtain ⟨s3, t3, e3⟩ := (hv 3 (by omega)).len
  obtain ⟨s4, t4, e4⟩ := (hv 4 (by omega)).len
  have HF : Hid (five pv = #[.slice s0 (px 0).length t0, .slice s1 (px 1).length t1, .slice s2 (px 2).length t2, .slice s3 (px 3).length t3, .slice s4 (px 4).length t4]) := by
    show _ = _
    unfold five
    rw [e0, e1, e2, e3, e4]
  rw [e0, e1, e2, e3, e4]
  clear hr hv hb hp e0 e1 e2 e3 e4
  generalize (px 0).length = l0 at HF ⊢
  generalize (px 1).length = l1 at HF ⊢
  generalize (px 2).length = l2 at HF ⊢
  generalize (px 3).length = l3 at HF ⊢
  generalize (px 4).length = l4 at HF ⊢
  have HHL : Hid (hashL vc.data.toList vs.data.toList px k = sumL (textBytes vc.data.toList ++ textBytes vs.data.toList ++ joinTo px 5 ++ mpBytes k)) := rfl
  generalize hashL vc.data.toList vs.data.toList px k = RL at HHL ⊢
  go_enter Tryd.func19, Tryd.ntmps19
  go_wp2_with fail
  obtain ⟨w1, hw1⟩ : ∃ x, x = w.alloc (.cells #[.string vc, .string vs, .slice s0 l0 t0, .slice s1 l1 t1, .slice s2 l2 t2, .slice s3 l3 t3, .slice s4 l4 t4] 36) := ⟨_, rfl⟩
  rw [← hw1]
  have hB1 : Below w.heap.size w w1 := by rw [hw1]; exact (Below.refl _ w).alloc (by omega) _
  have HC1 : Hid (w1.heap[w.heap.size]? = some (.cells #[.string vc, .string vs, .slice s0 l0 t0, .slice s1 l1 t1, .slice s2 l2 t2, .slice s3 l3 t3, .slice s4 l4 t4] 36 (0, 0))) := by rw [hw1]; exact heap_alloc_new w _
  have HB1 := hidden hB1
  have hs1 : w.heap.size < w1.heap.size := lt_of_block HC1.out
  clear hw1 hB1
  generalize hT : w.heap.size = T at HC1 hs1 ⊢
  have HTe := hidden hT
  clear hT
  refine (newWriter_c w1).mono ?_
  rintro e w2 ⟨rfl, rfl⟩
  have hw2 := WS.new w1 (Nat.le_refl w1.heap.size)
  have hb2 : Below w1.heap.size w1 (w1.alloc (.cells #[.slice none 0 0] 66)) := (Below.refl _ w1).alloc (by omega) _
  generalize w1.alloc (.cells #[.slice none 0 0] 66) = w2 at hw2 hb2 ⊢
  have HW2 := hidden hw2
  have HB2 := hidden hb2
  have HTk : Hid (∀ wx, Below w1.heap.size w1 wx → wx.heap[T]? = some (.cells #[.string vc, .string vs, .slice s0 l0 t0, .slice s1 l1 t1, .slice s2 l2 t2, .slice s3 l3 t3, .slice s4 l4 t4] 36 (0, 0))) := fun wx hx => (hx.block T hs1).trans HC1.out
  have f0 := cell_row (HTk.out w2 hb2) 0
  simp only [List.getElem?_cons_zero] at f0
  clear hw2 hb2 HC1
  generalize w1.heap.size = a at HW2 HB2 HTk hs1 ⊢
  go_wp2_with fail
  refine (text_c vc (by omega) w2 HW2.out (by simp; omega)).mono ?_
  rintro e w3 ⟨rfl, g3, hw3, hwr3⟩
  rw [List.nil_append] at hw3
  have HB3 := hidden (HB2.out.trans (hwr3.below HW2.out))
  have f1 := cell_row (HTk.out w3 HB3.out) 1
  simp only [List.getElem?_cons_zero, List.getElem?_cons_succ] at f1
  have HW3 := hidden hw3
  have HL0 : Hid ((textBytes vc.data.toList).length = vc.size + 4) := by show _ = _; rw [text_len, Array.length_toList]; rfl
  have HL1 : Hid ((textBytes vs.data.toList).length = vs.size + 4) := by show _ = _; rw [text_len, Array.length_toList]; rfl
  generalize textBytes vc.data.toList = D0 at HW3 HL0 HHL
  clear hw3 hwr3 HW2 HB2 f0
  go_wp2_with fail
  refine (text_c vs (by omega) w3 HW3.out (by rw [HL0.out]; omega)).mono ?_
  rintro e w4 ⟨rfl, g4, hw4, hwr4⟩
  have HB4 := hidden (HB3.out.trans (hwr4.below HW3.out))
  have f2 := cell_row (HTk.out w4 HB4.out) 2
  have f3 := cell_row (HTk.out w4 HB4.out) 3
  have f4 := cell_row (HTk.out w4 HB4.out) 4
  have f5 := cell_row (HTk.out w4 HB4.out) 5
  have f6 := cell_row (HTk.out w4 HB4.out) 6
  simp only [List.getElem?_cons_zero, List.getElem?_cons_succ] at f2 f3 f4 f5 f6
  have HI4 : Hid (HI a w1 (w4.alloc (.cells (five pv) 22)) a w4.heap.size pv (D0 ++ textBytes vs.data.toList)) := by
    have hk : Keeps (fun _ => False) w4 (w4.alloc (.cells (five pv) 22)) := (Keeps.refl _ _).alloc _
    refine ⟨⟨g4, hw4.keep hk (fun h => h) (fun _ _ h => h), fun e => ?_⟩, heap_alloc_new w4 _, fun e => ?_, HB4.out.alloc (by have := HB4.out.size; have := hw4.lt; omega) _⟩
    · have := (hw4.rowLt _ e).2; omega
    · have := hw4.lt; omega
  rw [HF.out] at HI4
  generalize hD1 : D0 ++ textBytes vs.data.toList = D1 at HI4 HHL
  have HD1 : Hid (D1.length = vc.size + vs.size + 8) := by show _ = _; rw [← hD1, List.length_append, HL0.out, HL1.out]; omega
  clear hw4 hwr4 HW3 HB3 f1 hD1
  go_wp2_with fail
  generalize w4.alloc (.cells #[.slice s0 l0 t0, .slice s1 l1 t1, .slice s2 l2 t2, .slice s3 l3 t3, .slice s4 l4 t4] 22) = w5 at HI4 ⊢
  generalize w4.heap.size = B at HI4 ⊢
  clear f2 f3 f4 f5 f6 HB4 HTk
  go_loopw [29] (fun c wr => ∃ j : Nat, j ≤ 5 ∧ c = .int .i64 (j : Int) ∧ HI a w1 wr a B pv (D1 ++ joinTo px j)) (fun c _ => 5 - (intOf c).toNat)
  case atStart => exact ⟨0, by omega, rfl, by simpa [joinTo] using HI4.out⟩
  case round =>
    clear HI4
    obtain ⟨j, hj, rfl, ht⟩ := hrel
    have HH := hidden ht
    obtain ⟨g, hws, hgB⟩ := ht.ws
    have HWS := hidden hws
    have HGB := hidden hgB
    clear ht hws hgB
    by_cases hlt : j < 5
    · have hlt' : (j : Int) < 5 := by omega
      have hcell : wr.cell? ⟨B, j, none⟩ = some (pv j) := by
        have := HH.out.cells
        rw [cell_row (cs := (five pv).toList) (by simpa using this), Array.getElem?_toList, five_at pv j hlt]
      have hvj := (HV.out j hlt).fresh (HB1.out.trans (HH.out.b.mono (by have := HTe.out; omega)))
      have hlj : (px j).length ≤ 1000000 := HPx.out j
      have HPj := hidden (HP.out j)
      have hstr := run_string hvj
      have HTx : Hid (∀ s : ByteArray, s = ⟨(px j).toArray⟩ → s.size < 4294967296 ∧ s.size ≤ 1000000 ∧ s.data.toList = px j) := fun s hs => by
        subst hs
        rw [size_list]
        exact ⟨by omega, hlj, rfl⟩
      obtain ⟨S, hS⟩ : ∃ S : ByteArray, S = ⟨(px j).toArray⟩ := ⟨_, rfl⟩
      rw [← hS] at hstr
      obtain ⟨q1, q2, q3⟩ := HTx.out S hS
      have Q3 := hidden q3
      obtain ⟨aj, cj, ej⟩ := hvj.len
      rw [ej] at hcell hstr
      have HJ : Hid (joinTo px (j + 1) = joinTo px j ++ textBytes (px j)) := rfl
      clear hvj ej HTx hS q3
      go_wp2_with fail
      refine (text_c S q1 wr HWS.out (by rw [List.length_append, HD1.out]; have := HPj.out; omega)).mono ?_
      rintro e w6 ⟨rfl, g6, hw6, hwr6⟩
      rw [Q3.out, List.append_assoc, ← HJ.out] at hw6
      have HN := hidden (HH.out.next HWS.out HGB.out hw6 hwr6)
      clear hw6 hwr6 hcell hstr
      go_wp2
      go_roundw
      case rel => exact ⟨j + 1, by omega, by go_num, HN.out⟩
      case measure => simp [intOf]; omega
    · have hlt' : ¬ (j : Int) < 5 := by omega
      obtain rfl : j = 5 := by omega
      have HPj := hidden (HP.out 5)
      have HBw := hidden (HB1.out.trans (HH.out.b.mono (by have := HTe.out; omega)))
      have HAp : Hid (k ≠ [] → (Value.slice a1 k.length c1).ownBlock ≠ some a ∧ ∀ q, g = some q → (Value.slice a1 k.length c1).ownBlock ≠ some q) := fun hne => by
        obtain ⟨b, o, cp, e, hl⟩ := HK.out.nonnil hne
        cases e
        have := HTe.out
        refine ⟨fun e => by simp [Value.ownBlock] at e; omega, fun q eq e => ?_⟩
        have := (HWS.out.rowLt q eq).1
        simp [Value.ownBlock] at e
        omega
      have HML := hidden (mp_le k)
      generalize joinTo px 5 = J5 at HWS HHL HPj
      go_wp2_with fail
      refine (mpint_n _ k (by omega) wr (HK.out.fresh HBw.out) HWS.out HAp.out (by rw [List.length_append, HD1.out]; have := HPj.out; omega)).mono ?_
      rintro e w7 ⟨rfl, g7, hw7, hwr7⟩
      have HW7 := hidden hw7
      have HB7 := hidden (HBw.out.trans ((hwr7.below HWS.out).mono (by have := HTe.out; omega)))
      clear hw7 hwr7 HWS HBw HAp
      have HXL : Hid ((D1 ++ J5 ++ mpBytes k).length ≤ 100000000) := by
        show _ ≤ _
        rw [List.length_append, List.length_append, HD1.out]
        have := HPj.out
        have := HML.out
        omega
      generalize D1 ++ J5 ++ mpBytes k = X at HW7 HXL HHL
      go_wp2_with fail
      refine (done_c w7 HW7.out (by have := HXL.out; omega)).mono ?_
      rintro e w8 ⟨v8, rfl, ho8, hb8⟩
      have HV8 := hidden (BSl.ofRow ho8)
      have HB8 := hidden (HB7.out.trans (hb8.mono HB7.out.size))
      clear ho8 hb8 HB7 HW7
      go_wp2_with fail
      refine (Sum_c _ X (by have := HXL.out; omega) w8 (HR.out.fresh HB8.out) HV8.out).mono ?_
      rintro e w9 hf
      rw [← HHL.out] at hf
      obtain ⟨v9, rfl, ho9, hb9⟩ := Fresh.next HB8.out hf
      have HO9 := hidden ho9
      have HB9 := hidden hb9
      clear ho9 hb9 hf
      go_wp2
      go_ret
      exact ⟨v9, rfl, HO9.out, HB9.out⟩
end Go.Proofs.YtllkafhooapcbaaDoor
