/- What Encode answers. -/
import Derived.Test.YtnnhffjajbiicaaNgI
namespace Go.Proofs.Ytnnhffjajbiicaa
open Go Go.RowKit

def encBody (ls : List (List ByteArray)) : List UInt8 := (ls.map fun l => textBytes (joined l)).flatten
/-- The payload of Lists. -/
def encL (bs : List UInt8) (ls : List (List ByteArray)) (fo : Bool) : List UInt8 := [20] ++ bs ++ encBody ls ++ [bit fo] ++ be 4 0
def encOk (bs : List UInt8) (ls : List (List ByteArray)) : Bool := decide (bs.length = 16) && ls.all rightNs
def encE (bs : List UInt8) (ls : List (List ByteArray)) : Int := if bs.length = 16 then (if ls.all rightNs then 0 else 12) else 1
def encB (bs : List UInt8) (ls : List (List ByteArray)) (fo : Bool) : List UInt8 := if encOk bs ls then encL bs ls fo else []
/-- Lists that are not too long. -/
def Tame (ls : List (List ByteArray)) : Prop := ∀ l ∈ ls, l.length ≤ 100 ∧ ∀ s ∈ l, s.size ≤ 1000

theorem encBody_next {ls : List (List ByteArray)} {k : Nat} (h : k < ls.length) : encBody (ls.take (k + 1)) = encBody (ls.take k) ++ textBytes (joined ls[k]) := by
  simp only [encBody, List.take_succ_eq_append_getElem h, List.map_append, List.flatten_append, List.map_cons, List.map_nil, List.flatten_cons, List.flatten_nil, List.append_nil]
theorem rightNs_len {l : List ByteArray} (h : rightNs l = true) : (joined l).length ≤ 1000 := by
  unfold rightNs at h
  rw [Bool.and_eq_true, decide_eq_true_eq] at h
  exact h.2
theorem encBody_len (ls : List (List ByteArray)) (h : ∀ l ∈ ls, rightNs l = true) : (encBody ls).length ≤ 1004 * ls.length := by
  induction ls with
  | nil => simp [encBody]
  | cons x r ih =>
    have h1 := rightNs_len (h x (by simp))
    have h2 := ih fun l hl => h l (by simp [hl])
    simp only [encBody, List.map_cons, List.flatten_cons, List.length_append, List.length_cons, textBytes, be_length] at h2 ⊢
    omega
theorem LBox.below {w w' : World} {B C : Nat} {t : TypeId} {cs : List Value} (h : LBox w B t cs) (hb : Below C w w') (hc : B < C) : LBox w' B t cs := (hb.block B hc).trans h
theorem getElem?_getD {nm : List Value} {k : Nat} (h : k < nm.length) : nm[k]? = some (nm.getD k undef) := by
  rw [List.getD_eq_getElem?_getD, List.getElem?_eq_getElem h]; rfl

theorem infoS : (Try.prog.info? 24).map (·.size) = some 1 := by kernel_rfl
theorem run_index_ten {nm : List Value} {k : Nat} (hk : k < 10) {v : Value} (h1 : nm[k]? = some v) (w : World) : (Instr.index 36 (.agg nm.toArray) (.int .i64 (k : Int))).run Try.prog w = .ok v w := by
  obtain ⟨i, hi, hz⟩ : ∃ i, Try.prog.info? 24 = some i ∧ i.size = 1 := by
    have := infoS
    cases h : Try.prog.info? 24 with
    | none => rw [h] at this; cases this
    | some i => rw [h] at this; exact ⟨i, rfl, by simpa using this⟩
  simp [Instr.index, run_underlying Try.underlying36, run_underlying Try.underlying24, asIntOf, go_sem, sizeOf, typeInfo, hi, hz, part, isAgg, h1, hk]

set_option maxHeartbeats 3200000 in
set_option maxRecDepth 100000 in
theorem encode_c (ck : Value) (nm : List Value) (fo : Bool) (bs : List UInt8) (ls : List (List ByteArray)) (w : World) (h : LRd w ck nm bs ls) (ht : Tame ls) :
    Calls Try.prog 13 #[.agg (lcells ck nm fo).toArray] w fun e w' => ∃ v, e = .returned (.tuple #[v, .int .i64 (encE bs ls)]) ∧ BSl w' v (encB bs ls fo) ∧ (∀ k, v.ownBlock = some k → w.heap.size ≤ k) ∧ Below w.heap.size w w' := by
  have hc0 : (lcells ck nm fo)[0]? = some ck := rfl
  have HC2 := hidden (lcells_end (ck := ck) (fo := fo) h.nl)
  have HPT := hidden (lcells_part (ck := ck) (nm := nm) (fo := fo))
  have HSA : Hid ((Try.prog.info? 36).map (·.size) = some nm.length) := by show _ = _; rw [sizeA, h.nl]
  have HH := hidden h
  have HTM := hidden ht
  obtain ⟨hck, hnl, hll, hnm⟩ := h
  obtain ⟨ao, cap, rfl, hc1, hc2', hcx⟩ := hck
  clear hcx hnm ht
  unfold maxLen at hc2'
  generalize lcells (.slice ao bs.length cap) nm fo = cs at *
  have hx0 := LBox.new w 38 cs
  have HX0 := hidden hx0
  have hbx : Below w.heap.size w (w.alloc (.cells cs.toArray 38)) := (Below.refl _ w).alloc (Nat.le_refl _) _
  have HBX := hidden hbx
  have HSZ : Hid ((w.alloc (.cells cs.toArray 38)).heap.size = w.heap.size + 1) := by show _ = _; simp
  clear hbx
  by_cases h16 : bs.length = 16
  · have hq : ((bs.length : Int) != 16) = false := by rw [h16]; rfl
    have HEO : Hid (encE bs ls = if ls.all rightNs then 0 else 12) := by show _ = _; simp only [encE, h16, if_true]
    have HBO : Hid (encB bs ls fo = if ls.all rightNs then encL bs ls fo else []) := by show _ = _; simp only [encB, encOk, h16, decide_true, Bool.true_and]
    have H16 := hidden h16
    clear h16
    generalize hEE : encE bs ls = EE at *
    generalize hBB : encB bs ls fo = BB at *
    clear hEE hBB
    go_enter Try.func13, Try.ntmps13
    go_wp2_with fail
    generalize w.alloc (.cells cs.toArray 38) = W1 at HX0 HBX HSZ hx0 ⊢
    refine (newWriter_c _).mono ?_
    rintro e w1 ⟨rfl, rfl⟩
    have hw1 := WS.new W1 (base := w.heap.size + 1) (by rw [HSZ.out]; exact Nat.le_refl _)
    have hb1 : Below (w.heap.size + 1) W1 (W1.alloc (.cells #[.slice none 0 0] 100)) := (Below.refl _ _).alloc (by rw [HSZ.out]; exact Nat.le_refl _) _
    generalize W1.alloc (.cells #[.slice none 0 0] 100) = w1 at hw1 hb1 ⊢
    generalize W1.heap.size = a at hw1 HSZ ⊢
    go_wp2_with fail
    refine (byte_c 20 _ hw1 (by simp)).mono ?_
    rintro e w2 ⟨rfl, g2, hw2, hwr2⟩
    have hb2 := hb1.trans (hwr2.below hw1)
    rw [List.nil_append, show byteOf 20 = 20 from rfl] at hw2
    have hbs2 : BSl w2 (.slice ao bs.length cap) bs := HH.out.ck.fresh (HBX.out.trans (hb2.mono (by omega)))
    have c2 := (hx0.below hb2 (by omega)).cell hc0
    clear hw1 hb1 hwr2
    go_wp2_with fail
    refine (raw_c _ bs _ hbs2 hw2 (by have := H16.out; simp; omega)).mono ?_
    rintro e w3 ⟨rfl, g3, hw3, hwr3⟩
    have hb3 := hb2.trans (hwr3.below hw2)
    have HX3 := hidden (hx0.below hb3 (by omega))
    have HW3 := hidden hw3
    have HB3 := hidden hb3
    clear hw2 hb2 hwr3 hbs2 c2 hw3 hb3
    go_wp2_with (refine wpList_loadPart rfl 36 (.tmp 18) rfl w.heap.size 1 cs 38 10 24 nm rfl HX3.out HPT.out Try.underlying36 HSA.out ?_)
    have HNL := hidden hnl
    have HLL := hidden hll
    clear hnl hll
    go_loopw [20] (fun i wr => ∃ (k : Nat) (g : Option Nat), k ≤ 10 ∧ i = .int .i64 k ∧ WS wr (w.heap.size + 1) a g ([20] ++ bs ++ encBody (ls.take k)) ∧ (∀ l ∈ ls.take k, rightNs l = true) ∧ Below (w.heap.size + 1) W1 wr) (fun i _ => 10 - (intOf i).toNat)
    case atStart => exact ⟨0, g3, by omega, rfl, by simpa [encBody] using HW3.out, by simp, HB3.out⟩
    case round =>
      clear HX3 HW3 HB3
      obtain ⟨k, g, hk, rfl, hws, hrt, hb⟩ := hrel
      have HB := hidden hb
      have HRT := hidden hrt
      have hbw : Below w.heap.size w wr := HBX.out.trans (hb.mono (by omega))
      have HBW := hidden hbw
      have hel := encBody_len _ hrt
      rw [List.length_take, HLL.out] at hel
      have hlen : ([20] ++ bs ++ encBody (ls.take k)).length ≤ 12000 := by
        have := H16.out
        simp only [List.length_append, List.length_cons, List.length_nil]
        omega
      have HLN := hidden hlen
      clear hb hrt hel hlen hbw
      by_cases hlt : k < 10
      · have hi1 : (k : Int) < 10 := by omega
        have hkl : k < ls.length := by have := HLL.out; omega
        have hnk := getElem?_getD (nm := nm) (k := k) (by have := HNL.out; omega)
        have hsl := (HH.out.nm k hlt).fresh HBW.out
        have htm := HTM.out ls[k] (List.getElem_mem hkl)
        have hgd : ls.getD k [] = ls[k] := by rw [List.getD_eq_getElem?_getD, List.getElem?_eq_getElem hkl]; rfl
        rw [hgd] at hsl
        have HNX := hidden (encBody_next hkl)
        have HRX : Hid (rightNs ls[k] = true → ∀ l ∈ ls.take (k + 1), rightNs l = true) := fun h => take_next hkl HRT.out h
        have HBAD : Hid (rightNs ls[k] = false → ls.all rightNs = false) := fun h => List.all_eq_false.2 ⟨ls[k], List.getElem_mem hkl, by simp [h]⟩
        generalize ls[k] = l at hsl htm HNX HRX HBAD
        generalize nm.getD k undef = v at hnk hsl
        obtain ⟨va, vc, rfl, hv1, hv2, _⟩ := id hsl
        have HTL := hidden htm
        have hix := run_index_ten hlt hnk wr
        clear hgd htm hnk
        go_wp2_with fail
        refine (rightNames_c _ l _ hsl HTL.out.1 HTL.out.2).mono ?_
        rintro e w4 ⟨rfl, rfl⟩
        cases hr : rightNs l with
        | false =>
          have hall := HBAD.out hr
          have hE : EE = 12 := by rw [HEO.out, hall]; rfl
          have hBB : BB = [] := by rw [HBO.out, hall]; rfl
          subst hE hBB
          go_wp2
          go_ret2
          exact ⟨_, rfl, bsl_none _, (fun k e => by cases e), HBW.out⟩
        | true =>
          have hjl := rightNs_len hr
          have hrx := HRX.out hr
          have HRX2 := hidden hrx
          clear hrx
          go_wp2_with fail
          refine (names_c _ l _ hsl (by omega) (by have := HTL.out.1; omega) hws (by have := HLN.out; omega)).mono ?_
          rintro e w5 ⟨rfl, g5, hw5, hwr5⟩
          have HB5 := hidden (HB.out.trans (hwr5.below hws))
          rw [List.append_assoc _ (encBody _), ← HNX.out] at hw5
          have HW5 := hidden hw5
          clear hw5 hwr5 hws hsl
          go_wp2
          go_roundw
          case rel => exact ⟨k + 1, g5, by omega, by go_num, HW5.out, HRX2.out, HB5.out⟩
          case measure => simp [intOf]; omega
      · have hi1 : ¬ (k : Int) < 10 := by omega
        have hke : k = ls.length := by have := HLL.out; omega
        have hall : ls.all rightNs = true := by
          have := HRT.out
          rw [hke, List.take_length] at this
          rw [List.all_eq_true]
          exact this
        have hE : EE = 0 := by rw [HEO.out, hall]; rfl
        have hBB : BB = encL bs ls fo := by rw [HBO.out, hall]; rfl
        rw [hke, List.take_length] at hws HLN
        have HBF : Hid ([20] ++ bs ++ encBody ls ++ [bit fo] ++ be 4 0 = BB) := by rw [hBB]; rfl
        subst hE
        have c2 := (hx0.below HB.out (by omega)).cell HC2.out
        clear hall hBB hke HRT HNL
        generalize [20] ++ bs ++ encBody ls = X at hws HLN HBF
        go_wp2_with fail
        refine (bool_c fo _ hws (by have := HLN.out; omega)).mono ?_
        rintro e w6 ⟨rfl, g6, hw6, hwr6⟩
        have hb6 := HB.out.trans (hwr6.below hws)
        go_wp2_with fail
        refine (u32_c 0 (by omega) (by omega) _ hw6 (by have := HLN.out; simp; omega)).mono ?_
        rintro e w7 ⟨rfl, g7, hw7, hwr7⟩
        have hb7 := hb6.trans (hwr7.below hw6)
        rw [show (0 : Int).toNat = 0 from rfl, HBF.out] at hw7
        have HBL : Hid (BB.length ≤ 20000) := by show _ ≤ _; rw [← HBF.out]; have := HLN.out; simp [be_length]; omega
        clear hws hwr6 hb6 hw6 hwr7
        go_wp2_with fail
        refine (done_c _ hw7 (by have := HBL.out; omega)).mono ?_
        rintro e w8 ⟨v8, rfl, ho8, hb8⟩
        have hb9 := hb7.trans (hb8.mono (Nat.le_trans hw7.base (Nat.le_of_lt hw7.lt)))
        obtain ⟨a8, c8, rfl⟩ := ownsRow_shape ho8
        have hlt8 := ho8.lt
        have HF : Hid (∀ k, (Value.slice a8 BB.length c8).ownBlock = some k → w.heap.size ≤ k) := fun k e => by
          have h1 := (hlt8 k e).1
          have h2 := hb7.size
          have h3 := HBX.out.size
          omega
        have HO8 := hidden (BSl.ofRow ho8)
        have HB9 := hidden (HBX.out.trans (hb9.mono (by omega)))
        clear hlt8 ho8 hb8 hb9 hw7 hb7
        go_wp2
        go_ret2
        exact ⟨_, rfl, HO8.out, HF.out, HB9.out⟩
  · have hq : ((bs.length : Int) != 16) = true := by rw [bne_iff_ne]; omega
    have e1 : encE bs ls = 1 := by simp only [encE, h16, if_false]
    have e2 : encB bs ls fo = [] := by simp [encB, encOk, h16]
    rw [e1, e2]
    clear h16 e1 e2
    go_enter Try.func13, Try.ntmps13
    go_wp2
    go_ret2
    exact ⟨_, rfl, bsl_none _, (fun k e => by cases e), HBX.out⟩
end Go.Proofs.Ytnnhffjajbiicaa
