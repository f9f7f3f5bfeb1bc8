/- alice and known of the laws on curve. -/
import Derived.Test.YtdgapijgdbhlfaaDoorCuW
import Derived.Great.BuildSlice
import Derived.Lib.SmallJoins
namespace Go.Proofs.YtdgapijgdbhlfaaDoor
open Go Go.RowKit

theorem bsl_const (w : World) (xs : List UInt8) (hl : xs.length ≤ 1000) (fr : Nat × Nat) : BSl (w.alloc (.cells (bcells xs).toArray 5 fr)) (.slice (some ⟨w.heap.size, 0, none⟩) xs.length xs.length) xs := by
  refine ⟨_, _, rfl, Nat.le_refl _, by unfold maxLen; omega, (fun e => by cases e), fun ad e _ => ⟨w.heap.size, 0, by cases e; rfl, fun j u hu => ?_⟩⟩
  rw [Nat.zero_add, World.cell?_alloc_mark]
  simpa using hu
theorem own_block {w : World} {base g : Nat} {xs : List UInt8} (h : w.heap[g]? = some (.cells (bcells xs).toArray 5 (0, 0))) (hb : base ≤ g) (hl : xs.length ≤ 1000000) : w.ownsRow base 5 1 (.slice (some ⟨g, 0, none⟩) xs.length xs.length) xs.length (bcells xs) := by
  refine ⟨by rw [bcells_length]; omega, .inr ⟨g, xs.length, (bcells xs).toArray, rfl, hb, h, Nat.le_refl _, by unfold maxLen; omega, by simp [bcells_length], ?_⟩⟩
  rw [List.take_of_length_le (by simp [bcells_length])]
theorem str_same (a b : List UInt8) : ((⟨a.toArray⟩ : ByteArray).toList == (⟨b.toArray⟩ : ByteArray).toList) = decide (a = b) := by
  rw [ByteArray.toList_mk, ByteArray.toList_mk]
  exact Bool.eq_iff_iff.2 (by simp)
theorem wpList_alice {ops : Array Oper} {rest : List Oper} {o : Oper} {a : Act} {w : World} {Q : Exit → Act → World → Prop} (TX : Array Value) (hTX : TX = (bcells aliceL).toArray) (hg : o.guard = none) (parts : Array (Nat × Operand)) (ho : o.op = .buildSlice 22 32 parts)
    (hparts : parts.toList = ((aliceL.map fun b => (b.toNat : Int)).zipIdx 0).map fun x => (x.2, Operand.const (Value.int .u8 x.1)))
    (h : wpList Tryd.prog ops Q rest (a.put o.dst (.slice (some ⟨w.heap.size, 0, none⟩) 32 32)) (w.alloc (.cells TX 5))) : wpList Tryd.prog ops Q (o :: rest) a w := by
  subst hTX
  refine wpList_buildFlat hg 22 5 32 parts ho .u8 (aliceL.map fun b => (b.toNat : Int)) Tryd.underlying22 (by kernel_rfl) (by kernel_rfl) (by rw [List.length_map]; decide +kernel) (by omega) (by omega) hparts ?_
  rw [List.map_map]
  exact h

set_option maxHeartbeats 800000 in
set_option maxRecDepth 100000 in
theorem alice_c (w : World) : Calls Tryd.prog 9 #[] w fun e w' => ∃ v, e = .returned (.slice v 32 32) ∧ BSl w' (.slice v 32 32) aliceL ∧ Below w.heap.size w w' := by
  have hcv : ∀ (w : World) (C : Array Value) (n c : Nat), (convert 22 22 (.slice (some ⟨w.heap.size, 0, none⟩) n c)).run Tryd.prog (w.alloc (.cells C 5)) = .ok (.slice (some ⟨w.heap.size, 0, none⟩) n c) (w.alloc (.cells C 5 (C.size, C.size + 1))) :=
    fun w C n c => Lib.run_convert_bytes_const w _ _ C n c Tryd.underlying22 Tryd.underlying5
  obtain ⟨TX, hTX⟩ : ∃ TX, TX = (bcells aliceL).toArray := ⟨_, rfl⟩
  have hTs : TX.size = 32 := by rw [hTX]; decide +kernel
  have HTX := hidden hTX
  clear hTX
  go_enter Tryd.func9, Tryd.ntmps9
  go_wp2_with (refine wpList_alice TX HTX.out rfl _ rfl (by kernel_rfl) ?_)
  go_ret
  refine ⟨_, rfl, ?_, (Below.refl _ w).alloc (Nat.le_refl _) _⟩
  rw [HTX.out]
  exact bsl_const w aliceL (by decide +kernel) (32, 33)

theorem Told.bsl {w w' : World} {ok : Prop} {x : List UInt8} {e : Ending} (h : Told w ok x e w') (ho : ok) (hl : x.length = 32) : ∃ g, e = .returned (.tuple #[.slice (some ⟨g, 0, none⟩) 32 32, .int .i64 0]) ∧ BSl w' (.slice (some ⟨g, 0, none⟩) 32 32) x := by
  obtain ⟨g, h1, _, h3⟩ := h.y ho
  have := BSl.ofBlock h3 (by omega)
  rw [hl] at this
  exact ⟨g, h1, this⟩

set_option maxHeartbeats 800000 in
set_option maxRecDepth 100000 in
theorem known_c (w : World) (htp : Tp w) : Calls Tryd.prog 13 #[] w fun e w' => e = .returned (.bool true) ∧ Below w.heap.size w w' := by
  have HTP := hidden htp
  have HAL := hidden alice_base
  clear htp
  go_enter Tryd.func13, Tryd.ntmps13
  go_wp2_with fail
  refine (alice_c w).mono ?_
  rintro e w1 ⟨v, rfl, h1, b1⟩
  have HB1 := hidden b1
  have HC := hidden (Base_c _ aliceL w1 (HTP.out.fresh b1) h1)
  clear h1 b1
  go_wp2_with fail
  refine HC.out.mono ?_
  intro e w2 hT
  obtain ⟨g, rfl, h2⟩ := hT.bsl (by decide +kernel) (mulL_length _ _)
  have HB2 : Hid (Below w.heap.size w w2) := HB1.out.trans (hT.b.mono HB1.out.size)
  have h8 : BSl w2 (.slice (some ⟨g, 0, none⟩) 8 32) ((mulL aliceL nineL).take 8) := by
    have := h2.part (i := 0) (j := 8) (by omega)
    simpa using this
  rw [HAL.out] at h8
  have hs := run_string h8
  clear hT h2 h8 HC HB1
  go_wp2
  go_ret
  exact ⟨rfl, HB2.out⟩
end Go.Proofs.YtdgapijgdbhlfaaDoor
