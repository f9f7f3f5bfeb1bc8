/- rising and known of the laws on aead. -/
import Derived.Test.YtndneidkodpdpaaDoorAeB
import Derived.Test.YtndneidkodpdpaaDoorAeK
import Derived.Great.BuildSlice
namespace Go.Proofs.YtndneidkodpdpaaDoor
open Go Go.RowKit

set_option maxHeartbeats 800000 in
set_option maxRecDepth 100000 in
theorem riseF_c (f m : Nat) (hf : f ≤ 1000) (hm : m ≤ 1000) (w : World) :
    Calls Tryd.prog 17 #[.int .i64 f, .int .i64 m] w fun e w' => Fresh w (riseF f m) e w' := by
  obtain ⟨i0, hi, hz0, hz1, hz2⟩ := info_parts Tryd.infoU8
  go_enter Tryd.func17, Tryd.ntmps17
  go_wp2_with fail
  go_loopw [5, 6] (fun b i wr => ∃ k : Nat, k ≤ m ∧ i = .int .i64 (k : Int) ∧ wr.ownsRow w.heap.size 5 1 b k (bcells (riseF f k)) ∧ Below w.heap.size w wr) (fun _ i _ => m - (intOf i).toNat)
  case atStart => exact ⟨0, by omega, rfl, World.ownsRow_nil _ _ _ _, Below.refl _ _⟩
  case round =>
    obtain ⟨k, hk, rfl, ho, hb⟩ := hrel
    have HO := hidden ho
    have HB := hidden hb
    obtain ⟨ao, cp, rfl⟩ := ownsRow_shape ho
    have hsz : w.heap.size ≤ wr.heap.size := hb.size
    clear ho hb
    by_cases hlt : k < m
    · have hlt' : (k : Int) < (m : Int) := by omega
      go_wp2_with (refine wpList_append_src _ rfl (.tmp 12) (.tmp 17) 22 22 rfl w.heap.size 5 i0 _ 1 Tryd.underlying22 hi hz0 hz1 hz2 rfl (.slice ao k cp) k _ rfl (HO.out.alloc _) _ 1 _ rfl (srcAt (by rfl) (heap_alloc_new wr _)) (by unfold maxLen; omega) (by omega) (by simp; omega) (wr.heap.size + 1) (by simp) ?_)
      intro v' w9 hown hgrow hnil hat
      have hb9 : Below w.heap.size w w9 := ((HB.out.alloc hsz _)).grown hgrow (by simp; omega) (fun k hk => (HO.out.lt k hk).1)
      have HO9 : Hid (w9.ownsRow w.heap.size 5 1 v' (k + 1) (bcells (riseF f (k + 1)))) := by
        show World.ownsRow _ _ _ _ _ _ _
        rw [riseF_succ, bcells_append]
        have : bcells [byteOf ((f + k : Nat) : Int)] = [.int .u8 (((f : Int) + (k : Int)) % 256)] := by
          simp only [bcells, List.map_cons, List.map_nil, byteOf_nat]
          rfl
        rw [this]
        exact hown
      have HB9 := hidden hb9
      clear hown hgrow hnil hat hb9
      go_wp2
      go_roundw
      case rel => exact ⟨k + 1, by omega, by go_num, HO9.out, HB9.out⟩
      case measure => simp [intOf]; omega
    · have hlt' : ¬ (k : Int) < (m : Int) := by omega
      obtain rfl : k = m := by omega
      go_wp2
      go_ret
      refine ⟨_, rfl, ?_, HB.out⟩
      rw [riseF_length]
      exact HO.out

theorem wpList_text {ops : Array Oper} {rest : List Oper} {o : Oper} {a : Act} {w : World} {Q : Exit → Act → World → Prop} (TX : Array Value) (hTX : TX = (bcells aT).toArray) (hg : o.guard = none) (parts : Array (Nat × Operand)) (ho : o.op = .buildSlice 22 114 parts)
    (hparts : parts.toList = ((aT.map fun b => (b.toNat : Int)).zipIdx 0).map fun x => (x.2, Operand.const (Value.int .u8 x.1)))
    (h : wpList Tryd.prog ops Q rest (a.put o.dst (.slice (some ⟨w.heap.size, 0, none⟩) 114 114)) (w.alloc (.cells TX 5))) : wpList Tryd.prog ops Q (o :: rest) a w := by
  subst hTX
  refine wpList_buildFlat hg 22 5 114 parts ho .u8 (aT.map fun b => (b.toNat : Int)) Tryd.underlying22 (by kernel_rfl) (by kernel_rfl) (by rw [List.length_map]; decide +kernel) (by omega) (by omega) hparts ?_
  rw [List.map_map]
  exact h

set_option maxHeartbeats 1600000 in
set_option maxRecDepth 100000 in
theorem aknown_c (w : World) (hcl : Cl w) : Calls Tryd.prog 20 #[] w fun e w' => e = .returned (.bool true) ∧ Below w.heap.size w w' := by
  have HCL := hidden hcl
  have HS := hidden a_seal
  have hcv : ∀ (w : World) (C : Array Value) (n c : Nat), (convert 22 22 (.slice (some ⟨w.heap.size, 0, none⟩) n c)).run Tryd.prog (w.alloc (.cells C 5)) = .ok (.slice (some ⟨w.heap.size, 0, none⟩) n c) (w.alloc (.cells C 5 (C.size, C.size + 1))) :=
    fun w C n c => Lib.run_convert_bytes_const w _ _ C n c Tryd.underlying22 Tryd.underlying5
  obtain ⟨i0, hi, hz0, hz1, hz2⟩ := info_parts Tryd.infoU8
  clear hcl
  go_enter Tryd.func20, Tryd.ntmps20
  go_wp2_with fail
  refine (riseF_c 64 8 (by omega) (by omega) _).mono ?_
  rintro e w1 ⟨v1, rfl, ho1, hb1⟩
  have hn0 : (w.alloc (.cells (bcells [7, 0, 0, 0]).toArray 5)).heap[w.heap.size]? = some (.cells (bcells [7, 0, 0, 0]).toArray 5 (0, 0)) := heap_alloc_new w _
  have hn1 : w1.heap[w.heap.size]? = some (.cells (bcells [7, 0, 0, 0]).toArray 5 (0, 0)) := (Keeps.ofFresh (S := fun _ => False) hb1).block w.heap.size (by simp) (fun h => h) |>.trans hn0
  have HOW : Hid (w1.ownsRow w.heap.size 5 1 (.slice (some ⟨w.heap.size, 0, none⟩) 4 4) 4 (bcells [7, 0, 0, 0])) := own_block hn1 (Nat.le_refl _) (by decide)
  have hso := (BSl.ofRow ho1).src
  rw [riseF_length] at hso
  have HSO := hidden hso
  have HB1 : Hid (Below w.heap.size w w1) := below_alloc hb1
  have hsz1 : w.heap.size ≤ w1.heap.size := HB1.out.size
  obtain ⟨a1, c1, rfl⟩ := ownsRow_shape ho1
  clear hn0 hn1 ho1 hb1 hso
  go_wp2_with (refine wpList_append_src _ rfl (.tmp 4) (.tmp 5) 22 22 rfl w.heap.size 5 i0 _ 1 Tryd.underlying22 hi hz0 hz1 hz2 rfl (.slice (some ⟨w.heap.size, 0, none⟩) 4 4) 4 _ rfl HOW.out _ 8 _ rfl HSO.out (by unfold maxLen; omega) (by omega) hsz1 w1.heap.size rfl ?_)
  intro v2 w2 ho2 hgr2 _ _
  have hN2 : BSl w2 v2 aN := BSl.ofRow (base := w.heap.size) (n := 12) (by rw [aN, bcells_append]; exact ho2)
  have HN2 := hidden hN2
  have HB2 : Hid (Below w.heap.size w w2) := HB1.out.grown hgr2 hsz1 (fun k hk => (HOW.out.lt k hk).1)
  clear ho2 hgr2 HOW HSO HB1 hsz1 hN2
  go_wp2_with fail
  refine (riseF_c 128 32 (by omega) (by omega) _).mono ?_
  rintro e w3 ⟨v3, rfl, ho3, hb3⟩
  have HK3 : Hid (BSl w3 v3 aK) := BSl.ofRow ho3
  have HN3 := hidden (HN2.out.fresh hb3)
  have HB3 := hidden (HB2.out.trans (hb3.mono HB2.out.size))
  clear ho3 hb3 HN2 HB2
  go_wp2_with fail
  refine (riseF_c 192 8 (by omega) (by omega) _).mono ?_
  rintro e w4 ⟨v4, rfl, ho4, hb4⟩
  have hn0 : (w3.alloc (.cells (bcells [80, 81, 82, 83]).toArray 5)).heap[w3.heap.size]? = some (.cells (bcells [80, 81, 82, 83]).toArray 5 (0, 0)) := heap_alloc_new w3 _
  have hn1 : w4.heap[w3.heap.size]? = some (.cells (bcells [80, 81, 82, 83]).toArray 5 (0, 0)) := (Keeps.ofFresh (S := fun _ => False) hb4).block w3.heap.size (by simp) (fun h => h) |>.trans hn0
  have HOW : Hid (w4.ownsRow w3.heap.size 5 1 (.slice (some ⟨w3.heap.size, 0, none⟩) 4 4) 4 (bcells [80, 81, 82, 83])) := own_block hn1 (Nat.le_refl _) (by decide)
  have hso := (BSl.ofRow ho4).src
  rw [riseF_length] at hso
  have HSO := hidden hso
  have HB4 : Hid (Below w3.heap.size w3 w4) := below_alloc hb4
  have hsz4 : w3.heap.size ≤ w4.heap.size := HB4.out.size
  obtain ⟨a4, c4, rfl⟩ := ownsRow_shape ho4
  clear hn0 hn1 ho4 hb4 hso
  go_wp2_with (refine wpList_append_src _ rfl (.tmp 10) (.tmp 11) 22 22 rfl w3.heap.size 5 i0 _ 1 Tryd.underlying22 hi hz0 hz1 hz2 rfl (.slice (some ⟨w3.heap.size, 0, none⟩) 4 4) 4 _ rfl HOW.out _ 8 _ rfl HSO.out (by unfold maxLen; omega) (by omega) hsz4 w4.heap.size rfl ?_)
  intro v5 w5 ho5 hgr5 _ _
  have HA5 : Hid (BSl w5 v5 aA) := BSl.ofRow (base := w3.heap.size) (n := 12) (by rw [aA, bcells_append]; exact ho5)
  have hb5 : Below w3.heap.size w3 w5 := HB4.out.grown hgr5 hsz4 (fun k hk => (HOW.out.lt k hk).1)
  have HB5 := hidden (HB3.out.trans (hb5.mono HB3.out.size))
  have HK5 := hidden (HK3.out.fresh hb5)
  have HN5 := hidden (HN3.out.fresh hb5)
  clear ho5 hgr5 HOW HSO HB4 hsz4 hb5 HK3 HN3 HB3 hi hz0 hz1 hz2
  obtain ⟨TX, hTX⟩ : ∃ TX, TX = (bcells aT).toArray := ⟨_, rfl⟩
  have hTs : TX.size = 114 := by rw [hTX]; decide +kernel
  have HTX := hidden hTX
  clear hTX
  go_wp2_with (refine wpList_text TX HTX.out rfl _ rfl (by kernel_rfl) ?_)
  have hT : BSl (w5.alloc (.cells TX 5 (114, 115))) (.slice (some ⟨w5.heap.size, 0, none⟩) 114 114) aT := by
    rw [HTX.out]
    exact bsl_const w5 aT (by decide +kernel) (114, 115)
  have hbT : Below w5.heap.size w5 (w5.alloc (.cells TX 5 (114, 115))) := (Below.refl _ w5).alloc (by omega) _
  refine (Seal_c _ _ _ _ aK aN aA aT (w5.alloc (.cells TX 5 (114, 115))) ((HCL.out.fresh HB5.out).fresh hbT) (by decide +kernel) (by decide +kernel) (HK5.out.fresh hbT) (HN5.out.fresh hbT) (HA5.out.fresh hbT) hT).mono ?_
  rintro e w6 ⟨hb6, v6, rfl, ho6⟩
  have hE : sealE aK aN = 0 := by rw [sealE, if_pos a_ok]
  have hL : (sealT aK aN aA aT).length = 130 := sealT_length aA aT a_ok
  rw [hE]
  have HB6 := hidden ((HB5.out.trans (hbT.mono HB5.out.size)).trans (hb6.mono (Nat.le_trans HB5.out.size hbT.size)))
  have h6 := BSl.ofRow ho6
  obtain ⟨S, hS⟩ : ∃ S, S = sealT aK aN aA aT := ⟨_, rfl⟩
  rw [← hS] at HS hL h6
  obtain ⟨b6, o6, c6, rfl, _⟩ := h6.nonnil (by intro e; rw [e] at hL; simp at hL)
  have hc6 : S.length ≤ c6 := by obtain ⟨_, _, e, h, _⟩ := id h6; injection e with _ _ e3; omega
  rw [hL] at h6 hc6 ⊢
  have h7 := h6.dropS (k := 114) (by omega)
  have hs := run_string h7
  rw [HS.out] at hs
  have hc7 : (114 : Int) ≤ (c6 : Int) := by omega
  have hc8 : (130 : Int) ≤ (c6 : Int) := by omega
  clear hT hbT hb6 ho6 h6 h7 HK5 HN5 HA5 HB5 hcv HS hE hL hS
  go_wp2
  go_ret
  exact ⟨rfl, HB6.out⟩

theorem aheld_b {w5 w' : World} {A B C D : Prop} (h : A ∧ B ∧ C ∧ D ∧ Below w5.heap.size w5 w') : Below w5.heap.size w5 w' := h.2.2.2.2
theorem OTold.row {w w' : World} {n : Nat} {xs : List UInt8} {e : Ending} (h : OTold w n xs e w') (hne : xs ≠ []) : Below w.heap.size w w' ∧ ∃ g cap, e = .returned (.tuple #[.slice (some ⟨g, 0, none⟩) xs.length cap, .int .i64 (n : Int)]) ∧ ORow w' w.heap.size g cap xs := by
  obtain ⟨h1, v, h2, h3⟩ := h
  obtain ⟨g, cap, rfl, h4⟩ := ORow.ofOwns h3 hne
  exact ⟨h1, g, cap, h2, h4⟩
theorem ETold.sl {w w' : World} {n : Nat} {xs : List UInt8} {e : Ending} (h : ETold w n xs e w') : Below w.heap.size w w' ∧ ∃ ao cap, e = .returned (.tuple #[.slice ao xs.length cap, .int .i64 (n : Int)]) ∧ BSl w' (.slice ao xs.length cap) xs := by
  obtain ⟨h1, v, h2, h3, _⟩ := h
  obtain ⟨ao, cap, rfl⟩ := h3.len
  exact ⟨h1, ao, cap, h2, h3⟩
theorem sealE_ok {key nonce : List UInt8} (h : okSizes key nonce = true) : sealE key nonce = 0 := by rw [sealE, if_pos h]
theorem str_same (a b : List UInt8) : ((⟨a.toArray⟩ : ByteArray).toList == (⟨b.toArray⟩ : ByteArray).toList) = decide (a = b) := by
  rw [ByteArray.toList_mk, ByteArray.toList_mk]
  exact Bool.eq_iff_iff.2 (by simp)
end Go.Proofs.YtndneidkodpdpaaDoor
