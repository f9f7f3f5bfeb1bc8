/- An Out: its state, and what its calls do. -/
import Derived.Test.YthkaibkmpenclaaDoorPkE
namespace Go.Proofs.YthkaibkmpenclaaDoor
open Go Go.RowKit

theorem madeN (n : Nat) (hn : n ≤ 1000000) : ∃ Z, (∀ w : World, (Instr.makeSlice 22 (.int .i64 (n : Int)) (.int .i64 (n : Int))).run Tryd.prog w = .ok (.slice (some ⟨w.heap.size, 0, none⟩) n n) (w.alloc (.cells Z 5))) ∧ ∀ w : World, BSl (w.alloc (.cells Z 5)) (.slice (some ⟨w.heap.size, 0, none⟩) n n) (List.replicate n 0) :=
  ⟨_, fun w => made_run n hn w, fun w => BSl.zeros w n hn⟩
theorem bsl_one (w : World) (b : UInt8) : BSl (w.alloc (.cells #[.int .u8 (b.toNat : Int)] 5)) (.slice (some ⟨w.heap.size, 0, none⟩) 1 1) [b] :=
  BSl.ofBlock (xs := [b]) (heap_alloc_new w (.cells #[.int .u8 (b.toNat : Int)] 5)) (by simp)
theorem bsl_at {w : World} {B : Nat} {b : UInt8} {x : Int} (h : w.heap[B]? = some (.cells #[.int .u8 x] 5 (0, 0))) (hx : x = (b.toNat : Int)) : BSl w (.slice (some ⟨B, 0, none⟩) 1 1) [b] := by
  subst hx
  exact BSl.ofBlock (xs := [b]) h (by simp)
theorem Own.next {w w3 w' : World} {v : Value} {xs : List UInt8} (hb : Below w.heap.size w w3) (h : Own w3 w' v xs) : Own w w' v xs :=
  ⟨⟨h.row.1, h.row.2.imp_right fun ⟨g, cap, cur, e1, e2, e3⟩ => ⟨g, cap, cur, e1, Nat.le_trans hb.size e2, e3⟩⟩, hb.trans (h.b.mono hb.size)⟩
theorem three_c (w : World) (q : Nat) (x : Int) (Z : Array Value) (v : Value) (p : List UInt8) (b : UInt8) (hx : x = (b.toNat : Int))
    (hz : ∀ w : World, BSl (w.alloc (.cells Z 5)) (.slice (some ⟨w.heap.size, 0, none⟩) q q) (List.replicate q 0)) (hv : BSl w v p) (hp : p.length ≤ 1000000) (hq : q ≤ 1000000) :
    Calls Tryd.prog 32 #[.slice (some ⟨w.heap.size + 1 + 1, 0, none⟩) 3 3]
      (((w.alloc (.cells #[.int .u8 x] 5)).alloc (.cells Z 5)).alloc (.cells #[.slice (some ⟨w.heap.size, 0, none⟩) 1 1, v, .slice (some ⟨w.heap.size + 1, 0, none⟩) q q] 22))
      fun e w' => ∃ v', e = .returned v' ∧ Own w w' v' (b :: (p ++ List.replicate q 0)) := by
  subst hx
  have h0 := bsl_one w b
  generalize e1 : w.alloc (.cells #[.int .u8 (b.toNat : Int)] 5) = w1 at h0 ⊢
  have b1 : Below w.heap.size w w1 := by rw [← e1]; exact (Below.refl _ w).alloc (Nat.le_refl _) _
  have s1 : w1.heap.size = w.heap.size + 1 := by rw [← e1]; simp
  have h2 := hz w1
  generalize e2 : w1.alloc (.cells Z 5) = w2 at h2 ⊢
  have b2 : Below w1.heap.size w1 w2 := by rw [← e2]; exact (Below.refl _ w1).alloc (Nat.le_refl _) _
  have s2 : w2.heap.size = w.heap.size + 1 + 1 := by rw [← e2]; simp [s1]
  rw [s1] at h2
  have hn := heap_alloc_new w2 (.cells #[.slice (some ⟨w.heap.size, 0, none⟩) 1 1, v, .slice (some ⟨w.heap.size + 1, 0, none⟩) q q] 22)
  have b3 := (Below.refl w2.heap.size w2).alloc (Nat.le_refl _) (.cells #[.slice (some ⟨w.heap.size, 0, none⟩) 1 1, v, .slice (some ⟨w.heap.size + 1, 0, none⟩) q q] 22)
  rw [s2] at hn
  generalize w2.alloc (.cells #[.slice (some ⟨w.heap.size, 0, none⟩) 1 1, v, .slice (some ⟨w.heap.size + 1, 0, none⟩) q q] 22) = w3 at hn b3 ⊢
  have bb : Below w.heap.size w w3 := b1.trans ((b2.trans (b3.mono b2.size)).mono b1.size)
  refine (concat3 (w.heap.size + 1 + 1) _ v _ [b] p (List.replicate q 0) (by simp; omega) w3 ?_ ?_ ?_ ((h0.fresh b2).fresh b3) (hv.fresh bb) (h2.fresh b3)).mono ?_
  · exact cell_row (cs := [.slice (some ⟨w.heap.size, 0, none⟩) 1 1, v, .slice (some ⟨w.heap.size + 1, 0, none⟩) q q]) hn 0
  · exact cell_row (cs := [.slice (some ⟨w.heap.size, 0, none⟩) 1 1, v, .slice (some ⟨w.heap.size + 1, 0, none⟩) q q]) hn 1
  · exact cell_row (cs := [.slice (some ⟨w.heap.size, 0, none⟩) 1 1, v, .slice (some ⟨w.heap.size + 1, 0, none⟩) q q]) hn 2
  · rintro e w' ⟨v', rfl, ho⟩
    exact ⟨v', rfl, by simpa using Own.next bb ho⟩
set_option maxHeartbeats 800000 in
set_option maxRecDepth 100000 in
theorem filled_c (w : World) {g : Nat} {key : List UInt8} {c : Nat} (h : LineS w g key c) (v : Value) (p : List UInt8) (hv : BSl w v p) (hp : p.length ≤ 40000) :
    Calls Tryd.prog 29 #[.pointer (some ⟨g, 0, none⟩), v] w fun e w' => ∃ v', e = .returned v' ∧ Own w w' v' (bodyP key p) := by
  have HL := hidden h
  have HV := hidden hv
  obtain ⟨ao, cap, rfl⟩ := hv.len
  clear h hv
  obtain ⟨n, hn⟩ : ∃ n, n = p.length := ⟨_, rfl⟩
  have HN := hidden hn
  rw [← hn] at hp ⊢
  have HR := hidden (padP_range key n)
  have HM := hidden (padP_mod key n)
  have HLE := hidden (padP_least key n)
  have HBP : Hid (bodyP key p = [UInt8.ofNat (padP key n)] ++ p ++ List.replicate (padP key n) 0) := by show _ = _; rw [bodyP, ← hn]; simp
  rw [HBP.out]
  rw [← hn] at HV
  clear hn HBP
  generalize padP key n = P at HR HM HLE ⊢
  go_enter Tryd.func29, Tryd.ntmps29
  go_wp2_with fail
  go_loopw [5] (fun s wr => ∃ q : Nat, 4 ≤ q ∧ q ≤ P ∧ s = .int .i64 (q : Int) ∧ wr = w) (fun s _ => P - (intOf s).toNat)
  case atStart => exact ⟨4, by omega, HR.out.1, rfl, rfl⟩
  case round =>
    obtain ⟨q, hq4, hqP, rfl, rfl⟩ := hrel
    have hP := HR.out.2
    by_cases hlt : q < P
    · have hF := fillsUnits_c (1 + n + q) (by omega) wr HL.out
      rw [decide_eq_false (HLE.out q hq4 hlt)] at hF
      rw [show ((1 + n + q : Nat) : Int) = 1 + (n : Int) + (q : Int) by omega] at hF
      have HF := hidden hF
      clear hF
      go_wp2_with fail
      refine HF.out.mono ?_
      rintro e w2 ⟨rfl, hw2⟩
      subst hw2
      go_wp2
      go_roundw
      case rel => exact ⟨q + 1, by omega, by omega, by go_num, trivial⟩
      case measure => simp [intOf]; omega
    · obtain rfl : q = P := by omega
      have hF := fillsUnits_c (1 + n + q) (by omega) wr HL.out
      rw [decide_eq_true HM.out] at hF
      rw [show ((1 + n + q : Nat) : Int) = 1 + (n : Int) + (q : Int) by omega] at hF
      have HF := hidden hF
      clear hF
      obtain ⟨wo, ewo⟩ : ∃ x, x = wr := ⟨wr, rfl⟩
      subst ewo
      go_wp2_with fail
      refine HF.out.mono ?_
      rintro e w2 ⟨rfl, hw2⟩
      subst hw2
      obtain ⟨Z, hm, hz⟩ := madeN q (by omega)
      have HZ := hidden hz
      clear hz HF
      have HX : Hid ((q : Int) = ((UInt8.ofNat q).toNat : Int)) := by
        show _ = _
        rw [UInt8.toNat_ofNat']
        omega
      have hq256 : (q : Int) % 256 = (q : Int) := by omega
      go_wp2_with fail
      refine (three_c w2 q (q : Int) Z _ p _ HX.out HZ.out (HV.out) (by have := HN.out; omega) (by omega)).mono ?_
      rintro e w5 ⟨v5, rfl, ho5⟩
      have HO := hidden ho5
      clear ho5
      go_wp2
      go_ret
      exact ⟨_, rfl, HO.out⟩
end Go.Proofs.YthkaibkmpenclaaDoor
