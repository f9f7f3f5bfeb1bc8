/- The document's Out. -/
import Derived.Test.YthkaibkmpenclaaDoorPk5
import Derived.Test.YthkaibkmpenclaaDoorZer
import Derived.Test.YthkaibkmpenclaaDoorAeS
import Derived.Deep.CutRange
import Derived.Deep.RegionWith
namespace Go.Proofs.YthkaibkmpenclaaDoor
open Go Go.RowKit

theorem be4_cells (n : Nat) (h : n < 4294967296) : (#[.int .u8 ((n : Int) / 16777216), .int .u8 ((n : Int) / 65536 % 256), .int .u8 ((n : Int) / 256 % 256), .int .u8 ((n : Int) % 256)] : Array Value) = (bcells (be 4 n)).toArray := by
  simp [be, bcells]
  omega
set_option maxHeartbeats 400000 in
set_option maxRecDepth 100000 in
theorem ru32_c (n : Int) (h0 : 0 ≤ n) (h1 : n < 4294967296) (v : Value) (xs : List UInt8) (w : World) (hv : BSl w v xs) (hl : xs.length + 4 ≤ 140737488355328) :
    Calls Tryd.prog 35 #[v, .int .u32 n] w fun e w' => Fresh w (xs ++ be 4 n.toNat) e w' := by
  obtain ⟨n, rfl⟩ := Int.eq_ofNat_of_zero_le h0
  rw [Int.toNat_natCast]
  obtain ⟨i0, hi, hz0, hz1, hz2⟩ := info_parts Tryd.infoU8
  have hsrc := (hv.alloc (.cells #[] 5)).src
  go_enter Tryd.func35, Tryd.ntmps35
  go_wp2_with (at_builtin; refine wpList_append_src _ rfl (.tmp 5) (.tmp 6) 22 22 rfl w.heap.size 5 i0 _ 1 Tryd.underlying22 hi hz0 hz1 hz2 rfl _ _ _ rfl (World.ownsRow_made w #[] 0 (Nat.le_refl _) (Nat.zero_le _) rfl) _ xs.length (bcells xs) rfl hsrc (by unfold maxLen; omega) (by omega) (by simp) (w.heap.size + 1) (by simp) ?_)
  intro v1 w1 hown1 hgrow1 hnil1 hat1
  have hb1 : Below w.heap.size w w1 := ((Below.refl _ w).alloc (Nat.le_refl _) _).grown hgrow1 (by simp) (by intro k hk; simp [Value.ownBlock] at hk; omega)
  have hown2 : w1.ownsRow w.heap.size 5 1 v1 xs.length (bcells xs) := by simpa using hown1
  clear hown1 hgrow1 hnil1 hat1 hsrc
  have hs1 := hb1.size
  go_wp2_with (at_builtin; refine wpList_append_src _ rfl (.tmp 7) (.tmp 19) 22 22 rfl w.heap.size 5 i0 _ 1 Tryd.underlying22 hi hz0 hz1 hz2 rfl _ _ _ rfl (hown2.alloc _) _ 4 (bcells (be 4 n)) rfl ?qs (by unfold maxLen; omega) (by omega) (by simp; omega) (w1.heap.size + 1) (by simp) ?_)
  case qs => exact srcBlock (xs := be 4 n) (be4_cells n (by omega)) (heap_alloc_new w1 _)
  intro v2 w2 hown3 hgrow3 hnil3 hat3
  have hb2 : Below w.heap.size w w2 := (hb1.alloc hs1 _).grown hgrow3 (by simp; omega) (fun k hk => (hown2.lt k hk).1)
  clear hgrow3 hnil3 hat3
  go_wp2
  go_ret
  exact ⟨v2, rfl, by rw [List.length_append, be_length, bcells_append]; exact hown3, hb2⟩
theorem be8_split (n : Nat) : be 8 n = be 4 (n / 4294967296) ++ be 4 (n % 4294967296) := by
  simp only [be, List.cons_append, List.nil_append, List.cons.injEq, and_true, Nat.reducePow]
  refine ⟨congrArg _ ?_, congrArg _ ?_, congrArg _ ?_, congrArg _ ?_, congrArg _ ?_, congrArg _ ?_, congrArg _ ?_, congrArg _ ?_⟩ <;> omega
set_option maxHeartbeats 400000 in
theorem ru64_c (n : Int) (h0 : 0 ≤ n) (h1 : n < 18446744073709551616) (v : Value) (xs : List UInt8) (w : World) (hv : BSl w v xs) (hl : xs.length + 8 ≤ 140737488355328) :
    Calls Tryd.prog 54 #[v, .int .u64 n] w fun e w' => Fresh w (xs ++ be 8 n.toNat) e w' := by
  obtain ⟨n, rfl⟩ := Int.eq_ofNat_of_zero_le h0
  rw [Int.toNat_natCast]
  go_enter Tryd.func54, Tryd.ntmps54
  go_wp2_with fail
  refine (ru32_c _ (by omega) (by omega) v xs _ hv (by omega)).mono ?_
  rintro e w1 ⟨v1, rfl, ho1, hb1⟩
  go_wp2_with fail
  refine (ru32_c _ (by omega) (by omega) _ _ _ (BSl.ofRow ho1) (by simp [be_length]; omega)).mono ?_
  rintro e w2 hf2
  obtain ⟨v2, rfl, ho2, hb2⟩ := Fresh.next hb1 hf2
  go_wp2
  go_ret
  refine ⟨v2, rfl, ?_, hb2⟩
  rw [be8_split, ← List.append_assoc]
  exact ho2

set_option maxHeartbeats 400000 in
theorem rnonce_c (c : Nat) (hc : c ≤ 1000000) (w : World) : Calls Tryd.prog 37 #[.int .u64 (c : Int)] w fun e w' => Fresh w (nonceL c) e w' := by
  obtain ⟨Z, hm, hz⟩ := madeN 4 (by omega)
  have hm4 : ∀ w : World, (Instr.makeSlice 22 (.int .i64 4) (.int .i64 4)).run Tryd.prog w = .ok (.slice (some ⟨w.heap.size, 0, none⟩) 4 4) (w.alloc (.cells Z 5)) := hm
  have HZ := hidden hz
  have hba := (Below.refl w.heap.size w).alloc (Nat.le_refl _) (.cells Z 5)
  have h64 := ru64_c (c : Int) (by omega) (by omega) (.slice (some ⟨w.heap.size, 0, none⟩) 4 4) (List.replicate 4 0) (w.alloc (.cells Z 5)) (HZ.out w) (by simp)
  rw [Int.toNat_natCast] at h64
  have H64 := hidden h64
  have HBA := hidden hba
  clear hz hba h64 hm
  go_enter Tryd.func37, Tryd.ntmps37
  go_wp2_with fail
  refine H64.out.mono ?_
  rintro e w2 hf
  obtain ⟨v2, rfl, ho2, hb2⟩ := Fresh.next HBA.out hf
  have HF : Hid (Fresh w (nonceL c) (.returned v2) w2) := ⟨v2, rfl, ho2, hb2⟩
  clear hf ho2 hb2
  go_wp2
  go_ret
  exact HF.out
/-- The document's Out at block g. -/
structure ROut (w : World) (g : Nat) (kb : Option Nat) (key : List UInt8) (c : Nat) : Prop where
  ex : ∃ kv, w.heap[g]? = some (.cells #[kv, .int .u64 (c : Int)] 29 (0, 0)) ∧ BSl w kv key ∧ kv.ownBlock = kb ∧ (key = [] → kv = .slice none 0 0)
  ne : kb ≠ some g
  lt : ∀ k, kb = some k → k < w.heap.size
  ok : KeyOk key
  le : c ≤ 1000000
theorem ROut.keep {S : Nat → Prop} {w w' : World} {g : Nat} {kb : Option Nat} {key : List UInt8} {c : Nat} (h : ROut w g kb key c) (hk : Keeps S w w') (hg : ¬ S g) (hkb : ∀ k, kb = some k → ¬ S k) : ROut w' g kb key c := by
  obtain ⟨⟨kv, h1, h2, rfl, h3⟩, h4, h5, h6, h7⟩ := h
  exact ⟨⟨kv, (hk.block g (lt_of_block h1) hg).trans h1, h2.keep hk hkb, rfl, h3⟩, h4, fun k e => Nat.lt_of_lt_of_le (h5 k e) hk.size, h6, h7⟩
theorem ROut.fresh {w w' : World} {g : Nat} {kb : Option Nat} {key : List UInt8} {c : Nat} (h : ROut w g kb key c) (hb : Below w.heap.size w w') : ROut w' g kb key c := h.keep (Keeps.ofFresh (S := fun _ => False) hb) (fun h => h) (fun _ _ h => h)
theorem ROut.blockLt {w : World} {g : Nat} {kb : Option Nat} {key : List UInt8} {c : Nat} (h : ROut w g kb key c) : g < w.heap.size := by
  obtain ⟨⟨kv, h1, _⟩, _⟩ := h
  exact lt_of_block h1
theorem rout_new (w : World) : ROut (w.alloc (.cells #[.slice none 0 0, .int .u64 0] 29)) w.heap.size none [] 0 :=
  ⟨⟨_, heap_alloc_new w _, bsl_none _, rfl, fun _ => rfl⟩, by simp, by simp, .inl rfl, by omega⟩
theorem ne_nil (w : World) (a : Option Addr) (l c : Nat) : (binOp .neq 22 (.slice a l c) (.slice none 0 0)).run Tryd.prog w = .ok (.bool (!a.isNone)) w := by
  simp only [binOp]
  simp [run_equal_slice_nil w 22 5 a l c Tryd.underlying22]
theorem own_nil (w : World) : Own w (w.alloc (.cells #[] 5)) (.slice (some ⟨w.heap.size, 0, none⟩) 0 0) [] := ⟨own_empty w, (Below.refl _ w).alloc (Nat.le_refl _) _⟩
set_option maxHeartbeats 400000 in
set_option maxRecDepth 100000 in
theorem rOutKeys_c (v : Value) (xs : List UInt8) (w : World) {g : Nat} {kb : Option Nat} {key : List UInt8} {c : Nat} (h : ROut w g kb key c) (hv : BSl w v xs) (hl : xs.length = 32) :
    Calls Tryd.prog 13 #[.pointer (some ⟨g, 0, none⟩), v] w fun e w' => e = .returned (.int .i64 0) ∧ ∃ kb', ROut w' g kb' xs c ∧ Keeps (fun k => k = g) w w' ∧ ∀ k, kb' = some k → w.heap.size ≤ k := by
  obtain ⟨⟨kv, h1, h2, h3, h3n⟩, h4, h5, h6, h7⟩ := h
  have H1 := hidden h1
  have hlt := lt_of_block h1
  have HS := hidden ((hv.alloc (.cells #[] 5)).src)
  have HL := hidden hl
  obtain ⟨av, cv, rfl⟩ := hv.len
  rw [hl] at HS ⊢
  clear h1 h2 h3 h3n h4 h5 h6 hv hl
  go_enter Tryd.func13, Tryd.ntmps13
  go_wp2_with (at_builtin; (refine wpList_own _ rfl (.tmp 9) (.tmp 10) 22 rfl w _ [] rfl (own_nil w) _ xs rfl (by rw [HL.out]; exact HS.out) (by have := HL.out; simp; omega) ?_))
  intro v4 w1 ho _ _
  have hg1 : w1.heap[g]? = some (.cells #[kv, .int .u64 (c : Int)] 29 (0, 0)) := ((Keeps.ofFresh (S := fun _ => False) ho.b).block g hlt (fun h => h)).trans H1.out
  have hkk : Keeps (fun k => k = g) w1 (w1.setCell ⟨g, 0, none⟩ v4) := keepSet _ w1 g 0 v4 rfl
  have HF : Hid (ROut (w1.setCell ⟨g, 0, none⟩ v4) g v4.ownBlock xs c) := by
    refine ⟨⟨v4, set2a hg1 _, ho.bsl.keep hkk (fun k e hk => ?_), rfl, fun e => ?_⟩, fun e => ?_, fun k e => ?_, .inr HL.out, h7⟩
    · have := (own_ge ho k e).1; omega
    · have := HL.out; rw [e] at this; simp at this
    · have := (own_ge ho g e).1; omega
    · rw [World.size_setCell]; exact (own_ge ho k e).2
  have HK : Hid (Keeps (fun k => k = g) w (w1.setCell ⟨g, 0, none⟩ v4)) := (Keeps.ofFresh ho.b).trans hkk
  have HG := hidden (own_ge ho)
  obtain ⟨a4, c4, e4⟩ := ho.shape
  have hc := cell_row (cs := [kv, .int .u64 (c : Int)]) hg1 0
  simp only [List.getElem?_cons_zero] at hc
  have hf := frozen_row hg1 0
  generalize xs.length = xl at e4
  subst e4
  clear ho hg1 hkk
  go_wp2
  go_ret
  exact ⟨rfl, _, HF.out, HK.out, fun k e => (HG.out k e).1⟩
section
variable {o : Oper} {ρ : Operand → Value} {w : World} {x : Operand} {v : Value} {Φ : Value → World → Prop}
theorem gives_load64 {a : Addr} (ho : o.op = .load 27 x) (hx : ρ x = .pointer (some a)) (hc : w.cell? a = some v) (h : Φ v w) : Gives Tryd.prog o ρ w Φ := by
  refine Gives.value (w' := w) (v := v) ?_ h
  unfold execOp
  simp only [ho]
  rw [hx]
  simp [Instr.loadAt, loadVar, Instr.sureAddr, hc]
theorem gives_fieldR0 {g : Nat} (ho : o.op = .fieldAddr 29 x 0) (hx : ρ x = .pointer (some ⟨g, 0, none⟩)) (h : Φ (.pointer (some ⟨g, 0, none⟩)) w) : Gives Tryd.prog o ρ w Φ := by
  refine Gives.value (w' := w) (v := .pointer (some ⟨g, 0, none⟩)) ?_ h
  unfold execOp
  simp only [ho]
  rw [hx]
  kernel_rfl
theorem gives_fieldR1 {g : Nat} (ho : o.op = .fieldAddr 29 x 1) (hx : ρ x = .pointer (some ⟨g, 0, none⟩)) (h : Φ (.pointer (some ⟨g, 1, none⟩)) w) : Gives Tryd.prog o ρ w Φ := by
  refine Gives.value (w' := w) (v := .pointer (some ⟨g, 1, none⟩)) ?_ h
  unfold execOp
  simp only [ho]
  rw [hx]
  kernel_rfl
end

def RTold8 (w : World) (g : Nat) (kb : Option Nat) (key : List UInt8) (c : Nat) (p : List UInt8) (e : Ending) (w' : World) : Prop :=
  ∃ v, e = .returned (.tuple #[v, .int .i64 0]) ∧ BSl w' v (packetL key c p) ∧ (∀ k, v.ownBlock = some k → w.heap.size ≤ k ∧ k < w'.heap.size) ∧ ROut w' g kb key (c + 1) ∧ Keeps (fun k => k = g) w w'
set_option maxHeartbeats 1600000 in
set_option maxRecDepth 100000 in
theorem rPacket_plain (v : Value) (p : List UInt8) (w : World) {g : Nat} {kb : Option Nat} {key : List UInt8} {c : Nat} (h : ROut w g kb key c) (hk : key = []) (hv : BSl w v p) (h1 : 1 ≤ p.length) (hp : p.length ≤ 9000) (hc : c + 1 ≤ 1000000) :
    Calls Tryd.prog 14 #[.pointer (some ⟨g, 0, none⟩), v] w fun e w' => RTold8 w g kb key c p e w' := by
  have HV := hidden hv
  obtain ⟨av, cv, rfl⟩ := hv.len
  obtain ⟨n, hn⟩ : ∃ n, n = p.length := ⟨_, rfl⟩
  have HN := hidden hn
  rw [← hn] at h1 hp HV ⊢
  clear hv hn
  have hz : ((n : Int) == 0) = false := by simp; omega
  have hz2 : ¬ (34000 : Int) < (n : Int) := by omega
  obtain ⟨⟨kv, g1, g2, g3, g4⟩, g5, g6, g7, g8⟩ := h
  have HG1 := hidden g1
  have hlt := lt_of_block g1
  have c0 := cell_row (cs := [kv, .int .u64 (c : Int)]) g1 0
  have c1 := cell_row (cs := [kv, .int .u64 (c : Int)]) g1 1
  simp only [List.getElem?_cons_succ, List.getElem?_cons_zero] at c0 c1
  have HKB := hidden g2
  obtain rfl : kv = .slice none 0 0 := g4 hk
  have hnn : ∀ wx : World, (binOp .neq 22 (.slice none 0 0) (.slice none 0 0)).run Tryd.prog wx = .ok (.bool false) wx := fun wx => ne_nil wx none 0 0
  have HHD : Hid (hdN key = 4) := by show _ = _; rw [hdN, if_pos hk]
  have HK0 := hidden hk
  clear hk
  have HR := hidden (padP_range key n)
  have HM := hidden (padP_mod key n)
  have HLE := hidden (padP_least key n)
  have HBP : Hid (bodyP key p = UInt8.ofNat (padP key n) :: (p ++ List.replicate (padP key n) 0)) := by show _ = _; rw [bodyP, ← HN.out]
  have HBL : Hid ((bodyP key p).length = 1 + n + padP key n) := by show _ = _; rw [bodyP_length, ← HN.out]
  have HHP : Hid (headP key p = be 4 (1 + n + padP key n)) := by show _ = _; rw [headP, HBL.out]
  generalize padP key n = P at HR HM HLE HBP HBL HHP
  rw [HHD.out] at HM HLE
  have hP := HR.out.2
  have HO9 : Hid (ROut w g kb key c) := ⟨⟨_, g1, g2, g3, g4⟩, g5, g6, g7, g8⟩
  clear g1 g2 g3 g4 g5 g6 g7
  go_enter Tryd.func14, Tryd.ntmps14
  go_wp2_with fail
  go_loopw [7] (fun s wr => ∃ q : Nat, 4 ≤ q ∧ q ≤ P ∧ s = .int .i64 (q : Int) ∧ wr = w) (fun s _ => P - (intOf s).toNat)
  case atStart => exact ⟨4, by omega, HR.out.1, rfl, rfl⟩
  case round =>
    obtain ⟨q, hq4, hqP, rfl, rfl⟩ := hrel
    by_cases hlt9 : q < P
    · have h8 := HLE.out q hq4 hlt9
      have hq1 : (((4 : Int) + 1 + (n : Int) + (q : Int)) % 8 != 0) = true := by simp; omega
      have hq2 : ((1 + (n : Int) + (q : Int)) % 8 != 0) = true ∨ True := .inr trivial
      clear hq2

      have hq3 : ((5 + (n : Int) + (q : Int)) % 8 != 0) = true := by simp; omega
      go_wp2
      go_roundw
      case rel => exact ⟨q + 1, by omega, by omega, by go_num, trivial⟩
      case measure => simp [intOf]; omega
    · obtain rfl : q = P := by omega
      have h8 := HM.out
      have hq3 : ((5 + (n : Int) + (q : Int)) % 8 != 0) = false := by simp; omega
      obtain ⟨wo, ewo⟩ : ∃ x, x = wr := ⟨wr, rfl⟩
      subst ewo
      obtain ⟨L, hLe⟩ : ∃ L, L = 1 + n + q := ⟨_, rfl⟩
      rw [← hLe] at HBL HHP
      have hLi : 1 + (n : Int) + (q : Int) = (L : Int) := by omega
      have hLb : (L : Int) ≤ 9100 := by omega
      have hu32 := ru32_c (L : Int) (by omega) (by omega) (.slice none 0 0) [] wo (bsl_none wo) (by simp)
      have HLe := hidden hLe
      rw [Int.toNat_natCast, List.nil_append, ← HHP.out] at hu32
      have HU := hidden hu32
      have hq256 : (q : Int) % 256 = (q : Int) := by omega
      clear hu32 h8 hLe
      go_wp2_with fail
      refine HU.out.mono ?_
      rintro e w1 ⟨vs1, rfl, ho1, hb1⟩
      have HO1 : Hid (Own wo w1 vs1 (headP key p)) := ⟨ho1, hb1⟩
      obtain ⟨ah, ch, eh⟩ := HO1.out.shape
      generalize (headP key p).length = m4 at eh
      subst eh
      have HJB : Hid ((q : Int) = ((UInt8.ofNat q).toNat : Int)) := by
        show _ = _
        rw [UInt8.toNat_ofNat']
        omega
      have HOL : Hid (Own w1 (w1.alloc (.cells #[.int .u8 (q : Int)] 5)) (.slice (some ⟨w1.heap.size, 0, none⟩) 1 1) [UInt8.ofNat q]) := by
        have h := own_block (base := w1.heap.size) (xs := [UInt8.ofNat q]) (heap_alloc_new w1 (.cells #[.int .u8 ((UInt8.ofNat q).toNat : Int)] 5)) (Nat.le_refl _) (by simp)
        rw [← HJB.out] at h
        exact ⟨h, (Below.refl _ w1).alloc (Nat.le_refl _) _⟩
      have hsr := ((HV.out.fresh hb1).fresh HOL.out.b).src
      rw [← HN.out] at hsr
      have HSR := hidden hsr
      clear ho1 hb1 hsr HU
      go_wp2_with (at_builtin; (refine wpList_own _ rfl (.tmp 41) (.tmp 42) 22 rfl w1 _ [UInt8.ofNat q] rfl HOL.out _ p rfl (by rw [← HN.out]; exact HSR.out) (by have := HN.out; simp; omega) ?_))
      intro v2 w2 ho2 _ _
      obtain ⟨g2, c2, e2, _⟩ := ORow.ofOwns ho2.row (by simp)
      have hlen2 : (UInt8.ofNat q :: p).length = n + 1 := by have := HN.out; simp; omega
      rw [hlen2] at e2
      subst e2
      have hrow2 := ho2.row
      rw [hlen2] at hrow2
      obtain ⟨v3, w3, hr3, ho3, hgr3⟩ := run_append_zeros w2 w1.heap.size g2 (n + 1) c2 q (UInt8.ofNat q :: p) 22 hrow2 (by omega) (by omega) ho2.b.size
      rw [show (UInt8.ofNat q :: p) ++ List.replicate q 0 = bodyP key p by rw [HBP.out]; rfl] at ho3
      have HR3 := hidden hr3
      have hb13 : Below w1.heap.size w1 w3 := ho2.b.grown hgr3 ho2.b.size (fun k e => by have := (hrow2.lt k (by rw [← e]; rfl)).1; exact this)
      have HB13 := hidden hb13
      have HBD := hidden (BSl.ofRow ho3)
      obtain ⟨a3, d3, e3⟩ := ownsRow_shape ho3
      generalize hbn : n + 1 + q = bn at e3
      subst e3
      have HB03 : Hid (Below wo.heap.size wo w3) := HO1.out.b.trans (hb13.mono HO1.out.b.size)
      have HH3 := hidden ((Keeps.ofFresh (S := fun _ => False) hb13).row HO1.out.row (fun _ _ h => h))
      have hc0 := cell_kept c0 HB03.out
      have hc1 := cell_kept c1 HB03.out
      clear ho2 hlen2 hrow2 hr3 ho3 hgr3 hb13 hbn HSR HOL c0 c1
      go_upto_region 13 with (at_builtin; refine Lib.wpList_append_run _ rfl (.tmp 43) (.tmp 44) 22 3 rfl _ _ rfl rfl _ _ HR3.out ?_)
      clear HR3
      have HB0R := HB03
      have HBDR := HBD
      have HHR := HH3
      obtain ⟨wR, ewR⟩ : ∃ x, x = w3 := ⟨_, rfl⟩
      subst ewR
      obtain ⟨bR, ebR⟩ : ∃ x, x = bn := ⟨_, rfl⟩
      subst ebR
      have hg3 := ((Keeps.ofFresh (S := fun _ => False) HB0R.out).block g hlt (fun h => h)).trans HG1.out
      have HG3 := hidden hg3
      have hf1 := frozen_row hg3 1
      have hcx : (c : Int) ≤ 999999 := by omega
      obtain ⟨w4, ew4⟩ : ∃ w4, w4 = wR.setCell ⟨g, 1, none⟩ (.int .u64 ((c : Int) + 1)) := ⟨_, rfl⟩
      have hk4 : Keeps (fun k => k = g) wR w4 := by rw [ew4]; exact keepSet _ wR g 1 _ rfl
      have hnb : ∀ (i : Nat) (m : Int), (#[.slice none 0 0, .int .u64 (c : Int)] : Array Value)[i]? ≠ some (.int .u8 m) := by
        skip
        intro i m
        match i with
        | 0 => simp
        | 1 => simp
        | i + 2 => simp
      have HBD4 := hidden ((HBDR.out.keepN hk4 fun hne k e hs => HBDR.out.off hne HG3.out hnb (by rw [e, hs])).src)
      have HH4 := hidden (hk4.row HHR.out (fun k e hs => by have := (HHR.out.lt k e).1; omega))
      have HR4 : Hid (ROut w4 g kb key (c + 1)) := by
        obtain ⟨⟨kv', q1, q2, q3, q3n⟩, q4, q5, q6, q7⟩ := HO9.out.fresh HB0R.out
        rw [HG3.out] at q1
        simp at q1
        subst q1
        refine ⟨⟨_, ?_, q2.keep hk4 (fun k e hs => q4 (by rw [← q3, e, hs])), q3, q3n⟩, q4, fun k e => by rw [ew4, World.size_setCell]; exact q5 k e, q6, hc⟩
        rw [ew4, set2b HG3.out]
        simp
      have hs4 : wR.heap.size = w4.heap.size := by rw [ew4, World.size_setCell]
      have hB04 : Keeps (fun k => k = g) wo w4 := (Keeps.ofFresh HB0R.out).trans hk4
      have HB04 := hidden hB04
      have HLH : Hid ((headP key p).length = m4) := by
        obtain ⟨_, _, e⟩ := HO1.out.shape
        injection e with _ e
        exact e.symm
      have HLR : Hid ((bodyP key p).length = bR) := by
        obtain ⟨_, _, e⟩ := HBDR.out.len
        injection e with _ e
        exact e.symm
      have hm4 : m4 ≤ 4 := by have := HLH.out; rw [headP_length] at this; omega
      have hbR : bR ≤ 9200 := by
        have h1 := HLR.out
        have h2 := restP_length HO9.out.ok c p
        have h3 := HN.out
        have h4 : tagN key ≤ 16 := by unfold tagN; split <;> omega
        have h5 := padP_range key p.length
        rw [show bodyP key p = restP key c p by rw [restP, if_pos HK0.out]] at h1
        omega
      have HW4 := hidden ew4
      have hrw4 := HH4.out
      rw [HLH.out] at hrw4
      have HH4' := hidden hrw4
      have hsr4 := HBD4.out
      rw [HLR.out] at hsr4
      have HSR4 := hidden hsr4
      rw [HW4.out] at HH4' HSR4
      have hsz4 : wo.heap.size ≤ (wR.setCell ⟨g, 1, none⟩ (.int .u64 ((c : Int) + 1))).heap.size := by rw [World.size_setCell]; exact HB0R.out.size
      obtain ⟨i0, hi, hz0, hz1, hz2'⟩ := info_parts Tryd.infoU8
      clear hk4 hnb ew4 hs4 hB04 hc hrw4 hsr4 hg3
      go_wp2_with (refine wpList_append_src _ rfl (.tmp 73) (.tmp 74) 22 22 rfl wo.heap.size 5 i0 _ 1 Tryd.underlying22 hi hz0 hz1 hz2' rfl (.slice ah m4 ch) m4 _ rfl HH4'.out _ bR _ rfl HSR4.out (by unfold maxLen; omega) (by omega) hsz4 _ rfl ?_)
      intro v5 w5 hown hgrow hnil hat
      rw [← HW4.out] at hgrow
      have hk5 : Keeps (fun k => (Value.slice ah m4 ch).ownBlock = some k) w4 w5 := Keeps.ofGrown hgrow (fun k e => e)
      have hxx : ∀ k, (Value.slice ah m4 ch).ownBlock = some k → wo.heap.size ≤ k := fun k e => (HO1.out.row.lt k e).1
      have HFIN : Hid (RTold8 wo g kb key c p (.returned (.tuple #[v5, .int .i64 0])) w5) := by
        refine ⟨v5, rfl, ?_, hown.lt, HR4.out.keep hk5 (fun e => by have := hxx g e; omega) (fun k e e2 => by have := hxx k e2; have := HO9.out.lt k e; omega), ?_⟩
        · have hb := hown
          rw [← bcells_append] at hb
          have := BSl.ofRow hb
          rw [packetL, show restP key c p = (bodyP key p) from by rw [restP, if_pos HK0.out]]
          exact this
        · refine ⟨hk5.os.trans HB04.out.os, hk5.tape.trans HB04.out.tape, hk5.output.trans HB04.out.output, Nat.le_trans HB04.out.size hk5.size, fun k hk hn => ?_⟩
          rw [hk5.block k (Nat.lt_of_lt_of_le hk HB04.out.size) (fun e => by have := hxx k e; omega)]
          exact HB04.out.block k hk hn
      clear hown hgrow hnil hat hk5
      go_wp2
      go_ret2
      exact HFIN.out

set_option maxHeartbeats 1600000 in
set_option maxRecDepth 100000 in
theorem rPacket_sealed (v : Value) (p : List UInt8) (w : World) {g : Nat} {kb : Option Nat} {key : List UInt8} {c : Nat} (h : ROut w g kb key c) (hk : key ≠ []) (hv : BSl w v p) (h1 : 1 ≤ p.length) (hp : p.length ≤ 9000) (hc : c + 1 ≤ 1000000) :
    Calls Tryd.prog 14 #[.pointer (some ⟨g, 0, none⟩), v] w fun e w' => RTold8 w g kb key c p e w' := by
  have HV := hidden hv
  obtain ⟨av, cv, rfl⟩ := hv.len
  obtain ⟨n, hn⟩ : ∃ n, n = p.length := ⟨_, rfl⟩
  have HN := hidden hn
  rw [← hn] at h1 hp HV ⊢
  clear hv hn
  have hz : ((n : Int) == 0) = false := by simp; omega
  have hz2 : ¬ (34000 : Int) < (n : Int) := by omega
  obtain ⟨⟨kv, g1, g2, g3, g4⟩, g5, g6, g7, g8⟩ := h
  have HG1 := hidden g1
  have hlt := lt_of_block g1
  have c0 := cell_row (cs := [kv, .int .u64 (c : Int)]) g1 0
  have c1 := cell_row (cs := [kv, .int .u64 (c : Int)]) g1 1
  simp only [List.getElem?_cons_succ, List.getElem?_cons_zero] at c0 c1
  have HKB := hidden g2
  obtain ⟨bk, ok_, ck, hkv, _⟩ := g2.nonnil hk
  subst hkv
  generalize key.length = kl at *
  have hnn : ∀ wx : World, (binOp .neq 22 (.slice (some ⟨bk, ok_, none⟩) kl ck) (.slice none 0 0)).run Tryd.prog wx = .ok (.bool true) wx := fun wx => ne_nil wx (some ⟨bk, ok_, none⟩) kl ck
  have HHD : Hid (hdN key = 0) := by show _ = _; rw [hdN, if_neg hk]
  have HR := hidden (padP_range key n)
  have HM := hidden (padP_mod key n)
  have HLE := hidden (padP_least key n)
  have HBP : Hid (bodyP key p = UInt8.ofNat (padP key n) :: (p ++ List.replicate (padP key n) 0)) := by show _ = _; rw [bodyP, ← HN.out]
  have HBL : Hid ((bodyP key p).length = 1 + n + padP key n) := by show _ = _; rw [bodyP_length, ← HN.out]
  have HHP : Hid (headP key p = be 4 (1 + n + padP key n)) := by show _ = _; rw [headP, HBL.out]
  generalize padP key n = P at HR HM HLE HBP HBL HHP
  rw [HHD.out] at HM HLE
  have hP := HR.out.2
  have HO9 : Hid (ROut w g kb key c) := ⟨⟨_, g1, g2, g3, g4⟩, g5, g6, g7, g8⟩
  clear g1 g2 g3 g4 g5 g6 g7
  go_enter Tryd.func14, Tryd.ntmps14
  go_wp2_with fail
  go_loopw [7] (fun s wr => ∃ q : Nat, 4 ≤ q ∧ q ≤ P ∧ s = .int .i64 (q : Int) ∧ wr = w) (fun s _ => P - (intOf s).toNat)
  case atStart => exact ⟨4, by omega, HR.out.1, rfl, rfl⟩
  case round =>
    obtain ⟨q, hq4, hqP, rfl, rfl⟩ := hrel
    by_cases hlt9 : q < P
    · have h8 := HLE.out q hq4 hlt9
      have hq1 : (((0 : Int) + 1 + (n : Int) + (q : Int)) % 8 != 0) = true := by simp; omega
      have hq2 : ((1 + (n : Int) + (q : Int)) % 8 != 0) = true ∨ True := .inr trivial
      clear hq2
      have hq3 : ((1 + (n : Int) + (q : Int)) % 8 != 0) = true := by simp; omega

      go_wp2
      go_roundw
      case rel => exact ⟨q + 1, by omega, by omega, by go_num, trivial⟩
      case measure => simp [intOf]; omega
    · obtain rfl : q = P := by omega
      have h8 := HM.out
      have hq3 : ((1 + (n : Int) + (q : Int)) % 8 != 0) = false := by simp; omega
      obtain ⟨wo, ewo⟩ : ∃ x, x = wr := ⟨wr, rfl⟩
      subst ewo
      obtain ⟨L, hLe⟩ : ∃ L, L = 1 + n + q := ⟨_, rfl⟩
      rw [← hLe] at HBL HHP
      have hLi : 1 + (n : Int) + (q : Int) = (L : Int) := by omega
      have hLb : (L : Int) ≤ 9100 := by omega
      have hu32 := ru32_c (L : Int) (by omega) (by omega) (.slice none 0 0) [] wo (bsl_none wo) (by simp)
      have HLe := hidden hLe
      rw [Int.toNat_natCast, List.nil_append, ← HHP.out] at hu32
      have HU := hidden hu32
      have hq256 : (q : Int) % 256 = (q : Int) := by omega
      clear hu32 h8 hLe
      go_wp2_with fail
      refine HU.out.mono ?_
      rintro e w1 ⟨vs1, rfl, ho1, hb1⟩
      have HO1 : Hid (Own wo w1 vs1 (headP key p)) := ⟨ho1, hb1⟩
      obtain ⟨ah, ch, eh⟩ := HO1.out.shape
      generalize (headP key p).length = m4 at eh
      subst eh
      have HJB : Hid ((q : Int) = ((UInt8.ofNat q).toNat : Int)) := by
        show _ = _
        rw [UInt8.toNat_ofNat']
        omega
      have HOL : Hid (Own w1 (w1.alloc (.cells #[.int .u8 (q : Int)] 5)) (.slice (some ⟨w1.heap.size, 0, none⟩) 1 1) [UInt8.ofNat q]) := by
        have h := own_block (base := w1.heap.size) (xs := [UInt8.ofNat q]) (heap_alloc_new w1 (.cells #[.int .u8 ((UInt8.ofNat q).toNat : Int)] 5)) (Nat.le_refl _) (by simp)
        rw [← HJB.out] at h
        exact ⟨h, (Below.refl _ w1).alloc (Nat.le_refl _) _⟩
      have hsr := ((HV.out.fresh hb1).fresh HOL.out.b).src
      rw [← HN.out] at hsr
      have HSR := hidden hsr
      clear ho1 hb1 hsr HU
      go_wp2_with (at_builtin; (refine wpList_own _ rfl (.tmp 41) (.tmp 42) 22 rfl w1 _ [UInt8.ofNat q] rfl HOL.out _ p rfl (by rw [← HN.out]; exact HSR.out) (by have := HN.out; simp; omega) ?_))
      intro v2 w2 ho2 _ _
      obtain ⟨g2, c2, e2, _⟩ := ORow.ofOwns ho2.row (by simp)
      have hlen2 : (UInt8.ofNat q :: p).length = n + 1 := by have := HN.out; simp; omega
      rw [hlen2] at e2
      subst e2
      have hrow2 := ho2.row
      rw [hlen2] at hrow2
      obtain ⟨v3, w3, hr3, ho3, hgr3⟩ := run_append_zeros w2 w1.heap.size g2 (n + 1) c2 q (UInt8.ofNat q :: p) 22 hrow2 (by omega) (by omega) ho2.b.size
      rw [show (UInt8.ofNat q :: p) ++ List.replicate q 0 = bodyP key p by rw [HBP.out]; rfl] at ho3
      have HR3 := hidden hr3
      have hb13 : Below w1.heap.size w1 w3 := ho2.b.grown hgr3 ho2.b.size (fun k e => by have := (hrow2.lt k (by rw [← e]; rfl)).1; exact this)
      have HB13 := hidden hb13
      have HBD := hidden (BSl.ofRow ho3)
      obtain ⟨a3, d3, e3⟩ := ownsRow_shape ho3
      generalize hbn : n + 1 + q = bn at e3
      subst e3
      have HB03 : Hid (Below wo.heap.size wo w3) := HO1.out.b.trans (hb13.mono HO1.out.b.size)
      have HH3 := hidden ((Keeps.ofFresh (S := fun _ => False) hb13).row HO1.out.row (fun _ _ h => h))
      have hc0 := cell_kept c0 HB03.out
      have hc1 := cell_kept c1 HB03.out
      clear ho2 hlen2 hrow2 hr3 ho3 hgr3 hb13 hbn HSR HOL c0 c1
      go_upto_region 13 with (at_builtin; refine Lib.wpList_append_run _ rfl (.tmp 43) (.tmp 44) 22 3 rfl _ _ rfl rfl _ _ HR3.out ?_)
      clear HR3
      obtain ⟨kv, ekv⟩ : ∃ x, x = Value.slice (some ⟨bk, ok_, none⟩) kl ck := ⟨_, rfl⟩
      have HKB' := HKB
      rw [← ekv] at HKB'
      have HKV := hidden hc0
      rw [← ekv] at HKV
      have HCV := hidden hc1
      have HCC : Hid (c ≤ 1000000) := g8
      have HCALL : Hid (∀ (wx : World) (u : Value), Ex w3 wx → BSl wx u (nonceL c) → Calls Tryd.prog 36 #[kv, u, .slice ah m4 ch, .slice a3 bn d3] wx fun e w' => ∃ v, e = .returned v ∧ Ex wx w' ∧ (Fact.told (sealT key (nonceL c) (headP key p) (bodyP key p)) ((sealE key (nonceL c) : Nat) : Int)).holds v w') := by
        intro wx u he hu
        exact told_pair ((rSeal_c kv u (.slice ah m4 ch) (.slice a3 bn d3) key (nonceL c) (headP key p) (bodyP key p) wx (by rw [headP_length]; omega) (by have h1 := bodyP_length key p; have h2 := padP_range key p.length; have h3 := HN.out; omega) ((HKB'.out.fresh HB03.out).fresh he) hu ((HO1.out.bsl.fresh HB13.out).fresh he) (HBD.out.fresh he)).mono fun _ _ h => h.told)
      have HREQ : Hid (restP key c p = sealT key (nonceL c) (headP key p) (bodyP key p)) := by show _ = _; rw [restP, if_neg hk]
      generalize sealE key (nonceL c) = En at HCALL
      generalize sealT key (nonceL c) (headP key p) (bodyP key p) = Tn at HCALL HREQ
      rw [ekv] at HCALL
      have HC0 := hidden hc0
      have HC1 := hidden hc1
      go_upto_region 14 with fail
      go_cut [9] from 51 to 65 (fun vb wx => BSl wx vb Tn ∧ Ex w3 wx)
      case first =>
        go_region_with (first
          | (go_at_call 37; refine (rnonce_c c HCC.out _).mono ?_; rintro e w8 ⟨v8, rfl, ho8, hb8⟩; have hc08 := cell_kept HC0.out (Ex.trans (Ex.drew w3) hb8); obtain ⟨a8, c8, e8⟩ := ownsRow_shape ho8; subst e8)
          | (go_at_call 36; refine (HCALL.out _ _ (Ex.trans (Ex.drew w3) hb8) (BSl.ofRow ho8)).mono ?_; rintro e w9 ⟨v9, rfl, hx9, u9, rfl, hb9⟩))
        all_goals
          have HZ : Hid (BSl w9 u9 Tn ∧ Ex w3 w9) := ⟨hb9, Ex.trans (Ex.trans (Ex.drew w3) hb8) hx9⟩
          clear hb9 hx9 ho8 hb8
          go_wp2_with fail
          go_meet
          case rel => exact HZ.out
      case rest =>
      obtain ⟨hbR0, hx⟩ := hcut
      have HB15 := hidden hbR0
      clear hbR0
      obtain ⟨wR, ewR⟩ : ∃ x, x = wc := ⟨_, rfl⟩
      subst ewR
      have HB0R : Hid (Below wo.heap.size wo wR) := HB03.out.trans (Below.mono hx HB03.out.size)
      have HHR := hidden ((Keeps.ofFresh (S := fun _ => False) hx).row HH3.out (fun _ _ h => h))
      have hc0R := cell_kept hc0 hx
      have hc1R := cell_kept hc1 hx
      have HBDR := HB15
      obtain ⟨aR, dR, eR⟩ := HB15.out.len
      generalize Tn.length = bR at eR
      subst eR
      clear hx HB15 HCALL hc0 hc1
      have hg3 := ((Keeps.ofFresh (S := fun _ => False) HB0R.out).block g hlt (fun h => h)).trans HG1.out
      have HG3 := hidden hg3
      have hf1 := frozen_row hg3 1
      have hcx : (c : Int) ≤ 999999 := by omega
      obtain ⟨w4, ew4⟩ : ∃ w4, w4 = wR.setCell ⟨g, 1, none⟩ (.int .u64 ((c : Int) + 1)) := ⟨_, rfl⟩
      have hk4 : Keeps (fun k => k = g) wR w4 := by rw [ew4]; exact keepSet _ wR g 1 _ rfl
      have hnb : ∀ (i : Nat) (m : Int), (#[(.slice (some ⟨bk, ok_, none⟩) kl ck), .int .u64 (c : Int)] : Array Value)[i]? ≠ some (.int .u8 m) := by
        skip
        intro i m
        match i with
        | 0 => simp
        | 1 => simp
        | i + 2 => simp
      have HBD4 := hidden ((HBDR.out.keepN hk4 fun hne k e hs => HBDR.out.off hne HG3.out hnb (by rw [e, hs])).src)
      have HH4 := hidden (hk4.row HHR.out (fun k e hs => by have := (HHR.out.lt k e).1; omega))
      have HR4 : Hid (ROut w4 g kb key (c + 1)) := by
        obtain ⟨⟨kv', q1, q2, q3, q3n⟩, q4, q5, q6, q7⟩ := HO9.out.fresh HB0R.out
        rw [HG3.out] at q1
        simp at q1
        subst q1
        refine ⟨⟨_, ?_, q2.keep hk4 (fun k e hs => q4 (by rw [← q3, e, hs])), q3, q3n⟩, q4, fun k e => by rw [ew4, World.size_setCell]; exact q5 k e, q6, hc⟩
        rw [ew4, set2b HG3.out]
        simp
      have hs4 : wR.heap.size = w4.heap.size := by rw [ew4, World.size_setCell]
      have hB04 : Keeps (fun k => k = g) wo w4 := (Keeps.ofFresh HB0R.out).trans hk4
      have HB04 := hidden hB04
      have HLH : Hid ((headP key p).length = m4) := by
        obtain ⟨_, _, e⟩ := HO1.out.shape
        injection e with _ e
        exact e.symm
      have HLR : Hid (Tn.length = bR) := by
        obtain ⟨_, _, e⟩ := HBDR.out.len
        injection e with _ e
        exact e.symm
      have hm4 : m4 ≤ 4 := by have := HLH.out; rw [headP_length] at this; omega
      have hbR : bR ≤ 9200 := by
        have h1 := HLR.out
        have h2 := restP_length HO9.out.ok c p
        have h3 := HN.out
        have h4 : tagN key ≤ 16 := by unfold tagN; split <;> omega
        have h5 := padP_range key p.length
        rw [← HREQ.out] at h1
        omega
      have HW4 := hidden ew4
      have hrw4 := HH4.out
      rw [HLH.out] at hrw4
      have HH4' := hidden hrw4
      have hsr4 := HBD4.out
      rw [HLR.out] at hsr4
      have HSR4 := hidden hsr4
      rw [HW4.out] at HH4' HSR4
      have hsz4 : wo.heap.size ≤ (wR.setCell ⟨g, 1, none⟩ (.int .u64 ((c : Int) + 1))).heap.size := by rw [World.size_setCell]; exact HB0R.out.size
      obtain ⟨i0, hi, hz0, hz1, hz2'⟩ := info_parts Tryd.infoU8
      clear hk4 hnb ew4 hs4 hB04 hc hrw4 hsr4 hg3
      go_wp2_with (refine wpList_append_src _ rfl (.tmp 73) (.tmp 74) 22 22 rfl wo.heap.size 5 i0 _ 1 Tryd.underlying22 hi hz0 hz1 hz2' rfl (.slice ah m4 ch) m4 _ rfl HH4'.out _ bR _ rfl HSR4.out (by unfold maxLen; omega) (by omega) hsz4 _ rfl ?_)
      intro v5 w5 hown hgrow hnil hat
      rw [← HW4.out] at hgrow
      have hk5 : Keeps (fun k => (Value.slice ah m4 ch).ownBlock = some k) w4 w5 := Keeps.ofGrown hgrow (fun k e => e)
      have hxx : ∀ k, (Value.slice ah m4 ch).ownBlock = some k → wo.heap.size ≤ k := fun k e => (HO1.out.row.lt k e).1
      have HFIN : Hid (RTold8 wo g kb key c p (.returned (.tuple #[v5, .int .i64 0])) w5) := by
        refine ⟨v5, rfl, ?_, hown.lt, HR4.out.keep hk5 (fun e => by have := hxx g e; omega) (fun k e e2 => by have := hxx k e2; have := HO9.out.lt k e; omega), ?_⟩
        · have hb := hown
          rw [← bcells_append] at hb
          have := BSl.ofRow hb
          rw [packetL, show restP key c p = Tn from HREQ.out]
          exact this
        · refine ⟨hk5.os.trans HB04.out.os, hk5.tape.trans HB04.out.tape, hk5.output.trans HB04.out.output, Nat.le_trans HB04.out.size hk5.size, fun k hk hn => ?_⟩
          rw [hk5.block k (Nat.lt_of_lt_of_le hk HB04.out.size) (fun e => by have := hxx k e; omega)]
          exact HB04.out.block k hk hn
      clear hown hgrow hnil hat hk5
      go_wp2
      go_ret2
      exact HFIN.out
theorem rPacket_c (v : Value) (p : List UInt8) (w : World) {g : Nat} {kb : Option Nat} {key : List UInt8} {c : Nat} (h : ROut w g kb key c) (hv : BSl w v p) (h1 : 1 ≤ p.length) (hp : p.length ≤ 9000) (hc : c + 1 ≤ 1000000) :
    Calls Tryd.prog 14 #[.pointer (some ⟨g, 0, none⟩), v] w fun e w' => RTold8 w g kb key c p e w' := by
  by_cases hk : key = []
  · exact rPacket_plain v p w h hk hv h1 hp hc
  · exact rPacket_sealed v p w h hk hv h1 hp hc

def eN (p : List UInt8) : Nat := if p = [] then 1 else 0
def oP (key : List UInt8) (c : Nat) (p : List UInt8) : List UInt8 := if p = [] then [] else packetL key c p
def cN (c : Nat) (p : List UInt8) : Nat := if p = [] then c else c + 1
theorem cN_le (c : Nat) (p : List UInt8) : cN c p ≤ c + 1 := by unfold cN; split <;> omega
set_option maxHeartbeats 400000 in
theorem packet_none (v : Value) (w : World) (g : Nat) (hv : BSl w v []) :
    Calls Tryd.prog 11 #[.pointer (some ⟨g, 0, none⟩), v] w fun e w' => e = .returned (.tuple #[.slice none 0 0, .int .i64 1]) ∧ w' = w := by
  obtain ⟨ao, cap, rfl⟩ := hv.nil
  clear hv
  go_enter Tryd.func11, Tryd.ntmps11
  go_wp2
  go_ret2
  exact ⟨rfl, rfl⟩
set_option maxHeartbeats 400000 in
theorem rPacket_none (v : Value) (w : World) (g : Nat) (hv : BSl w v []) :
    Calls Tryd.prog 14 #[.pointer (some ⟨g, 0, none⟩), v] w fun e w' => e = .returned (.tuple #[.slice none 0 0, .int .i64 1]) ∧ w' = w := by
  obtain ⟨ao, cap, rfl⟩ := hv.nil
  clear hv
  go_enter Tryd.func14, Tryd.ntmps14
  go_wp2
  go_ret2
  exact ⟨rfl, rfl⟩
/-- An Out and the document's, made since W, that stand alike. -/
structure Two (W w : World) (go gr : Nat) (ko kr : Option Nat) (ky : List UInt8) (c : Nat) : Prop where
  out : OutS w go ko ky c
  ref : ROut w gr kr ky c
  b : Below W.heap.size W w
  ne : go ≠ gr ∧ ko ≠ some gr ∧ kr ≠ some go
  lo : W.heap.size ≤ go ∧ W.heap.size ≤ gr
theorem Two.fresh {W w w' : World} {go gr : Nat} {ko kr : Option Nat} {ky : List UInt8} {c : Nat} (T : Two W w go gr ko kr ky c) (hb : Below w.heap.size w w') : Two W w' go gr ko kr ky c :=
  ⟨T.out.fresh hb, T.ref.fresh hb, T.b.trans (hb.mono T.b.size), T.ne, T.lo⟩
theorem keepsFalse {w w' : World} (h : Keeps (fun _ => False) w w') : Below w.heap.size w w' := h.below (Nat.le_refl _) (fun _ e => e.elim)
theorem two_packet {W w : World} {go gr : Nat} {ko kr : Option Nat} {ky : List UInt8} {c : Nat} (T : Two W w go gr ko kr ky c) (hcl : Cl W) (v : Value) (p : List UInt8) (hv : BSl w v p) (hp : p.length ≤ 300) (hc : c ≤ 100) :
    Calls Tryd.prog 11 #[.pointer (some ⟨go, 0, none⟩), v] w fun e w' => ∃ v', e = .returned (.tuple #[v', .int .i64 (eN p : Nat)]) ∧ BSl w' v' (oP ky c p) ∧ (∀ k, v'.ownBlock = some k → w.heap.size ≤ k) ∧ OutS w' go ko ky (cN c p) ∧ ROut w' gr kr ky c ∧ Below W.heap.size W w' ∧ Keeps (fun k => k = go) w w' := by
  by_cases hz : p = []
  · rw [eN, oP, cN, if_pos hz, if_pos hz, if_pos hz]
    subst hz
    refine (packet_none v w go hv).mono ?_
    rintro e w' ⟨rfl, rfl⟩
    exact ⟨_, rfl, bsl_none _, fun k e => by simp [Value.ownBlock] at e, T.out, T.ref, T.b, Keeps.refl _ _⟩
  · rw [eN, oP, cN, if_neg hz, if_neg hz, if_neg hz]
    refine (packet_c v p w T.out (hcl.fresh T.b) hv (List.length_pos_iff.2 hz) (by omega) (by omega)).mono ?_
    rintro e w' ⟨v', rfl, hrow, ho, hk⟩
    exact ⟨v', rfl, BSl.ofRow hrow, fun k e => (hrow.lt k e).1, ho, T.ref.keep hk (fun e => T.ne.1 e.symm) (fun k e e2 => T.ne.2.2 (by rw [e, e2])), T.b.trans (hk.below T.b.size (fun k e => by rw [e]; exact T.lo.1)), hk⟩
theorem two_rpacket {w : World} {gr : Nat} {kr : Option Nat} {ky : List UInt8} {c : Nat} (T : ROut w gr kr ky c) (v : Value) (p : List UInt8) (hv : BSl w v p) (hp : p.length ≤ 300) (hc : c ≤ 100) :
    Calls Tryd.prog 14 #[.pointer (some ⟨gr, 0, none⟩), v] w fun e w' => ∃ v', e = .returned (.tuple #[v', .int .i64 (eN p : Nat)]) ∧ BSl w' v' (oP ky c p) ∧ ROut w' gr kr ky (cN c p) ∧ Keeps (fun k => k = gr) w w' := by
  by_cases hz : p = []
  · rw [eN, oP, cN, if_pos hz, if_pos hz, if_pos hz]
    subst hz
    refine (rPacket_none v w gr hv).mono ?_
    rintro e w' ⟨rfl, rfl⟩
    exact ⟨_, rfl, bsl_none _, T, Keeps.refl _ _⟩
  · rw [eN, oP, cN, if_neg hz, if_neg hz, if_neg hz]
    refine (rPacket_c v p w T hv (List.length_pos_iff.2 hz) (by omega) (by omega)).mono ?_
    rintro e w' ⟨v', rfl, hb, _, ho, hk⟩
    exact ⟨v', rfl, hb, ho, hk⟩
set_option maxHeartbeats 3200000 in
set_option maxRecDepth 100000 in
theorem packetWrites_c (v0 v1 : Value) (n0 : Nat) (z1 : List UInt8) (a2 : Int) (w : World) (hcl : Cl w) (h0 : LSl w v0 n0) (h1 : BSl w v1 z1) :
    Calls Tryd.prog 4 #[v0, v1, .int .i64 a2] w fun e w' => e = .returned (.bool true) ∧ Below w.heap.size w w' := by
  have HCL := hidden hcl
  have H1 := hidden h1
  obtain ⟨al, cl, rfl, hc1, hc2, hc⟩ := h0
  unfold maxLen at hc2
  have HCC := hidden hc
  clear hcl h1 hc
  go_enter Tryd.func4, Tryd.ntmps4
  go_wp2_with fail
  refine (sized_b 32 (by omega) v1 z1 w H1.out).mono ?_
  rintro e w1 ⟨rfl, hs1, hb1⟩
  have HS1 := hidden hs1
  have HB1 := hidden hb1
  have HKL := hidden (sizedL_length z1 32)
  generalize sizedL z1 32 = key at HS1 HKL
  obtain ⟨gk, hgk⟩ : ∃ gk, gk = w.heap.size := ⟨_, rfl⟩
  rw [← hgk] at HS1
  rw [show (Value.slice (some ⟨w.heap.size, 0, none⟩) 32 32) = .slice (some ⟨gk, 0, none⟩) 32 32 by rw [hgk]]
  have HGK1 : Hid (gk < w1.heap.size) := by
    obtain ⟨b, o, c, e, hlt⟩ := HS1.out.nonnil (by intro e; have := HKL.out; rw [e] at this; simp at this)
    have e2 := congrArg Value.ownBlock e
    simp [Value.ownBlock] at e2
    show _ < _
    omega
  clear hs1 hb1 hgk
  go_wp2_with fail
  refine (newOut_c w1).mono ?_
  rintro e w2 ⟨rfl, ho2, hb2⟩
  have hbA := (Below.refl w2.heap.size w2).alloc (Nat.le_refl _) (.cells #[.slice none 0 0, .int .u64 0] 29)
  have HT3 : Hid (Two w1 (w2.alloc (.cells #[.slice none 0 0, .int .u64 0] 29)) w1.heap.size w2.heap.size none none [] 0) :=
    ⟨ho2.fresh hbA, rout_new w2, hb2.trans (hbA.mono hb2.size), ⟨by have := ho2.blockLt; omega, by simp, by simp⟩, ⟨Nat.le_refl _, hb2.size⟩⟩
  have HS3 := hidden ((HS1.out.fresh hb2).fresh hbA)
  have hWF := within_x a2 12 (by omega)
  have hf12 := wn_le a2 12
  generalize wn a2 12 = f at hWF hf12
  have HWF := hidden hWF
  generalize hgo : w1.heap.size = go at HT3 HGK1 ⊢
  have HGO := hidden hgo
  clear ho2 hb2 hbA hWF HS1 hgo
  have HCL1 := hidden (HCL.out.fresh HB1.out)
  go_wp2_with fail
  generalize w2.alloc (.cells #[.slice none 0 0, .int .u64 0] 29) = w3 at HT3 HS3 ⊢
  generalize w2.heap.size = gr at HT3 ⊢
  refine (HWF.out w3).mono ?_
  rintro e w4 ⟨rfl, hw4⟩
  subst hw4
  go_wp2_with fail
  go_loopw [9] (fun c wr => ∃ (j cnt : Nat) (ko kr : Option Nat), j ≤ n0 ∧ j ≤ 12 ∧ cnt ≤ j ∧ c = .int .i64 (j : Int) ∧ Two w1 wr go gr ko kr (keyB f key j) cnt ∧ BSl wr (.slice (some ⟨gk, 0, none⟩) 32 32) key) (fun c _ => 12 - (intOf c).toNat)
  case atStart => exact ⟨0, 0, none, none, by omega, by omega, by omega, rfl, HT3.out, HS3.out⟩
  case round =>
    clear HT3 HS3
    obtain ⟨j, cnt, ko, kr, hj, hj12, hcnt, rfl, ht, hs⟩ := hrel
    have HT := hidden ht
    have HS := hidden hs
    clear ht hs
    by_cases hlt : j < n0
    · have hlt' : (j : Int) < (n0 : Int) := by omega
      by_cases h12 : j < 12
      · have h12' : (j : Int) < 12 := by omega
        go_upto_region 10 with fail
        go_cut [49] from 25 to 87 (fun b wx => b = .bool false ∧ ∃ ko' kr' : Option Nat, Two w1 wx go gr ko' kr' (keyA f key j) cnt ∧ BSl wx (.slice (some ⟨gk, 0, none⟩) 32 32) key)
        case first =>
          by_cases hjf : j = f
          · have hjf1 : ((j : Int) == (f : Int)) = true := by simp; omega
            have HKE : Hid (keyA f key j = key) := by show _ = _; rw [hjf, keyA_at]
            clear hjf
            go_wp2_with fail
            refine (outKeys_c _ key wr HT.out.out HS.out HKL.out).mono ?_
            rintro e w8 ⟨rfl, ko8, ho8, hk8, hn8⟩
            have HS8 := hidden (HS.out.keep hk8 (fun k e e2 => by simp [Value.ownBlock] at e; have h1 := HGK1.out; omega))
            have HR8 := hidden (HT.out.ref.keep hk8 (fun e => HT.out.ne.1 e.symm) (fun k e e2 => HT.out.ne.2.2 (by rw [e, e2])))
            have HO8 := hidden ho8
            have HN8 := hidden hn8
            have HB8 : Hid (Below w1.heap.size w1 w8) := HT.out.b.trans (hk8.below HT.out.b.size (fun k e => by rw [e]; exact HT.out.lo.1))
            have HZ8 : Hid (wr.heap.size ≤ w8.heap.size) := hk8.size
            clear ho8 hk8 hn8
            go_wp2_with fail
            refine (rOutKeys_c _ key w8 HR8.out HS8.out HKL.out).mono ?_
            rintro e w9 ⟨rfl, kr9, ho9, hk9, hn9⟩
            have HF : Hid (Two w1 w9 go gr ko8 kr9 (keyA f key j) cnt ∧ BSl w9 (.slice (some ⟨gk, 0, none⟩) 32 32) key) := by
              have hb := HT.out.out.blockLt
              have hb2 := HT.out.ref.blockLt
              have hz := HZ8.out
              refine ⟨⟨by rw [HKE.out]; exact HO8.out.keep hk9 (HT.out.ne.1) (fun k e e2 => by have := HN8.out k e; omega), by rw [HKE.out]; exact ho9, HB8.out.trans (hk9.below HB8.out.size (fun k e => by rw [e]; exact HT.out.lo.2)), ⟨HT.out.ne.1, fun e => by have := HN8.out _ e; omega, fun e => by have := hn9 _ e; omega⟩, HT.out.lo⟩, HS8.out.keep hk9 (fun k e e2 => ?_)⟩
              simp [Value.ownBlock] at e
              have h1 := HGK1.out
              have h2 := HT.out.lo.2
              have h3 := HGO.out
              omega
            clear ho9 hk9 hn9
            go_wp2_with fail
            go_meet
            case rel => exact ⟨rfl, ko8, kr9, HF.out⟩
          · have hjf1 : ((j : Int) == (f : Int)) = false := by simp; omega
            have HKE : Hid (keyB f key j = keyA f key j) := keyB_same f key j hjf
            clear hjf
            go_wp2_with fail
            go_meet
            case rel => exact ⟨rfl, ko, kr, by rw [← HKE.out]; exact HT.out, HS.out⟩
        case rest =>
          clear HT HS
          obtain ⟨hb49, ko', kr', ht, hs⟩ := hcut
          have HT := hidden ht
          have HS := hidden hs
          subst hb49
          clear ht hs
          obtain ⟨b, off, e, u, us, hcell, hbs⟩ := HCC.out j hlt
          subst e
          have hcell' := cell_kept (cell_kept hcell HB1.out) HT.out.b
          have HU := hidden ((hbs.fresh HB1.out).fresh HT.out.b)
          clear hcell hbs
          go_wp2_with fail
          refine (cut_c 300 (by omega) u us _ HU.out).mono ?_
          rintro e w8 ⟨vb, rfl, hb8, _, hw8⟩
          subst hw8
          have hpl : (us.take 300).length ≤ 300 := by rw [List.length_take]; omega
          generalize us.take 300 = p at hb8 hpl
          have HB8 := hidden hb8
          obtain ⟨ab, cb, e8⟩ := hb8.len
          obtain ⟨pl, hpe⟩ : ∃ pl, pl = p.length := ⟨_, rfl⟩
          have HPL := hidden hpe
          rw [← hpe] at e8 hpl
          subst e8
          clear hb8 hpe
          go_wp2_with fail
          refine (roomy_c _ p _ HB8.out (by have := HPL.out; omega)).mono ?_
          rintro e w9 ⟨g9, rfl, hg9, hblk9, hb9⟩
          have HT9 := hidden (HT.out.fresh hb9)
          have HS9 := hidden (HS.out.fresh hb9)
          have HB9 := hidden (HB8.out.fresh hb9)
          have hro := BSl.roomy hblk9 (by have := HPL.out; omega)
          rw [← HPL.out] at hro ⊢
          have HRO := hidden hro
          have HBK := hidden hblk9
          have HG9 := hidden hg9
          have hl1 : (pl : Int) ≤ ((pl + 80 : Nat) : Int) := by omega
          have hcn : cnt ≤ 100 := by omega
          clear hblk9 hb9 hro hg9
          go_wp2_with fail
          refine (two_packet HT9.out HCL1.out _ p HRO.out (by have := HPL.out; omega) hcn).mono ?_
          rintro e w10 ⟨v10, rfl, hb10, hv10, ho10, hr10, hbw10, hk10⟩
          have HX10 := hidden hb10
          have HV10 := hidden hv10
          have HO10 := hidden ho10
          have HR10 := hidden hr10
          have HW10 := hidden hbw10
          have hgl9 := HT9.out.out.blockLt
          have hrl9 := HT9.out.ref.blockLt
          have HBK10 := hidden ((hk10.block g9 (lt_of_block HBK.out) (fun e => by have h1 := HT.out.out.blockLt; have h2 := HG9.out; omega)).trans HBK.out)
          have HS10 := hidden (HS9.out.keep hk10 (fun k e e2 => by simp [Value.ownBlock] at e; have h1 := HGK1.out; omega))
          have HB10 : Hid (BSl w10 (.slice ab pl cb) p) := HB9.out.keepN hk10 (fun hne k e e2 => by
            obtain ⟨kv, q1, q2, q3⟩ := HT9.out.out.ex
            obtain ⟨ak, ck, ek⟩ := q2.len
            subst ek
            exact HB9.out.off hne q1 (by intro i m; match i with | 0 => simp | 1 => simp | i + 2 => simp) (by rw [e, e2]))
          have HRL : Hid (gr < w9.heap.size) := hrl9
          obtain ⟨a10, d10, e10⟩ := hb10.len
          generalize (oP (keyA f key j) cnt p).length = ol at e10
          subst e10
          clear hb10 hv10 ho10 hr10 hbw10 hk10 hgl9 hrl9
          go_wp2_with fail
          refine (two_rpacket HR10.out _ p HB10.out (by have := HPL.out; omega) hcn).mono ?_
          rintro e w11 ⟨v11, rfl, hb11, hr11, hk11⟩
          have HBK11 := hidden ((hk11.block g9 (lt_of_block HBK10.out) (fun e => by have h1 := HT.out.ref.blockLt; have h2 := HG9.out; omega)).trans HBK10.out)
          have HS11 := hidden (HS10.out.keep hk11 (fun k e e2 => by simp [Value.ownBlock] at e; have h1 := HGK1.out; have h2 := HT.out.lo.2; have h3 := HGO.out; omega))
          have HX11 : Hid (BSl w11 (.slice a10 ol d10) (oP (keyA f key j) cnt p)) := HX10.out.keep hk11 (fun k e e2 => by have h1 := HV10.out k e; have h2 := HRL.out; omega)
          have HB11 : Hid (BSl w11 (.slice ab pl cb) p) := HB10.out.keepN hk11 (fun hne k e e2 => by
            obtain ⟨kv, q1, q2, q3, _⟩ := HR10.out.ex
            obtain ⟨ak, ck, ek⟩ := q2.len
            subst ek
            exact HB10.out.off hne q1 (by intro i m; match i with | 0 => simp | 1 => simp | i + 2 => simp) (by rw [e, e2]))
          have HT11 : Hid (Two w1 w11 go gr ko' kr' (keyA f key j) (cN cnt p)) := ⟨HO10.out.keep hk11 HT.out.ne.1 (fun k e e2 => HT.out.ne.2.1 (by rw [e, e2])), hr11, HW10.out.trans (hk11.below HW10.out.size (fun k e => by rw [e]; exact HT.out.lo.2)), HT.out.ne, HT.out.lo⟩
          have hs1 := run_string HX11.out
          have hs2 := run_string hb11
          obtain ⟨a11, d11, e11⟩ := hb11.len
          generalize (oP (keyA f key j) cnt p).length = ol2 at e11
          subst e11
          have hIN := intact_c g9 (.slice ab pl cb) p w11 (by have := HPL.out; omega) HBK11.out HB11.out
          rw [← HPL.out] at hIN
          have HIN := hidden hIN
          generalize oP (keyA f key j) cnt p = O at hs1 hs2
          generalize eN p = en
          have HCN := hidden (cN_le cnt p)
          clear hb11 hr11 hk11 hIN HX11 HX10 HBK10 HBK HO10 HR10
          go_wp2_with fail
          refine HIN.out.mono ?_
          rintro e w12 ⟨rfl, hk12⟩
          have hbb := keepsFalse hk12
          have HT12 : Hid (Two w1 w12 go gr ko' kr' (keyB f key (j + 1)) (cN cnt p)) := by
            show Two _ _ _ _ _ _ _ _
            rw [keyB_succ]
            exact HT11.out.fresh hbb
          have HS12 := hidden (HS11.out.fresh hbb)
          clear hk12 hbb hs1 hs2
          go_wp2
          go_roundw
          case rel => exact ⟨j + 1, cN cnt p, ko', kr', by omega, by omega, by have := HCN.out; omega, by go_num, HT12.out, HS12.out⟩
          case measure => simp [intOf]; omega
      · have h12' : ¬ (j : Int) < 12 := by omega
        have HKN := hidden (known_c wr (HCL1.out.fresh HT.out.b))
        go_wp2_with fail
        refine HKN.out.mono ?_
        rintro e w8 ⟨rfl, hb8⟩
        have HB10 : Hid (Below w.heap.size w w8) := HB1.out.trans ((HT.out.b.trans (hb8.mono HT.out.b.size)).mono HB1.out.size)
        clear hb8
        go_wp2
        go_ret
        exact ⟨rfl, HB10.out⟩
    · have hlt' : ¬ (j : Int) < (n0 : Int) := by omega
      have HKN := hidden (known_c wr (HCL1.out.fresh HT.out.b))
      go_wp2_with fail
      refine HKN.out.mono ?_
      rintro e w8 ⟨rfl, hb8⟩
      have HB10 : Hid (Below w.heap.size w w8) := HB1.out.trans ((HT.out.b.trans (hb8.mono HT.out.b.size)).mono HB1.out.size)
      clear hb8
      go_wp2
      go_ret
      exact ⟨rfl, HB10.out⟩
end Go.Proofs.YthkaibkmpenclaaDoor
