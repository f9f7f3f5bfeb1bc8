/- TreeLoads. -/
import Derived.Test.YtnigfnikajejaaaTvQ
import Derived.Test.YtnigfnikajejaaaTnA
import Derived.Test.YtnigfnikajejaaaTfA
import Derived.OpenShut
import Derived.Laws.Pointers
import Derived.Laws.Small
import Derived.Deep.CutRange
namespace Go.Proofs.Ytnigfnikajejaaa
open Go Go.RowKit

section
variable {o : Oper} {ρ : Operand → Value} {w : World} {x y : Operand} {Φ : Value → World → Prop}
theorem gives_eqP {t : TypeId} {a : Addr} (ho : o.op = .binOp .eql t x (.const (.pointer none)) t) (hu : Try.prog.underlying t = some (.pointer (Try.prog.pointee t))) (hn : ρ (.const (.pointer none)) = .pointer none) (hx : ρ x = .pointer (some a)) (h : Φ (.bool false) w) : Gives Try.prog o ρ w Φ := by
  refine Gives.value (w' := w) (v := .bool false) ?_ h
  unfold execOp
  simp only [ho, hx, hn]
  simp [eqGuard, binOp, run_equal_pointer_nil w t _ hu]
theorem gives_neP {t : TypeId} {a : Addr} (ho : o.op = .binOp .neq t x (.const (.pointer none)) t) (hu : Try.prog.underlying t = some (.pointer (Try.prog.pointee t))) (hn : ρ (.const (.pointer none)) = .pointer none) (hx : ρ x = .pointer (some a)) (h : Φ (.bool true) w) : Gives Try.prog o ρ w Φ := by
  refine Gives.value (w' := w) (v := .bool true) ?_ h
  unfold execOp
  simp only [ho, hx, hn]
  simp [eqGuard, binOp, run_equal_pointer_nil w t _ hu]
theorem gives_neB {t : TypeId} {a b : Bool} (ho : o.op = .binOp .neq t x y t) (hu : Try.prog.underlying t = some .bool) (hx : ρ x = .bool a) (hy : ρ y = .bool b) (h : Φ (.bool (a != b)) w) : Gives Try.prog o ρ w Φ := by
  refine Gives.value (w' := w) (v := .bool (a != b)) ?_ h
  unfold execOp
  simp only [ho, hx, hy]
  simp [eqGuard, binOp, run_equal_bool w t _ _ hu]
  cases a <;> cases b <;> rfl
end
theorem row_turn {w : World} {base : Nat} {v : Value} {bs : List UInt8} (h : w.ownsRow base 5 1 v bs.length (bcells bs)) (k : Nat) (hk : k < bs.length) :
    ∃ g cap, v = .slice (some ⟨g, 0, none⟩) bs.length cap ∧ base ≤ g ∧ (∃ x : UInt8, w.cell? ⟨g, k, none⟩ = some (.int .u8 x.toNat)) ∧ (∀ j, w.frozen? ⟨g, j, none⟩ = false) ∧ ∀ y : UInt8, (w.setCell ⟨g, k, none⟩ (.int .u8 y.toNat)).ownsRow base 5 1 v bs.length (bcells (bs.set k y)) := by
  obtain ⟨hl, h | ⟨g, cap, cur, h1, h2, h3, h4, h5, h6, h7⟩⟩ := h
  · omega
  · refine ⟨g, cap, h1, h2, ⟨bs[k], ?_⟩, fun j => by simp [World.frozen?, h3], fun y => ⟨by rw [bcells_length, List.length_set, Nat.mul_one], .inr ⟨g, cap, _, h1, h2, heap_setCell_same _ _ _ _ _ _ h3, h4, h5, by simpa using h6, ?_⟩⟩⟩
    · have e : (bcells bs)[k]? = some (.int .u8 (bs[k]).toNat) := by simp [bcells, hk]
      rw [← e, ← h7, List.getElem?_take, if_pos (by omega)]
      simp [World.cell?, h3]
    · have e : bcells (bs.set k y) = (bcells bs).set k (.int .u8 y.toNat) := by simp [bcells, List.map_set]
      rw [e, ← h7]
      simp [List.take_set]
theorem xor_byte (x : UInt8) (t : Int) : ∃ y : UInt8, bits BinOp.xor IntKind.u8 (x.toNat : Int) t = (y.toNat : Int) := by
  have h := bounds_u8 (wf_bits BinOp.xor IntKind.u8 (x.toNat : Int) t)
  refine ⟨UInt8.ofNat (bits BinOp.xor IntKind.u8 (x.toNat : Int) t).toNat, ?_⟩
  simp
  omega

set_option maxHeartbeats 8000000 in
set_option maxRecDepth 100000 in
theorem treeLoads_c (vb v0 : Value) (bb : List UInt8) (qs : List AskD) (at_ turn : Int) (w : World) (h1 : BSl w vb bb) (h0 : ASl w v0 qs) :
    Calls Try.prog 5 #[vb, v0, .int .i64 at_, .int .u8 turn] w fun e w' => e = .returned (.bool true) ∧ Below w.heap.size w w' := by
  have HA := hidden h0
  have HVB := hidden h1
  obtain ⟨ao, cap, rfl, hc0, hm0⟩ := h0.len
  unfold maxLen at hm0
  clear h0 h1
  go_enter Try.func5, Try.ntmps5
  go_wp2_with fail
  refine (new_c w).mono ?_
  rintro e w1 ⟨R1, a, rfl, ht1, hb1⟩
  have HT1 := hidden ht1
  have HB1 := hidden hb1
  clear ht1 hb1
  go_wp2_with fail
  go_loopw [10] (fun c wr => ∃ (k : Nat) (R : Nat → Role) (S : Tr), c = .int .i64 k ∧ k ≤ 15 ∧ k ≤ qs.length ∧ TS w.heap.size wr R a S ∧ S.next ≤ k + 1 ∧ Below w.heap.size w wr) (fun c _ => 15 - (intOf c).toNat)
  case atStart => exact ⟨0, R1, newTr, rfl, by omega, by omega, HT1.out, by decide, HB1.out⟩
  case round =>
    obtain ⟨k, R, S, rfl, hk15, hkl, hT, hnx, hb⟩ := hrel
    have HT := hidden hT
    have HB := hidden hb
    clear hT hb
    by_cases hlt : k < qs.length ∧ k < 15
    · obtain ⟨hlt0, hlt1⟩ := hlt
      have q0 : (k : Int) < (qs.length : Int) := by omega
      have q1 : (k : Int) < 15 := by omega
      have hA := HA.out.fresh HB.out
      obtain ⟨eb, eo, rfl, d0, d1, d2, d3, d4, d5, d6, d7, d8, d9, d10, d11, d12, d13, d14⟩ := hA.at k hlt0
      have HG := hidden (HA.out.good (List.getElem_mem hlt0))
      have HGr := hidden (hA.good (List.getElem_mem hlt0))
      clear hA
      generalize qs[k] = en at d0 d1 d2 d3 d4 d5 d6 d7 d8 d9 d10 d11 d12 d13 d14 HG HGr
      obtain ⟨x, pv, tv, bv⟩ := en
      go_wp2_with fail
      obtain ⟨g1, g2, g3, g4, g5, g6⟩ := HGr.out
      refine (short_c x pv tv bv _ g1 g2 g3).mono ?_
      rintro e w2 ⟨pv', tv', bv', rfl, hp2, ht2, hb2, hob2, hbel2⟩
      have HP2 := hidden hp2
      have HBv2 := hidden hb2
      have HBO2 := hidden hob2
      have HB2 := hidden (HB.out.trans (hbel2.mono HB.out.size))
      have HT2 := hidden (HT.out.fresh hbel2)
      have hlp := World.ownsRow.lt hp2
      have hnoP : Hid (∀ k, pv'.ownBlock = some k → R k = .no) := fun k e => HT.out.lim k (hlp k e).1
      clear hp2 hb2 hob2 hbel2 hlp g1 g2 g3 g4 g5 g6 d0 d1 d2 d3 d4 d5 d6 d7 d8 d9 d10 d11 d12 d13 d14
      obtain ⟨a1, k1, rfl⟩ := ownsRow_shape HP2.out
      obtain ⟨at2, kt2, rfl⟩ := ownsRow_shape ht2
      have hbs0 := HBv2.out
      obtain ⟨m3, hm3⟩ : ∃ m, m = (shortA x).b.length := ⟨_, rfl⟩
      obtain ⟨a3, k3, hv3, _⟩ := hbs0
      rw [← hm3] at hv3
      subst hv3
      obtain ⟨m1, hm1⟩ : ∃ m, m = (shortA x).P.length := ⟨_, rfl⟩
      rw [← hm1] at HP2 hnoP ⊢
      rw [show askC (shortA x) (.slice a1 m1 k1) (.slice at2 (shortA x).To.length kt2) (.slice a3 m3 k3) = #[.int .i64 x.kind, .int .i64 x.id, .slice a1 m1 k1, .slice at2 (shortA x).To.length kt2, .bool x.dir, .int .u64 x.at_, .int .u32 x.n, .slice a3 m3 k3, .int .u32 x.a.f, .int .u64 x.a.s, .int .u32 x.a.u, .int .u32 x.a.g, .int .u32 x.a.m, .int .u32 x.a.a, .int .u32 x.a.t] from rfl]
      have HM1 := hidden hm1
      have HM3 := hidden hm3
      clear hm1 hm3 ht2
      go_wp2_with fail
      have hno : Hid ((shortA x).b ≠ [] → ∀ j, (Value.slice a3 m3 k3).ownBlock = some j → j < w.heap.size) := fun hne j e => by
        have hxb : x.b ≠ [] := by rintro h0; exact hne (by show x.b.take 200 = []; rw [h0]; rfl)
        rw [HBO2.out] at e
        have hg := HG.out.2.2.1
        rcases Nat.lt_or_ge j w.heap.size with h | h
        · exact h
        · exact absurd rfl (BSl.apartB hg h hxb j e)
      have hblk := heap_alloc_new w2 (.cells #[.int .i64 x.kind, .int .i64 x.id, .slice a1 m1 k1, .slice at2 (shortA x).To.length kt2, .bool x.dir, .int .u64 x.at_, .int .u32 x.n, .slice a3 m3 k3, .int .u32 x.a.f, .int .u64 x.a.s, .int .u32 x.a.u, .int .u32 x.a.g, .int .u32 x.a.m, .int .u32 x.a.a, .int .u32 x.a.t] 47)
      have hkA := (Keeps.refl (fun _ => False) w2).alloc (.cells #[.int .i64 x.kind, .int .i64 x.id, .slice a1 m1 k1, .slice at2 (shortA x).To.length kt2, .bool x.dir, .int .u64 x.at_, .int .u32 x.n, .slice a3 m3 k3, .int .u32 x.a.f, .int .u64 x.a.s, .int .u32 x.a.u, .int .u32 x.a.g, .int .u32 x.a.m, .int .u32 x.a.a, .int .u32 x.a.t] 47)
      have hbA : Below w.heap.size w (w2.alloc (.cells #[.int .i64 x.kind, .int .i64 x.id, .slice a1 m1 k1, .slice at2 (shortA x).To.length kt2, .bool x.dir, .int .u64 x.at_, .int .u32 x.n, .slice a3 m3 k3, .int .u32 x.a.f, .int .u64 x.a.s, .int .u32 x.a.u, .int .u32 x.a.g, .int .u32 x.a.m, .int .u32 x.a.a, .int .u32 x.a.t] 47)) := HB2.out.alloc HB2.out.size _
      generalize w2.alloc (.cells #[.int .i64 x.kind, .int .i64 x.id, .slice a1 m1 k1, .slice at2 (shortA x).To.length kt2, .bool x.dir, .int .u64 x.at_, .int .u32 x.n, .slice a3 m3 k3, .int .u32 x.a.f, .int .u64 x.a.s, .int .u32 x.a.u, .int .u32 x.a.g, .int .u32 x.a.m, .int .u32 x.a.a, .int .u32 x.a.t] 47) = wA at hblk hkA hbA ⊢
      have htA := HT2.out.still hkA
      have hssl : SSl wA (.slice a1 m1 k1) (shortA x).P := (SOwn.ssl (show SOwn w2 wr.heap.size (.slice a1 m1 k1) (shortA x).P by have h := HP2.out; rw [HM1.out] at h ⊢; exact h)).keep hkA fun _ _ h => h
      have hbsA := HBv2.out.keep hkA fun _ _ h => h
      refine (make_t htA hbA.size _ (shortA x).P hssl hnoP.out x.dir (by omega)).mono ?_
      rintro e w3 ⟨rfl, R3, ht3, hm3⟩
      have hw2no := HT2.out.lim w2.heap.size (Nat.le_refl _)
      have hblk3 := (hm3.keeps.block w2.heap.size (lt_of_block hblk) (fun h => h hw2no)).trans hblk
      obtain ⟨_, _, _, _, _, _, _, c7, _⟩ := cells15 hblk3
      have HBv3 := hidden (hbsA.keepE hm3.keeps fun hne j e h => h (HT2.out.2.2 j (hno.out hne j e)))
      have HT3 := hidden ht3
      have HB3 : Hid (Below w.heap.size w w3) := hbA.trans (hm3.below HT2.out.2.2 hbA.size)
      have HN3 := hidden (makeT_next S (shortA x).P x.dir)
      clear ht3 hm3 hblk hblk3 hkA hbA htA hssl hbsA hw2no
      go_wp2_with fail
      have hwr := write_t HT3.out HB3.out.size (k : Int) 0 (by omega) _ (shortA x).b HBv3.out (by show (x.b.take 200).length ≤ _; rw [List.length_take]; omega) (fun hne j e => HT3.out.2.2 j (hno.out hne j e))
      rw [show ((0 : Nat) : Int) = 0 from rfl] at hwr
      refine hwr.mono ?_
      rintro e w4 ⟨rfl, R4, ht4, hm4⟩
      have HT4 := hidden ht4
      have HB4 : Hid (Below w.heap.size w w4) := HB3.out.trans (hm4.below HT3.out.2.2 HB3.out.size)
      clear ht4 hm4 hwr c7
      go_wp2_with fail
      go_roundw
      case rel => exact ⟨k + 1, R4, _, by go_num, by omega, by omega, HT4.out, by rw [writeT_next]; have := HN3.out; omega, HB4.out⟩
      case measure => simp [intOf]; omega
    · have hcond : (¬ (k : Int) < (qs.length : Int)) ∨ ((k : Int) < (qs.length : Int) ∧ ¬ (k : Int) < 15) := by omega
      have hnx2 : S.next ≤ 16 := by omega
      clear hlt hnx
      rcases hcond with h | ⟨h, h'⟩
      all_goals
        go_wp2_with fail
        refine (save_t HT.out (by omega)).mono ?_
        rintro e w2 ⟨vs, bs, rfl, hsv, hbl, hown, hb2⟩
        have HB2 := hidden (HB.out.trans (hb2.mono HB.out.size))
        have HOW := hidden hown
        have hpos : 0 < bs.length := by
          obtain ⟨F, r, _, rfl⟩ := hsv
          rw [List.length_append, be_length]; omega
        obtain ⟨ao2, cp2, rfl⟩ := ownsRow_shape hown
        have HBL := hidden hbl
        obtain ⟨m, hm⟩ : ∃ m, bs.length = m + 1 := ⟨bs.length - 1, by omega⟩
        have hml : m ≤ 220000007 := by omega
        have HWW := HB.out.size
        rw [hm]
        have HM := hidden hm
        have HSW := hb2.size
        clear hsv hown hb2 HT hpos hm hbl
        go_wp2_with fail
        refine (within_c at_ m (by omega) _).mono ?_
        rintro e wq ⟨k2, rfl, hk2, hq⟩; obtain rfl := hq.symm; clear hq
        obtain ⟨g, cp3, hgs, hgb, ⟨xb, hxb⟩, hgf, hgset⟩ := row_turn HOW.out k2 (by rw [HM.out]; omega)
        rw [HM.out] at hgs
        cases hgs
        have hki : (k2 : Int) < (m : Int) + 1 := by omega
        obtain ⟨yb, hyb⟩ := xor_byte xb turn
        have HST := hidden (hgset yb)
        have hbs : Below w.heap.size w (w2.setCell ⟨g, k2, none⟩ (.int .u8 yb.toNat)) := HB2.out.trans ((keeps_set w2 g k2 _).below HB2.out.size fun k h => by omega)
        have HB3 := hidden hbs
        clear hgset hbs hgb
        go_wp2_with fail
        generalize w2.setCell ⟨g, k2, none⟩ (.int .u8 yb.toNat) = w3 at HST HB3 ⊢
        clear hxb hgf hyb
        refine (cut_c 500 (by omega) vb bb w3 (HVB.out.fresh HB3.out)).mono ?_
        rintro e wq ⟨bv, rfl, hbv, _, hq⟩; obtain rfl := hq.symm; clear hq
        have hrow2 : BSl w3 (.slice (some ⟨g, 0, none⟩) (m + 1) cp2) (bs.set k2 yb) := BSl.ofRow (by have h := HST.out; rw [HM.out] at h; exact h)
        obtain ⟨bo, bn, bc, hbe⟩ : ∃ ao n c, bv = .slice ao n c := by obtain ⟨ao, c, e, _⟩ := hbv; exact ⟨ao, _, c, e⟩
        subst hbe
        have HY1 := hidden hbv
        have HY2 := hidden hrow2
        clear hbv hrow2
        go_wp2_with fail
        have hkA := (Keeps.refl (fun _ => False) w3).alloc (.cells #[.slice bo bn bc, .slice (some ⟨g, 0, none⟩) (m + 1) cp2] 30)
        have hblk := heap_alloc_new w3 (.cells #[.slice bo bn bc, .slice (some ⟨g, 0, none⟩) (m + 1) cp2] 30)
        have HBA := hidden (HB3.out.alloc HB3.out.size (.cells #[.slice bo bn bc, .slice (some ⟨g, 0, none⟩) (m + 1) cp2] 30))
        have hy1 := HY1.out.keep hkA fun _ _ h => h
        have hy2 := HY2.out.keep hkA fun _ _ h => h
        generalize w3.alloc (.cells #[.slice bo bn bc, .slice (some ⟨g, 0, none⟩) (m + 1) cp2] 30) = w4 at hkA hblk HBA hy1 hy2 ⊢
        generalize w3.heap.size = lb at hblk ⊢
        have HYY : Hid (∀ (k : Nat), k < 2 → ∀ W, Below w4.heap.size w4 W → ∃ ao n c Y, W.cell? ⟨lb, k, none⟩ = some (.slice ao n c) ∧ BSl W (.slice ao n c) Y ∧ Y.length ≤ 1000000000) := fun k hk W hW => by
          have hb := (hW.block lb (lt_of_block hblk)).trans hblk
          have h2 : k = 0 ∨ k = 1 := by omega
          rcases h2 with rfl | rfl
          · exact ⟨_, _, _, _, by simp [World.cell?, hb], hy1.fresh hW, by rw [List.length_take]; omega⟩
          · exact ⟨_, _, _, _, by simp [World.cell?, hb], hy2.fresh hW, by rw [List.length_set, HM.out]; omega⟩
        clear hkA hblk hy1 hy2
        go_loopw [71] (fun c wr => ∃ k : Nat, c = .int .i64 k ∧ k ≤ 2 ∧ Below w4.heap.size w4 wr) (fun c _ => 2 - (intOf c).toNat)
        case atStart => exact ⟨0, rfl, by omega, Below.refl _ _⟩
        case round =>
          obtain ⟨k5, rfl, hk5, hb5⟩ := hrel
          have HB5 := hidden hb5
          clear hb5
          by_cases hlt5 : k5 < 2
          · have hi5 : (k5 : Int) < 2 := by omega
            obtain ⟨yo, yn, yc, Y, hyc, hyv, hyl⟩ := HYY.out k5 hlt5 wr HB5.out
            have HYV := hidden hyv
            clear hyv
            go_wp2_with fail
            refine (load_c _ Y wr HYV.out (by omega)).mono ?_
            intro e w6 h6
            unfold LoadPost at h6
            cases hld : loadT Y with
            | none =>
              rw [hld] at h6
              obtain ⟨rfl, hb6⟩ := h6
              have HB6 := hidden (HB5.out.trans (hb6.mono HB5.out.size))
              clear hb6 hld hyc
              go_wp2_with fail
              go_quiet (fail)
              go_wp2_with fail
              go_roundw
              case rel => exact ⟨k5 + 1, by go_num, hlt5, HB6.out.trans (Keeps.below ((Keeps.refl (fun _ => False) w6).drewN nq) HB6.out.size fun _ h => h.elim)⟩
              case measure => simp [intOf]; omega
            | some q =>
              obtain ⟨nx, x, kf⟩ := q
              rw [hld] at h6
              obtain ⟨R6, a6, S6, rfl, ht6, hb6, hsn, hsm⟩ := h6
              have HB6 := hidden (HB5.out.trans (hb6.mono HB5.out.size))
              have HY6 := hidden (HYV.out.fresh hb6)
              have hsy : savesTo S6 Y ∧ S6.next ≤ 4611686018427387903 := by
                obtain ⟨_, ⟨pa, nm, o⟩, _⟩ := ht6
                obtain ⟨l6, n6⟩ := S6
                have hsn : n6 = nx := hsn
                subst hsn
                obtain ⟨_, h2, h3, _⟩ := loadT_tree hld o.inc hsm
                exact ⟨h2, h3⟩
              have HSV : Hid (∀ W, Below w6.heap.size w6 W → Calls Try.prog 19 #[.pointer (some ⟨a6, 0, none⟩)] W fun e W' => ∃ v, e = .returned v ∧ Ex W W' ∧ (Fact.bsl Y).holds v W') := fun W hW => by
                refine (save_t (ht6.fresh hW) (by have := hsy.2; omega)).mono ?_
                rintro e W' ⟨vs, bs2, rfl, hsv2, _, hown2, hb2⟩
                obtain rfl := savesTo_uniq hsy.1 hsv2
                exact ⟨_, rfl, hb2, BSl.ofRow hown2⟩
              clear ht6 hb6 hsn hsm hsy hld hyc
              go_upto_region 18 with fail
              go_cut [104] from 72 to 104 (fun c wx => c = .bool false ∧ Below w6.heap.size w6 wx)
              case first =>
                refine region_free [(.val (.pointer (some ⟨a6, 0, none⟩))), (.val (.bool false)), (.val (.int .i64 0)), (.val (.bool false)), (.val (.bool false)), (.val (.bool false)), (.val (.int .i64 0)), (.val (.bool false)), (.val (.bool false)), (.val undef), (.val undef), (.val (.bool false)), (.val (.bool false)), (.val (.bool false)), (.val (.pointer (some ⟨a6, 0, none⟩))), (.val (.bool true)), (.val (.bool true)), (.val (.pointer (some ⟨a6, 0, none⟩))), (.bsl Y), (.val (.string ⟨(List.toArray Y)⟩)), (.val (.slice yo yn yc)), (.val (.string ⟨(List.toArray Y)⟩)), (.val (.bool false)), (.val (.bool false)), (.val (.bool false))] (by kernel_rfl) ?_ ?_
                · refine req_cons (.val (.pointer (some ⟨a6, 0, none⟩))) (by kernel_rfl) (fun vs w1 he hd => StepG.plain (by kernel_rfl) (gives_move (x := (.tmp 16)) (v := (.pointer (some ⟨a6, 0, none⟩))) (by kernel_rfl) (by kernel_rfl) ⟨Ex.refl _, rfl⟩)) ?_
                  refine req_cons (.val (.bool false)) (by kernel_rfl) (fun vs w1 he hd => StepG.plain (by kernel_rfl) (gives_eqP (t := 24) (a := ⟨a6, 0, none⟩) (x := .tmp 80) (by kernel_rfl) (by kernel_rfl) (by kernel_rfl) (Eq.trans (b := vs 0) (by kernel_rfl) (hd 0 (.val (.pointer (some ⟨a6, 0, none⟩))) (by kernel_rfl) (by kernel_rfl))) ⟨Ex.refl _, rfl⟩)) ?_
                  refine req_cons (.val (.int .i64 0)) (by kernel_rfl) (fun vs w1 he hd => StepG.plain (by kernel_rfl) (gives_move (x := (.tmp 17)) (v := (.int .i64 0)) (by kernel_rfl) (by kernel_rfl) ⟨Ex.refl _, rfl⟩)) ?_
                  refine req_cons (.val (.bool false)) (by kernel_rfl) (fun vs w1 he hd => StepG.plain (by kernel_rfl) (gives_neI (t := 26) (k := .i64) (a := 0) (b := 0) (x := (.tmp 82)) (y := (.const (.int .i64 0))) (r := false) (by kernel_rfl) (Eq.trans (b := vs 2) (by kernel_rfl) (hd 2 (.val (.int .i64 0)) (by kernel_rfl) (by kernel_rfl))) (by kernel_rfl) (by simp) ⟨Ex.refl _, rfl⟩)) ?_
                  refine req_cons (.val (.bool false)) (by kernel_rfl) (fun vs w1 he hd => StepG.plain (by kernel_rfl) (gives_neB (t := 4) (a := false) (b := false) (x := .tmp 81) (y := .tmp 83) (by kernel_rfl) (by kernel_rfl) (Eq.trans (b := vs 1) (by kernel_rfl) (hd 1 (.val (.bool false)) (by kernel_rfl) (by kernel_rfl))) (Eq.trans (b := vs 3) (by kernel_rfl) (hd 3 (.val (.bool false)) (by kernel_rfl) (by kernel_rfl))) ⟨Ex.refl _, rfl⟩)) ?_
                  refine req_cons (.val (.bool false)) (by kernel_rfl) (fun vs w1 he hd => StepG.plain (by kernel_rfl) (gives_move (x := (.tmp 84)) (v := (.bool false)) (by kernel_rfl) (Eq.trans (b := vs 4) (by kernel_rfl) (hd 4 (.val (.bool false)) (by kernel_rfl) (by kernel_rfl))) ⟨Ex.refl _, rfl⟩)) ?_
                  refine req_cons (.val (.int .i64 0)) (by kernel_rfl) (fun vs w1 he hd => StepG.on (g := 5) (d := 85) (x := false) (v := vs 5) (by kernel_rfl) (by kernel_rfl) (by kernel_rfl) (hd 5 (.val (.bool false)) (by kernel_rfl) (by kernel_rfl)) (gives_move (x := (.tmp 17)) (v := (.int .i64 0)) (by kernel_rfl) (by kernel_rfl) ⟨Ex.refl _, rfl⟩)) ?_
                  refine req_cons (.val (.bool false)) (by kernel_rfl) (fun vs w1 he hd => StepG.on (g := 5) (d := 85) (x := false) (v := vs 5) (by kernel_rfl) (by kernel_rfl) (by kernel_rfl) (hd 5 (.val (.bool false)) (by kernel_rfl) (by kernel_rfl)) (gives_neI (t := 26) (k := .i64) (a := 0) (b := 0) (x := (.tmp 86)) (y := (.const (.int .i64 0))) (r := false) (by kernel_rfl) (Eq.trans (b := vs 6) (by kernel_rfl) (hd 6 (.val (.int .i64 0)) (by kernel_rfl) (by kernel_rfl))) (by kernel_rfl) (by simp) ⟨Ex.refl _, rfl⟩)) ?_
                  refine req_cons (.val (.bool false)) (by kernel_rfl) (fun vs w1 he hd => StepG.on (g := 5) (d := 85) (x := false) (v := vs 5) (by kernel_rfl) (by kernel_rfl) (by kernel_rfl) (hd 5 (.val (.bool false)) (by kernel_rfl) (by kernel_rfl)) (gives_move (x := (.tmp 87)) (v := (.bool false)) (by kernel_rfl) (Eq.trans (b := vs 7) (by kernel_rfl) (hd 7 (.val (.bool false)) (by kernel_rfl) (by kernel_rfl))) ⟨Ex.refl _, rfl⟩)) ?_
                  refine req_cons (.val undef) (by kernel_rfl) (fun vs w1 he hd => StepG.off (g := 8) (d := 88) (x := true) (v := vs 8) (by kernel_rfl) (by kernel_rfl) (by kernel_rfl) (.inl (hd 8 (.val (.bool false)) (by kernel_rfl) (by kernel_rfl))) ⟨Ex.refl _, rfl⟩) ?_
                  refine req_cons (.val undef) (by kernel_rfl) (fun vs w1 he hd => StepG.off (g := 8) (d := 88) (x := true) (v := vs 8) (by kernel_rfl) (by kernel_rfl) (by kernel_rfl) (.inl (hd 8 (.val (.bool false)) (by kernel_rfl) (by kernel_rfl))) ⟨Ex.refl _, rfl⟩) ?_
                  refine req_cons (.val (.bool false)) (by kernel_rfl) (fun vs w1 he hd => StepG.on (g := 5) (d := 85) (x := false) (v := vs 5) (by kernel_rfl) (by kernel_rfl) (by kernel_rfl) (hd 5 (.val (.bool false)) (by kernel_rfl) (by kernel_rfl)) (gives_pick_f (x := (.tmp 88)) (y := (.tmp 90)) (z := (.const (.bool false))) (v := (.bool false)) (by kernel_rfl) (Eq.trans (b := vs 8) (by kernel_rfl) (hd 8 (.val (.bool false)) (by kernel_rfl) (by kernel_rfl))) (by kernel_rfl) ⟨Ex.refl _, rfl⟩)) ?_
                  refine req_cons (.val (.bool false)) (by kernel_rfl) (fun vs w1 he hd => StepG.plain (by kernel_rfl) (gives_pick_f (x := (.tmp 85)) (y := (.const (.bool true))) (z := (.tmp 91)) (v := (.bool false)) (by kernel_rfl) (Eq.trans (b := vs 5) (by kernel_rfl) (hd 5 (.val (.bool false)) (by kernel_rfl) (by kernel_rfl))) (Eq.trans (b := vs 11) (by kernel_rfl) (hd 11 (.val (.bool false)) (by kernel_rfl) (by kernel_rfl))) ⟨Ex.refl _, rfl⟩)) ?_
                  refine req_cons (.val (.bool false)) (by kernel_rfl) (fun vs w1 he hd => StepG.plain (by kernel_rfl) (gives_move (x := (.tmp 92)) (v := (.bool false)) (by kernel_rfl) (Eq.trans (b := vs 12) (by kernel_rfl) (hd 12 (.val (.bool false)) (by kernel_rfl) (by kernel_rfl))) ⟨Ex.refl _, rfl⟩)) ?_
                  refine req_cons (.val (.pointer (some ⟨a6, 0, none⟩))) (by kernel_rfl) (fun vs w1 he hd => StepG.on (g := 13) (d := 93) (x := false) (v := vs 13) (by kernel_rfl) (by kernel_rfl) (by kernel_rfl) (hd 13 (.val (.bool false)) (by kernel_rfl) (by kernel_rfl)) (gives_move (x := (.tmp 16)) (v := (.pointer (some ⟨a6, 0, none⟩))) (by kernel_rfl) (by kernel_rfl) ⟨Ex.refl _, rfl⟩)) ?_
                  refine req_cons (.val (.bool true)) (by kernel_rfl) (fun vs w1 he hd => StepG.on (g := 13) (d := 93) (x := false) (v := vs 13) (by kernel_rfl) (by kernel_rfl) (by kernel_rfl) (hd 13 (.val (.bool false)) (by kernel_rfl) (by kernel_rfl)) (gives_neP (t := 24) (a := ⟨a6, 0, none⟩) (x := .tmp 94) (by kernel_rfl) (by kernel_rfl) (by kernel_rfl) (Eq.trans (b := vs 14) (by kernel_rfl) (hd 14 (.val (.pointer (some ⟨a6, 0, none⟩))) (by kernel_rfl) (by kernel_rfl))) ⟨Ex.refl _, rfl⟩)) ?_
                  refine req_cons (.val (.bool true)) (by kernel_rfl) (fun vs w1 he hd => StepG.on (g := 13) (d := 93) (x := false) (v := vs 13) (by kernel_rfl) (by kernel_rfl) (by kernel_rfl) (hd 13 (.val (.bool false)) (by kernel_rfl) (by kernel_rfl)) (gives_move (x := (.tmp 95)) (v := (.bool true)) (by kernel_rfl) (Eq.trans (b := vs 15) (by kernel_rfl) (hd 15 (.val (.bool true)) (by kernel_rfl) (by kernel_rfl))) ⟨Ex.refl _, rfl⟩)) ?_
                  refine req_cons (.val (.pointer (some ⟨a6, 0, none⟩))) (by kernel_rfl) (fun vs w1 he hd => StepG.on (g := 16) (d := 96) (x := true) (v := vs 16) (by kernel_rfl) (by kernel_rfl) (by kernel_rfl) (hd 16 (.val (.bool true)) (by kernel_rfl) (by kernel_rfl)) (gives_move (x := (.tmp 16)) (v := (.pointer (some ⟨a6, 0, none⟩))) (by kernel_rfl) (by kernel_rfl) ⟨Ex.refl _, rfl⟩)) ?_
                  refine req_cons (.bsl Y) (by kernel_rfl) (fun vs w1 he hd => StepG.on (g := 16) (d := 96) (x := true) (v := vs 16) (by kernel_rfl) (by kernel_rfl) (by kernel_rfl) (hd 16 (.val (.bool true)) (by kernel_rfl) (by kernel_rfl)) (gives_call (f := 19) (xs := #[(.tmp 97)]) (ts := #[24]) (vs := #[(vs 17)]) (by kernel_rfl) (by kernel_rfl) (by kernel_rfl) Try.func19 (by kernel_rfl) (by kernel_rfl) (by rw [show vs 17 = (.pointer (some ⟨a6, 0, none⟩)) from (hd 17 (.val (.pointer (some ⟨a6, 0, none⟩))) (by kernel_rfl) (by kernel_rfl))]; exact HSV.out w1 he))) ?_
                  refine req_cons (.val (.string ⟨(List.toArray Y)⟩)) (by kernel_rfl) (fun vs w1 he hd => StepG.on (g := 16) (d := 96) (x := true) (v := vs 16) (by kernel_rfl) (by kernel_rfl) (by kernel_rfl) (hd 16 (.val (.bool true)) (by kernel_rfl) (by kernel_rfl)) (gives_str (x := (.tmp 98)) (v := (vs 18)) (xs := Y) (by kernel_rfl) (by kernel_rfl) ((hd 18 (.bsl Y) (by kernel_rfl) (by kernel_rfl))) ⟨Ex.refl _, rfl⟩)) ?_
                  refine req_cons (.val (.slice yo yn yc)) (by kernel_rfl) (fun vs w1 he hd => StepG.on (g := 16) (d := 96) (x := true) (v := vs 16) (by kernel_rfl) (by kernel_rfl) (by kernel_rfl) (hd 16 (.val (.bool true)) (by kernel_rfl) (by kernel_rfl)) (gives_move (x := (.tmp 15)) (v := (.slice yo yn yc)) (by kernel_rfl) (by kernel_rfl) ⟨Ex.refl _, rfl⟩)) ?_
                  refine req_cons (.val (.string ⟨(List.toArray Y)⟩)) (by kernel_rfl) (fun vs w1 he hd => StepG.on (g := 16) (d := 96) (x := true) (v := vs 16) (by kernel_rfl) (by kernel_rfl) (by kernel_rfl) (hd 16 (.val (.bool true)) (by kernel_rfl) (by kernel_rfl)) (gives_str (x := (.tmp 100)) (v := (.slice yo yn yc)) (xs := Y) (by kernel_rfl) (Eq.trans (b := vs 20) (by kernel_rfl) (hd 20 (.val (.slice yo yn yc)) (by kernel_rfl) (by kernel_rfl))) ((HY6.out.fresh he)) ⟨Ex.refl _, rfl⟩)) ?_
                  refine req_cons (.val (.bool false)) (by kernel_rfl) (fun vs w1 he hd => StepG.on (g := 16) (d := 96) (x := true) (v := vs 16) (by kernel_rfl) (by kernel_rfl) (by kernel_rfl) (hd 16 (.val (.bool true)) (by kernel_rfl) (by kernel_rfl)) (gives_neS (x := (.tmp 99)) (y := (.tmp 101)) (xs := Y) (ys := Y) (r := false) (by kernel_rfl) (Eq.trans (b := vs 19) (by kernel_rfl) (hd 19 (.val (.string ⟨(List.toArray Y)⟩)) (by kernel_rfl) (by kernel_rfl))) (Eq.trans (b := vs 21) (by kernel_rfl) (hd 21 (.val (.string ⟨(List.toArray Y)⟩)) (by kernel_rfl) (by kernel_rfl))) (by simp) ⟨Ex.refl _, rfl⟩)) ?_
                  refine req_cons (.val (.bool false)) (by kernel_rfl) (fun vs w1 he hd => StepG.on (g := 13) (d := 93) (x := false) (v := vs 13) (by kernel_rfl) (by kernel_rfl) (by kernel_rfl) (hd 13 (.val (.bool false)) (by kernel_rfl) (by kernel_rfl)) (gives_pick_t (x := (.tmp 96)) (y := (.tmp 102)) (z := (.const (.bool false))) (v := (.bool false)) (by kernel_rfl) (Eq.trans (b := vs 16) (by kernel_rfl) (hd 16 (.val (.bool true)) (by kernel_rfl) (by kernel_rfl))) (Eq.trans (b := vs 22) (by kernel_rfl) (hd 22 (.val (.bool false)) (by kernel_rfl) (by kernel_rfl))) ⟨Ex.refl _, rfl⟩)) ?_
                  refine req_cons (.val (.bool false)) (by kernel_rfl) (fun vs w1 he hd => StepG.plain (by kernel_rfl) (gives_pick_f (x := (.tmp 93)) (y := (.const (.bool true))) (z := (.tmp 103)) (v := (.bool false)) (by kernel_rfl) (Eq.trans (b := vs 13) (by kernel_rfl) (hd 13 (.val (.bool false)) (by kernel_rfl) (by kernel_rfl))) (Eq.trans (b := vs 23) (by kernel_rfl) (hd 23 (.val (.bool false)) (by kernel_rfl) (by kernel_rfl))) ⟨Ex.refl _, rfl⟩)) ?_
                  exact req_nil
                intro vs w7 hx hF
                have e0 : vs 0 = (.pointer (some ⟨a6, 0, none⟩)) := told_at hF 0 (.val (.pointer (some ⟨a6, 0, none⟩))) (by decide) (by kernel_rfl)
                have e1 : vs 1 = (.bool false) := told_at hF 1 (.val (.bool false)) (by decide) (by kernel_rfl)
                have e2 : vs 2 = (.int .i64 0) := told_at hF 2 (.val (.int .i64 0)) (by decide) (by kernel_rfl)
                have e3 : vs 3 = (.bool false) := told_at hF 3 (.val (.bool false)) (by decide) (by kernel_rfl)
                have e4 : vs 4 = (.bool false) := told_at hF 4 (.val (.bool false)) (by decide) (by kernel_rfl)
                have e5 : vs 5 = (.bool false) := told_at hF 5 (.val (.bool false)) (by decide) (by kernel_rfl)
                have e6 : vs 6 = (.int .i64 0) := told_at hF 6 (.val (.int .i64 0)) (by decide) (by kernel_rfl)
                have e7 : vs 7 = (.bool false) := told_at hF 7 (.val (.bool false)) (by decide) (by kernel_rfl)
                have e8 : vs 8 = (.bool false) := told_at hF 8 (.val (.bool false)) (by decide) (by kernel_rfl)
                have e9 : vs 9 = undef := told_at hF 9 (.val undef) (by decide) (by kernel_rfl)
                have e10 : vs 10 = undef := told_at hF 10 (.val undef) (by decide) (by kernel_rfl)
                have e11 : vs 11 = (.bool false) := told_at hF 11 (.val (.bool false)) (by decide) (by kernel_rfl)
                have e12 : vs 12 = (.bool false) := told_at hF 12 (.val (.bool false)) (by decide) (by kernel_rfl)
                have e13 : vs 13 = (.bool false) := told_at hF 13 (.val (.bool false)) (by decide) (by kernel_rfl)
                have e14 : vs 14 = (.pointer (some ⟨a6, 0, none⟩)) := told_at hF 14 (.val (.pointer (some ⟨a6, 0, none⟩))) (by decide) (by kernel_rfl)
                have e15 : vs 15 = (.bool true) := told_at hF 15 (.val (.bool true)) (by decide) (by kernel_rfl)
                have e16 : vs 16 = (.bool true) := told_at hF 16 (.val (.bool true)) (by decide) (by kernel_rfl)
                have e17 : vs 17 = (.pointer (some ⟨a6, 0, none⟩)) := told_at hF 17 (.val (.pointer (some ⟨a6, 0, none⟩))) (by decide) (by kernel_rfl)
                have e19 : vs 19 = (.string ⟨(List.toArray Y)⟩) := told_at hF 19 (.val (.string ⟨(List.toArray Y)⟩)) (by decide) (by kernel_rfl)
                have e20 : vs 20 = (.slice yo yn yc) := told_at hF 20 (.val (.slice yo yn yc)) (by decide) (by kernel_rfl)
                have e21 : vs 21 = (.string ⟨(List.toArray Y)⟩) := told_at hF 21 (.val (.string ⟨(List.toArray Y)⟩)) (by decide) (by kernel_rfl)
                have e22 : vs 22 = (.bool false) := told_at hF 22 (.val (.bool false)) (by decide) (by kernel_rfl)
                have e23 : vs 23 = (.bool false) := told_at hF 23 (.val (.bool false)) (by decide) (by kernel_rfl)
                have e24 : vs 24 = (.bool false) := told_at hF 24 (.val (.bool false)) (by decide) (by kernel_rfl)
                simp only [List.length_cons, List.length_nil, actsTo, if_true, dstOf, List.getElem?_toArray, List.getElem?_cons_succ, List.getElem?_cons_zero, Option.bind_some, Act.put, List.setIfInBounds_toArray, List.set_cons_zero, List.set_cons_succ]
                simp only [e0, e1, e2, e3, e4, e5, e6, e7, e8, e9, e10, e11, e12, e13, e14, e15, e16, e17, e19, e20, e21, e22, e23, e24]
                generalize vs 18 = y18
                clear hF e0 e1 e2 e3 e4 e5 e6 e7 e8 e9 e10 e11 e12 e13 e14 e15 e16 e17 e19 e20 e21 e22 e23 e24 vs
                go_wp2_with fail
                go_meet
                case rel => exact ⟨rfl, hx⟩
              case rest =>
                obtain ⟨hq1, hq2⟩ := hcut
                subst hq1
                have HB7 : Hid (Below w4.heap.size w4 wc) := HB6.out.trans (hq2.mono HB6.out.size)
                clear hq2
                go_wp2_with fail
                go_roundw
                case rel => exact ⟨k5 + 1, by go_num, hlt5, HB7.out⟩
                case measure => simp [intOf]; omega
          · obtain rfl : k5 = 2 := by omega
            have hi5 : ¬ ((2 : Nat) : Int) < 2 := by omega
            go_wp2_with fail
            refine (known_c _).mono ?_
            rintro e w17 ⟨rfl, hb17⟩
            have HB17 := hidden ((HBA.out.trans (HB5.out.mono HBA.out.size)).trans (hb17.mono (by have := HBA.out.size; have := HB5.out.size; omega)))
            clear hb17
            go_wp2_with fail
            go_ret
            exact ⟨rfl, HB17.out⟩
end Go.Proofs.Ytnigfnikajejaaa
