/- What is read is left behind. -/
import Derived.Test.YthkaibkmpenclaaDoorPkL
namespace Go.Proofs.YthkaibkmpenclaaDoor
open Go Go.RowKit

theorem Row.cut {w : World} {g h off cap s : Nat} {xs : List UInt8} {cur : Array Value} (hne : h ≠ g) (h2 : w.heap[h]? = some (.cells cur 5 (0, 0))) (h3 : off + cap ≤ cur.size) (h4 : xs.length ≤ cap) (h5 : cap ≤ maxLen) (h6 : (cur.toList.drop off).take xs.length = bcells xs) (hs : s ≤ xs.length) :
    Row w g h (.slice (some ⟨h, off + s, none⟩) (xs.length - s) (cap - s)) (xs.drop s) := by
  refine .inr ⟨hne, off + s, cap - s, cur, by rw [List.length_drop], h2, by omega, by rw [List.length_drop]; omega, by unfold maxLen at *; omega, ?_⟩
  rw [List.length_drop, ← List.drop_drop, ← List.drop_take, h6]
  simp [bcells]
theorem Row.cut0 {w : World} {g h off cap s : Nat} {xs : List UInt8} {cur : Array Value} (hne : h ≠ g) (h2 : w.heap[h]? = some (.cells cur 5 (0, 0))) (h3 : off + cap ≤ cur.size) (h4 : xs.length ≤ cap) (hs : s ≤ xs.length) (hc : cap = s) :
    Row w g h (.slice (some ⟨h, off, none⟩) (xs.length - s) 0) (xs.drop s) := by
  have e : xs.drop s = [] := List.eq_nil_of_length_eq_zero (by rw [List.length_drop]; omega)
  rw [e]
  refine .inr ⟨hne, off, 0, cur, by simp; omega, h2, by omega, by simp, by unfold maxLen; omega, by simp [bcells]⟩
/-- What stands once the slice is cut and counted. -/
structure Cut (w w2 : World) (g h : Nat) (kv : Value) (kb : Option Nat) (key : List UInt8) (c : Nat) (v1 : Value) (ys : List UInt8) (q : Nat) : Prop where
  blk : w2.heap[g]? = some (.cells #[kv, .int .u64 (c : Int), v1, .int .i64 (q : Int), .int .i64 0] 74 (0, 0))
  kb : BSl w2 kv key
  row : Row w2 g h v1 ys
  keeps : Keeps (fun k => k = g ∨ k = h) w w2
theorem Cut.mk' {w : World} {g h : Nat} {kv hv : Value} {kb : Option Nat} {key : List UInt8} {c ps : Nat} (h1 : w.heap[g]? = some (.cells #[kv, .int .u64 (c : Int), hv, .int .i64 (ps : Int), .int .i64 0] 74 (0, 0))) (h2 : BSl w kv key) (hkb : kv.ownBlock = kb) (hn : kb ≠ some g) {v1 : Value} {ys : List UInt8} (r : Row w g h v1 ys) (q : Nat) (x : Int) (hx : x = (q : Int)) :
    Cut w ((w.setCell ⟨g, 2, none⟩ v1).setCell ⟨g, 3, none⟩ (.int .i64 x)) g h kv kb key c v1 ys q := by
  subst hx
  have hk : Keeps (fun k => k = g) w ((w.setCell ⟨g, 2, none⟩ v1).setCell ⟨g, 3, none⟩ (.int .i64 (q : Int))) := (keepSet (fun k => k = g) w g 2 v1 rfl).trans (keepSet (fun k => k = g) _ g 3 _ rfl)
  refine ⟨?_, h2.keep hk (fun k e hs => hn (by rw [← hkb, e, hs])), r.keep hk (fun hne e => hne e), hk.mono fun k _ e => .inl e⟩
  exact (set5 (set5 h1 v1).2.2.1 _).2.2.2
theorem Cut.drewN {w w2 : World} {g h : Nat} {kv : Value} {kb : Option Nat} {key : List UInt8} {c : Nat} {v1 : Value} {ys : List UInt8} {q : Nat} (h' : Cut w w2 g h kv kb key c v1 ys q) (n : Nat) : Cut w (w2.drewN n) g h kv kb key c v1 ys q :=
  ⟨h'.blk, h'.kb.keep (S := fun _ => False) ((Keeps.refl _ _).drewN n) (fun _ _ h => h), h'.row.keep (S := fun _ => False) ((Keeps.refl _ _).drewN n) (fun _ h => h), h'.keeps.drewN n⟩
set_option maxHeartbeats 800000 in
set_option maxRecDepth 100000 in
theorem pass_c (s : Nat) (w : World) {g h : Nat} {kb : Option Nat} {key : List UInt8} {c : Nat} {xs : List UInt8} (i : InS w g h kb key c xs 0) (h0 : 1 ≤ s) (hs : s ≤ xs.length) (hl : xs.length ≤ 1000000) :
    Calls Tryd.prog 45 #[.pointer (some ⟨g, 0, none⟩), .int .i64 (s : Int)] w fun e w' => e = .returned (.tuple #[]) ∧ ∃ h', InS w' g h' kb key c (xs.drop s) 0 ∧ Moved g h h' kb kb w w' := by
  have hbl := i.blockLt
  obtain ⟨⟨kv, hv0, ps, h1, h2, hkb, h3, h4⟩, h5, h6, h7, h8, h9⟩ := i
  obtain ⟨c0, c1, c2, c3, c4, hf⟩ := cells5 h1
  have hdl : (xs.drop s).length = xs.length - s := List.length_drop
  rcases h3 with ⟨_, e, _⟩ | ⟨hne, off, cap, cur, rfl, r2, r3, r4, r5, r6⟩
  · rw [e] at hs; simp at hs; omega
  have rA := fun (hc : ¬ cap = s) => Cut.mk' h1 h2 hkb h5 (Row.cut hne r2 r3 r4 r5 r6 hs) (ps + s) ((ps : Int) + (s : Int)) (by omega)
  have rB := fun (hc : cap = s) => Cut.mk' h1 h2 hkb h5 (Row.cut0 hne r2 r3 r4 hs hc) (ps + s) ((ps : Int) + (s : Int)) (by omega)
  have RA := hidden rA
  have RB := hidden rB
  have H8 := hidden h8
  have H7 := hidden h7
  have HKB := hidden hkb
  unfold maxLen at r5
  obtain ⟨n, hn⟩ : ∃ n, n = xs.length := ⟨_, rfl⟩
  rw [← hn] at hs hl h4 r4 hdl RA RB c2
  have HDL := hidden hdl
  have hs1 : (s : Int) ≤ (n : Int) := by omega
  have hs2 : (s : Int) ≤ (cap : Int) := by omega
  generalize xs.drop s = ys at RA RB HDL ⊢
  clear h1 h2 h7 h8 hkb rA rB r2 r3 r6 c0 c1 hn hdl cur
  by_cases hcs : cap = s
  · have HC := hidden (RB.out hcs)
    go_enter Tryd.func45, Tryd.ntmps45
    go_upto_region 2 with fail
    generalize (w.setCell ⟨g, 2, none⟩ (.slice (some ⟨h, off, none⟩) (n - s) 0)).setCell ⟨g, 3, none⟩ (.int .i64 ((ps : Int) + (s : Int))) = w2 at HC ⊢
    clear RA RB c2 c3 c4 hf
    obtain ⟨d0, d1, d2, d3, d4, hf2⟩ := cells5 HC.out.blk
    obtain ⟨m, hm⟩ : ∃ m, m = n - s := ⟨_, rfl⟩
    rw [← hm] at d2 HC HDL ⊢
    have HMM := hidden hm
    clear hm d0 d1 d4 hf2
    have d3' : w2.cell? ⟨g, 3, none⟩ = some (.int .i64 ((ps : Int) + (s : Int))) := by rw [d3]; congr 2
    clear d3
    go_wp2_with fail
    go_quiet (fail)
    have HC3 := hidden (HC.out.drewN nq)
    generalize w2.drewN nq = w3 at HC3 ⊢
    clear d2 d3' HC
    by_cases hge : (m : Int) ≤ (ps : Int) + (s : Int)
    · obtain ⟨d0, d1, d2, d3, d4, hf2⟩ := cells5 HC3.out.blk
      have HCL := hidden (clone_c _ ys w3 HC3.out.row.bsl (by have := HDL.out; omega))
      clear d0 d1 d3 d4 hf2
      go_wp2_with fail
      refine HCL.out.mono ?_
      rintro e w4 ⟨v4, rfl, ho⟩
      have HO := hidden ho
      obtain ⟨a4, c4, e4⟩ := ho.shape
      subst e4
      have HF : Hid (∃ h', InS ((w4.setCell ⟨g, 2, none⟩ (.slice a4 ys.length c4)).setCell ⟨g, 3, none⟩ (.int .i64 0)) g h' kb key c ys 0 ∧ Moved g h h' kb kb w ((w4.setCell ⟨g, 2, none⟩ (.slice a4 ys.length c4)).setCell ⟨g, 3, none⟩ (.int .i64 0))) := by
        have hs3 := HC3.out.keeps.size
        have hg4 := ((Keeps.ofFresh (S := fun _ => False) HO.out.b).block g (by omega) (fun h => h)).trans HC3.out.blk
        obtain ⟨h', hR, hh⟩ := Row.ofOwns (g := g) HO.out.row rfl (by omega)
        have hk : Keeps (fun k => k = g) w4 ((w4.setCell ⟨g, 2, none⟩ (.slice a4 ys.length c4)).setCell ⟨g, 3, none⟩ (.int .i64 0)) := (keepSet (fun k => k = g) w4 g 2 _ rfl).trans (keepSet (fun k => k = g) _ g 3 _ rfl)
        refine ⟨h', ⟨⟨kv, _, 0, (set5 (set5 hg4 _).2.2.1 _).2.2.2, (HC3.out.kb.fresh HO.out.b).keep hk (fun k e hs => h5 (by rw [← HKB.out, e, hs])), HKB.out, hR.keep hk (fun hne e => hne e), by omega⟩, h5, ?_, fun k e => ?_, H8.out, h9⟩, (HC3.out.keeps.trans (Keeps.ofFresh HO.out.b)).trans (hk.mono fun k _ e => .inl e), ?_, .inl rfl⟩
        · rcases hh with rfl | e
          · exact h5
          · intro e2; have := H7.out _ e2; omega
        · have := H7.out k e; have := HO.out.b.size; simp; omega
        · rcases hh with rfl | e
          · exact .inr (.inl rfl)
          · exact .inr (.inr (by omega))
      have hg4 := ((Keeps.ofFresh (S := fun _ => False) ho.b).block g (by have := HC3.out.keeps.size; omega) (fun h => h)).trans HC3.out.blk
      obtain ⟨d0, d1, d2, d3, d4, hf2⟩ := cells5 hg4
      clear ho hg4 d0 d1 d4 HC3 HO HCL
      go_wp2
      go_end0
      exact ⟨rfl, HF.out⟩
    · have HF : Hid (InS w3 g h kb key c ys 0) := by
        refine ⟨⟨kv, _, ps + s, HC3.out.blk, HC3.out.kb, HKB.out, HC3.out.row, by have := HDL.out; omega⟩, h5, h6, fun k e => Nat.lt_of_lt_of_le (H7.out k e) HC3.out.keeps.size, H8.out, h9⟩
      have HK : Hid (Moved g h h kb kb w w3) := ⟨HC3.out.keeps, .inl rfl, .inl rfl⟩
      clear HC3
      go_wp2
      go_end0
      exact ⟨rfl, _, HF.out, HK.out⟩
  · have HC := hidden (RA.out hcs)
    go_enter Tryd.func45, Tryd.ntmps45
    go_upto_region 2 with fail
    generalize (w.setCell ⟨g, 2, none⟩ (.slice (some ⟨h, off + s, none⟩) (n - s) (cap - s))).setCell ⟨g, 3, none⟩ (.int .i64 ((ps : Int) + (s : Int))) = w2 at HC ⊢
    clear RA RB c2 c3 c4 hf
    obtain ⟨d0, d1, d2, d3, d4, hf2⟩ := cells5 HC.out.blk
    obtain ⟨m, hm⟩ : ∃ m, m = n - s := ⟨_, rfl⟩
    rw [← hm] at d2 HC HDL ⊢
    have HMM := hidden hm
    clear hm d0 d1 d4 hf2
    have d3' : w2.cell? ⟨g, 3, none⟩ = some (.int .i64 ((ps : Int) + (s : Int))) := by rw [d3]; congr 2
    clear d3
    go_wp2_with fail
    go_quiet (fail)
    have HC3 := hidden (HC.out.drewN nq)
    generalize w2.drewN nq = w3 at HC3 ⊢
    clear d2 d3' HC
    by_cases hge : (m : Int) ≤ (ps : Int) + (s : Int)
    · obtain ⟨d0, d1, d2, d3, d4, hf2⟩ := cells5 HC3.out.blk
      have HCL := hidden (clone_c _ ys w3 HC3.out.row.bsl (by have := HDL.out; omega))
      clear d0 d1 d3 d4 hf2
      go_wp2_with fail
      refine HCL.out.mono ?_
      rintro e w4 ⟨v4, rfl, ho⟩
      have HO := hidden ho
      obtain ⟨a4, c4, e4⟩ := ho.shape
      subst e4
      have HF : Hid (∃ h', InS ((w4.setCell ⟨g, 2, none⟩ (.slice a4 ys.length c4)).setCell ⟨g, 3, none⟩ (.int .i64 0)) g h' kb key c ys 0 ∧ Moved g h h' kb kb w ((w4.setCell ⟨g, 2, none⟩ (.slice a4 ys.length c4)).setCell ⟨g, 3, none⟩ (.int .i64 0))) := by
        have hs3 := HC3.out.keeps.size
        have hg4 := ((Keeps.ofFresh (S := fun _ => False) HO.out.b).block g (by omega) (fun h => h)).trans HC3.out.blk
        obtain ⟨h', hR, hh⟩ := Row.ofOwns (g := g) HO.out.row rfl (by omega)
        have hk : Keeps (fun k => k = g) w4 ((w4.setCell ⟨g, 2, none⟩ (.slice a4 ys.length c4)).setCell ⟨g, 3, none⟩ (.int .i64 0)) := (keepSet (fun k => k = g) w4 g 2 _ rfl).trans (keepSet (fun k => k = g) _ g 3 _ rfl)
        refine ⟨h', ⟨⟨kv, _, 0, (set5 (set5 hg4 _).2.2.1 _).2.2.2, (HC3.out.kb.fresh HO.out.b).keep hk (fun k e hs => h5 (by rw [← HKB.out, e, hs])), HKB.out, hR.keep hk (fun hne e => hne e), by omega⟩, h5, ?_, fun k e => ?_, H8.out, h9⟩, (HC3.out.keeps.trans (Keeps.ofFresh HO.out.b)).trans (hk.mono fun k _ e => .inl e), ?_, .inl rfl⟩
        · rcases hh with rfl | e
          · exact h5
          · intro e2; have := H7.out _ e2; omega
        · have := H7.out k e; have := HO.out.b.size; simp; omega
        · rcases hh with rfl | e
          · exact .inr (.inl rfl)
          · exact .inr (.inr (by omega))
      have hg4 := ((Keeps.ofFresh (S := fun _ => False) ho.b).block g (by have := HC3.out.keeps.size; omega) (fun h => h)).trans HC3.out.blk
      obtain ⟨d0, d1, d2, d3, d4, hf2⟩ := cells5 hg4
      clear ho hg4 d0 d1 d4 HC3 HO HCL
      go_wp2
      go_end0
      exact ⟨rfl, HF.out⟩
    · have HF : Hid (InS w3 g h kb key c ys 0) := by
        refine ⟨⟨kv, _, ps + s, HC3.out.blk, HC3.out.kb, HKB.out, HC3.out.row, by have := HDL.out; omega⟩, h5, h6, fun k e => Nat.lt_of_lt_of_le (H7.out k e) HC3.out.keeps.size, H8.out, h9⟩
      have HK : Hid (Moved g h h kb kb w w3) := ⟨HC3.out.keeps, .inl rfl, .inl rfl⟩
      clear HC3
      go_wp2
      go_end0
      exact ⟨rfl, _, HF.out, HK.out⟩
end Go.Proofs.YthkaibkmpenclaaDoor
