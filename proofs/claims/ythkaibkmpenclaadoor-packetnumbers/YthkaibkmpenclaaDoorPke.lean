/- The document's In: its state, Keys, Feed, Held and refuse. -/
import Derived.Test.YthkaibkmpenclaaDoorPk6
import Derived.Deep.CutRange
import Derived.Deep.CutBlock
namespace Go.Proofs.YthkaibkmpenclaaDoor
open Go Go.RowKit

/-- The document's In at block g. -/
structure RIn (w : World) (g : Nat) (kb bb : Option Nat) (key : List UInt8) (c : Nat) (xs : List UInt8) (why : Nat) : Prop where
  ex : ∃ kv bv, w.heap[g]? = some (.cells #[kv, .int .u64 (c : Int), bv, .int .i64 (why : Int)] 43 (0, 0)) ∧ BSl w kv key ∧ kv.ownBlock = kb ∧ (key = [] → kv = .slice none 0 0) ∧ BSl w bv xs ∧ bv.ownBlock = bb
  ne : kb ≠ some g ∧ bb ≠ some g
  lt : (∀ k, kb = some k → k < w.heap.size) ∧ ∀ k, bb = some k → k < w.heap.size
  ok : KeyOk key
  le : c ≤ 1000000
theorem RIn.keep {S : Nat → Prop} {w w' : World} {g : Nat} {kb bb : Option Nat} {key : List UInt8} {c : Nat} {xs : List UInt8} {why : Nat} (h : RIn w g kb bb key c xs why) (hk : Keeps S w w') (hg : ¬ S g) (hkb : ∀ k, kb = some k → ¬ S k) (hbb : ∀ k, bb = some k → ¬ S k) : RIn w' g kb bb key c xs why := by
  obtain ⟨⟨kv, bv, h1, h2, rfl, h3, h4, rfl⟩, h5, h6, h7, h8⟩ := h
  exact ⟨⟨kv, bv, (hk.block g (lt_of_block h1) hg).trans h1, h2.keep hk hkb, rfl, h3, h4.keep hk hbb, rfl⟩, h5, ⟨fun k e => Nat.lt_of_lt_of_le (h6.1 k e) hk.size, fun k e => Nat.lt_of_lt_of_le (h6.2 k e) hk.size⟩, h7, h8⟩
theorem RIn.fresh {w w' : World} {g : Nat} {kb bb : Option Nat} {key : List UInt8} {c : Nat} {xs : List UInt8} {why : Nat} (h : RIn w g kb bb key c xs why) (hb : Below w.heap.size w w') : RIn w' g kb bb key c xs why := h.keep (Keeps.ofFresh (S := fun _ => False) hb) (fun h => h) (fun _ _ h => h) (fun _ _ h => h)
theorem RIn.blockLt {w : World} {g : Nat} {kb bb : Option Nat} {key : List UInt8} {c : Nat} {xs : List UInt8} {why : Nat} (h : RIn w g kb bb key c xs why) : g < w.heap.size := by
  obtain ⟨⟨kv, bv, h1, _⟩, _⟩ := h
  exact lt_of_block h1
theorem rin_new (w : World) : RIn (w.alloc (.cells #[.slice none 0 0, .int .u64 0, .slice none 0 0, .int .i64 0] 43)) w.heap.size none none [] 0 [] 0 :=
  ⟨⟨_, _, heap_alloc_new w _, bsl_none _, rfl, fun _ => rfl, bsl_none _, rfl⟩, ⟨by simp, by simp⟩, ⟨by simp, by simp⟩, .inl rfl, by omega⟩
theorem cells4 {w : World} {a : Nat} {t : TypeId} {v0 v1 v2 v3 : Value} (h : w.heap[a]? = some (.cells #[v0, v1, v2, v3] t (0, 0))) :
    w.cell? ⟨a, 0, none⟩ = some v0 ∧ w.cell? ⟨a, 1, none⟩ = some v1 ∧ w.cell? ⟨a, 2, none⟩ = some v2 ∧ w.cell? ⟨a, 3, none⟩ = some v3 ∧ ∀ j, w.frozen? ⟨a, j, none⟩ = false := by
  refine ⟨?_, ?_, ?_, ?_, fun j => by simp [World.frozen?, h]⟩ <;> simp [World.cell?, h]
theorem setR4 {w : World} {a : Nat} {t : TypeId} {v0 v1 v2 v3 : Value} (h : w.heap[a]? = some (.cells #[v0, v1, v2, v3] t (0, 0))) (x : Value) :
    (w.setCell ⟨a, 0, none⟩ x).heap[a]? = some (.cells #[x, v1, v2, v3] t (0, 0)) ∧ (w.setCell ⟨a, 1, none⟩ x).heap[a]? = some (.cells #[v0, x, v2, v3] t (0, 0)) ∧ (w.setCell ⟨a, 2, none⟩ x).heap[a]? = some (.cells #[v0, v1, x, v3] t (0, 0)) ∧ (w.setCell ⟨a, 3, none⟩ x).heap[a]? = some (.cells #[v0, v1, v2, x] t (0, 0)) := by
  refine ⟨?_, ?_, ?_, ?_⟩ <;> (rw [heap_setCell_same _ _ _ _ _ _ h]; rfl)
/-- What a call of the document's In may turn, and what is new. -/
structure RMoved (g : Nat) (kb kb' bb bb' : Option Nat) (w w' : World) : Prop where
  keeps : Keeps (fun k => k = g) w w'
  key : kb' = kb ∨ ∀ k, kb' = some k → w.heap.size ≤ k
  row : bb' = bb ∨ ∀ k, bb' = some k → w.heap.size ≤ k
theorem RMoved.refl (g : Nat) (kb bb : Option Nat) (w : World) : RMoved g kb kb bb bb w w := ⟨Keeps.refl _ _, .inl rfl, .inl rfl⟩
set_option maxHeartbeats 400000 in
theorem rHeld_c (w : World) {g : Nat} {kb bb : Option Nat} {key : List UInt8} {c : Nat} {xs : List UInt8} {why : Nat} (i : RIn w g kb bb key c xs why) :
    Calls Tryd.prog 39 #[.pointer (some ⟨g, 0, none⟩)] w fun e w' => e = .returned (.int .i64 (xs.length : Nat)) ∧ w' = w := by
  obtain ⟨⟨kv, bv, h1, h2, h3, h4, h5, h6⟩, _⟩ := i
  obtain ⟨c0, c1, c2, c3, hf⟩ := cells4 h1
  obtain ⟨ao, cap, rfl⟩ := h5.len
  clear h1 h2 h3 h4 h5 c0 c1 c3
  go_enter Tryd.func39, Tryd.ntmps39
  go_wp2
  go_ret
  exact ⟨rfl, rfl⟩
set_option maxHeartbeats 400000 in
set_option maxRecDepth 100000 in
theorem rFeed_c (v : Value) (ys : List UInt8) (w : World) {g : Nat} {kb bb : Option Nat} {key : List UInt8} {c : Nat} {xs : List UInt8} (i : RIn w g kb bb key c xs 0) (hv : BSl w v ys) (hl : xs.length + ys.length ≤ 1000000) :
    Calls Tryd.prog 19 #[.pointer (some ⟨g, 0, none⟩), v] w fun e w' => e = .returned (.tuple #[]) ∧ ∃ bb', RIn w' g kb bb' key c (xs ++ ys) 0 ∧ RMoved g kb kb bb bb' w w' := by
  have hglt := i.blockLt
  obtain ⟨⟨kv, bv, h1, h2, h3, h4, h5, h6⟩, h7, h8, h9, h10⟩ := i
  obtain ⟨c0, c1, c2, c3, hf⟩ := cells4 h1
  have H1 := hidden h1
  have H2 := hidden h2
  have hba := (Below.refl w.heap.size w).alloc (Nat.le_refl _) (.cells #[] 5)
  have HSX := hidden (h5.fresh hba).src
  have HV := hidden hv
  have H3 := hidden h3
  have H4 := hidden h4
  have H8 := hidden h8
  have hc2 := cell_kept c2 hba
  obtain ⟨ab, cb, eb⟩ := h5.len
  obtain ⟨av, cv, ev⟩ := hv.len
  subst eb ev
  clear h1 h2 h3 h4 h5 h6 h8 hba hv c0 c1 hf
  go_enter Tryd.func19, Tryd.ntmps19
  go_wp2_with (at_builtin; (refine wpList_own _ rfl (.tmp 10) (.tmp 14) 22 rfl w _ [] rfl (own_nil w) _ xs rfl HSX.out (by simp; omega) ?_))
  intro v1 w1 ho1 _ _
  have HO1 := hidden ho1
  have HSY := hidden (HV.out.fresh ho1.b).src
  clear ho1
  go_wp2_with (at_builtin; (refine wpList_own _ rfl (.tmp 15) (.tmp 16) 22 rfl w _ xs rfl HO1.out _ ys rfl HSY.out (by omega) ?_))
  intro v2 w2 ho2 _ _
  have hg2 := ((Keeps.ofFresh (S := fun _ => False) ho2.b).block g hglt (fun h => h)).trans H1.out
  obtain ⟨d0, d1, d2, d3, hf2⟩ := cells4 hg2
  have hkk := keepSet (fun k => k = g) w2 g 2 v2 rfl
  have HF : Hid (RIn (w2.setCell ⟨g, 2, none⟩ v2) g kb v2.ownBlock key c (xs ++ ys) 0) := by
    refine ⟨⟨kv, v2, (setR4 hg2 v2).2.2.1, (H2.out.fresh ho2.b).keep hkk (fun k e hs => h7.1 (by rw [← H3.out, e, hs])), H3.out, H4.out, ho2.bsl.keep hkk (fun k e hs => by have := (own_ge ho2 k e).1; omega), rfl⟩, ⟨h7.1, fun e => by have := (own_ge ho2 g e).1; omega⟩, ⟨fun k e => by have := H8.out.1 k e; have := ho2.b.size; rw [World.size_setCell]; omega, fun k e => by rw [World.size_setCell]; exact (own_ge ho2 k e).2⟩, h9, h10⟩
  have HM : Hid (RMoved g kb kb bb v2.ownBlock w (w2.setCell ⟨g, 2, none⟩ v2)) := ⟨(Keeps.ofFresh ho2.b).trans hkk, .inl rfl, .inr fun k e => (own_ge ho2 k e).1⟩
  obtain ⟨a2, e2, es⟩ := ho2.shape
  generalize (xs ++ ys).length = sl at es
  subst es
  clear ho2 hg2 hkk d0 d1 d3
  go_wp2
  go_end0
  exact ⟨rfl, _, HF.out, HM.out⟩
set_option maxHeartbeats 400000 in
theorem rFeed_no (v : Value) (w : World) {g : Nat} {kb bb : Option Nat} {key : List UInt8} {c : Nat} {xs : List UInt8} {why : Nat} (hw : why ≠ 0) (i : RIn w g kb bb key c xs why) :
    Calls Tryd.prog 19 #[.pointer (some ⟨g, 0, none⟩), v] w fun e w' => e = .returned (.tuple #[]) ∧ w' = w := by
  obtain ⟨⟨kv, bv, h1, _⟩, _⟩ := i
  obtain ⟨c0, c1, c2, c3, hf⟩ := cells4 h1
  have hw2 : ((why : Int) == 0) = false := by simpa using hw
  clear h1 c0 c1 c2
  go_enter Tryd.func19, Tryd.ntmps19
  go_wp2
  go_end0
  exact ⟨rfl, rfl⟩
set_option maxHeartbeats 400000 in
set_option maxRecDepth 100000 in
theorem rInKeys_c (v : Value) (ks : List UInt8) (w : World) {g : Nat} {kb bb : Option Nat} {key : List UInt8} {c : Nat} {xs : List UInt8} (i : RIn w g kb bb key c xs 0) (hv : BSl w v ks) (hl : ks.length = 32) :
    Calls Tryd.prog 17 #[.pointer (some ⟨g, 0, none⟩), v] w fun e w' => e = .returned (.int .i64 0) ∧ ∃ kb', RIn w' g kb' bb ks c xs 0 ∧ RMoved g kb kb' bb bb w w' := by
  have hglt := i.blockLt
  obtain ⟨⟨kv, bv, h1, h2, h3, h4, h5, h6⟩, h7, h8, h9, h10⟩ := i
  obtain ⟨c0, c1, c2, c3, hf⟩ := cells4 h1
  have H1 := hidden h1
  have H5 := hidden h5
  have H6 := hidden h6
  have H8 := hidden h8
  have HL := hidden hl
  have HS := hidden ((hv.alloc (.cells #[] 5)).src)
  obtain ⟨av, cv, rfl⟩ := hv.len
  rw [hl] at HS ⊢
  clear h1 h2 h3 h4 h5 h6 h8 h9 hv hl c0 c1 c2 hf
  go_enter Tryd.func17, Tryd.ntmps17
  go_wp2_with (at_builtin; (refine wpList_own _ rfl (.tmp 14) (.tmp 15) 22 rfl w _ [] rfl (own_nil w) _ ks rfl (by rw [HL.out]; exact HS.out) (by have := HL.out; simp; omega) ?_))
  intro v4 w1 ho _ _
  have hg1 := ((Keeps.ofFresh (S := fun _ => False) ho.b).block g hglt (fun h => h)).trans H1.out
  obtain ⟨d0, d1, d2, d3, hf2⟩ := cells4 hg1
  have hkk := keepSet (fun k => k = g) w1 g 0 v4 rfl
  have HF : Hid (RIn (w1.setCell ⟨g, 0, none⟩ v4) g v4.ownBlock bb ks c xs 0) := by
    refine ⟨⟨v4, bv, (setR4 hg1 v4).1, ho.bsl.keep hkk (fun k e hs => by have := (own_ge ho k e).1; omega), rfl, fun e => ?_, (H5.out.fresh ho.b).keep hkk (fun k e hs => h7.2 (by rw [← H6.out, e, hs])), H6.out⟩, ⟨fun e => by have := (own_ge ho g e).1; omega, h7.2⟩, ⟨fun k e => by rw [World.size_setCell]; exact (own_ge ho k e).2, fun k e => by have := H8.out.2 k e; have := ho.b.size; rw [World.size_setCell]; omega⟩, .inr HL.out, h10⟩
    have := HL.out
    rw [e] at this
    simp at this
  have HM : Hid (RMoved g kb v4.ownBlock bb bb w (w1.setCell ⟨g, 0, none⟩ v4)) := ⟨(Keeps.ofFresh ho.b).trans hkk, .inr fun k e => (own_ge ho k e).1, .inl rfl⟩
  obtain ⟨a4, e4, es⟩ := ho.shape
  generalize ks.length = sl at es
  subst es
  clear ho hg1 hkk d1 d2 d3
  go_wp2
  go_ret
  exact ⟨rfl, _, HF.out, HM.out⟩
set_option maxHeartbeats 400000 in
theorem refuse8_c (y : Nat) (w : World) {g : Nat} {kb bb : Option Nat} {key : List UInt8} {c : Nat} {xs : List UInt8} {why : Nat} (i : RIn w g kb bb key c xs why) :
    Calls Tryd.prog 55 #[.pointer (some ⟨g, 0, none⟩), .int .i64 (y : Int)] w fun e w' => e = .returned (.tuple #[.slice none 0 0, .bool false, .int .i64 (y : Int)]) ∧ RIn w' g kb none key c [] y ∧ RMoved g kb kb bb none w w' := by
  obtain ⟨⟨kv, bv, h1, h2, h3, h4, h5, h6⟩, h7, h8, h9, h10⟩ := i
  obtain ⟨c0, c1, c2, c3, hf⟩ := cells4 h1
  have hk : Keeps (fun k => k = g) w ((w.setCell ⟨g, 3, none⟩ (.int .i64 (y : Int))).setCell ⟨g, 2, none⟩ (.slice none 0 0)) := (keepSet (fun k => k = g) w g 3 _ rfl).trans (keepSet (fun k => k = g) _ g 2 _ rfl)
  have HF : Hid (RIn ((w.setCell ⟨g, 3, none⟩ (.int .i64 (y : Int))).setCell ⟨g, 2, none⟩ (.slice none 0 0)) g kb none key c [] y) := by
    refine ⟨⟨kv, _, (setR4 (setR4 h1 _).2.2.2 _).2.2.1, h2.keep hk (fun k e hs => h7.1 (by rw [← h3, e, hs])), h3, h4, bsl_none _, rfl⟩, ⟨h7.1, by simp⟩, ⟨fun k e => by have := h8.1 k e; simp; omega, by simp⟩, h9, h10⟩
  have HM : Hid (RMoved g kb kb bb none w ((w.setCell ⟨g, 3, none⟩ (.int .i64 (y : Int))).setCell ⟨g, 2, none⟩ (.slice none 0 0))) := ⟨hk, .inl rfl, .inr (by simp)⟩
  clear h1 h2 h3 h4 h5 h6 h8 hk c0 c1
  go_enter Tryd.func55, Tryd.ntmps55
  go_wp2
  go_ret3
  exact ⟨rfl, HF.out, HM.out⟩

/-- What the document's Next tells, and what it leaves. -/
def RNTold (w : World) (g : Nat) (kb bb : Option Nat) (key : List UInt8) (c : Nat) (xs : List UInt8) (r : Nx) (e : Ending) (w' : World) : Prop :=
  match r with
  | .short => e = .returned (.tuple #[.slice none 0 0, .bool false, .int .i64 0]) ∧ RIn w' g kb bb key c xs 0 ∧ RMoved g kb kb bb bb w w'
  | .bad why => e = .returned (.tuple #[.slice none 0 0, .bool false, .int .i64 (why : Int)]) ∧ RIn w' g kb none key c [] why ∧ RMoved g kb kb bb none w w'
  | .told p rest => ∃ v bb', e = .returned (.tuple #[v, .bool true, .int .i64 0]) ∧ BSl w' v p ∧ RIn w' g kb bb' key (c + 1) rest 0 ∧ RMoved g kb kb bb bb' w w'
set_option maxHeartbeats 800000 in
set_option maxRecDepth 100000 in
theorem rNext_no (w : World) {g : Nat} {kb bb : Option Nat} {key : List UInt8} {c : Nat} {xs : List UInt8} {why : Nat} (hw : why ≠ 0) (i : RIn w g kb bb key c xs why) :
    Calls Tryd.prog 38 #[.pointer (some ⟨g, 0, none⟩)] w fun e w' => e = .returned (.tuple #[.slice none 0 0, .bool false, .int .i64 (why : Int)]) ∧ RIn w' g kb bb key c xs why ∧ RMoved g kb kb bb bb w w' := by
  have HI := hidden i
  obtain ⟨⟨kv, bv, h1, h2, h3, h4, h5, h6⟩, h7, h8, h9, h10⟩ := i
  obtain ⟨c0, c1, c2, c3, hf⟩ := cells4 h1
  have hw2 : ((why : Int) == 0) = false := by simpa using hw
  have hw3 : ((why : Int) != 0) = true := by simpa using hw
  clear h1 h2 h3 h4 h5 h6 h8 c0 c1 c2
  go_enter Tryd.func38, Tryd.ntmps38
  go_wp2_with fail
  go_quiet (fail)
  go_wp2
  go_ret3
  exact ⟨rfl, HI.out.fresh (below_drewN (Below.refl _ w) nq), (Keeps.refl _ w).drewN nq, .inl rfl, .inl rfl⟩
set_option maxHeartbeats 800000 in
set_option maxRecDepth 100000 in
theorem rNext_s1 (w : World) {g : Nat} {kb bb : Option Nat} {key : List UInt8} {c : Nat} {xs : List UInt8} (i : RIn w g kb bb key c xs 0) (h4x : xs.length < 4) :
    Calls Tryd.prog 38 #[.pointer (some ⟨g, 0, none⟩)] w fun e w' => RNTold w g kb bb key c xs .short e w' := by
  have HI := hidden i
  have HMV := hidden (RMoved.refl g kb bb w)
  obtain ⟨⟨kv, bv, h1, h2, h3, h4, h5, h6⟩, h7, h8, h9, h10⟩ := i
  obtain ⟨c0, c1, c2, c3, hf⟩ := cells4 h1
  obtain ⟨ab, cb, rfl⟩ := h5.len
  have hlt : (xs.length : Int) < 4 := by omega
  simp only [RNTold]
  clear h1 h2 h3 h4 h5 h6 h8 c0 c1 h4x
  go_enter Tryd.func38, Tryd.ntmps38
  go_wp2
  go_ret3
  exact ⟨rfl, HI.out, HMV.out⟩
theorem i64_or_nat (a b : Nat) (ha : a < 4611686018427387904) (hb : b < 4611686018427387904) : bits .or .i64 (a : Int) (b : Int) = ((a ||| b : Nat) : Int) := by
  have hx : a ||| b < 2 ^ 62 := Nat.or_lt_two_pow (by omega) (by omega)
  show IntKind.i64.wrap ((BitVec.ofInt 64 (a : Int) ||| BitVec.ofInt 64 (b : Int)).toNat : Int) = _
  rw [BitVec.toNat_or, ofInt_u64 a (by omega), ofInt_u64 b (by omega), IntKind.wrap_i64]
  omega
theorem or_sum (m k : Nat) (i : Nat) (hk : k < 2 ^ i) : (m * 2 ^ i) ||| k = m * 2 ^ i + k := by
  have := Nat.shiftLeft_add_eq_or_of_lt (i := i) (b := k) hk m
  rw [Nat.shiftLeft_eq] at this
  exact this.symm
theorem or4 (a b c d : Nat) (ha : a < 256) (hb : b < 256) (hc : c < 256) (hd : d < 256) : bits BinOp.or IntKind.i64 (bits BinOp.or IntKind.i64 (bits BinOp.or IntKind.i64 ((a : Int) * 16777216) ((b : Int) * 65536)) ((c : Int) * 256)) (d : Int) = ((a * 16777216 + b * 65536 + c * 256 + d : Nat) : Int) := by
  rw [show (a : Int) * 16777216 = ((a * 16777216 : Nat) : Int) by omega, show (b : Int) * 65536 = ((b * 65536 : Nat) : Int) by omega, show (c : Int) * 256 = ((c * 256 : Nat) : Int) by omega]
  have e1 : (a * 16777216) ||| (b * 65536) = a * 16777216 + b * 65536 := or_sum a (b * 65536) 24 (by omega)
  rw [i64_or_nat _ _ (by omega) (by omega), e1]
  have e2 : (a * 16777216 + b * 65536) ||| (c * 256) = a * 16777216 + b * 65536 + c * 256 := by
    have := or_sum (a * 256 + b) (c * 256) 16 (by omega)
    rw [show (a * 256 + b) * 2 ^ 16 = a * 16777216 + b * 65536 by omega] at this
    exact this
  rw [i64_or_nat _ _ (by omega) (by omega), e2]
  have e3 : (a * 16777216 + b * 65536 + c * 256) ||| d = a * 16777216 + b * 65536 + c * 256 + d := by
    have := or_sum (a * 65536 + b * 256 + c) d 8 (by omega)
    rw [show (a * 65536 + b * 256 + c) * 2 ^ 8 = a * 16777216 + b * 65536 + c * 256 by omega] at this
    exact this
  rw [i64_or_nat _ _ (by omega) (by omega), e3]
theorem lenOf4 (xs : List UInt8) (h : 4 ≤ xs.length) : lenOf xs = (xs.getD 0 0).toNat * 16777216 + (xs.getD 1 0).toNat * 65536 + (xs.getD 2 0).toNat * 256 + (xs.getD 3 0).toNat := by
  match xs, h with
  | a :: b :: c :: d :: r, _ =>
    simp only [lenOf, val, List.take_succ_cons, List.take_zero, List.foldl_cons, List.foldl_nil, List.getD_cons_zero, List.getD_cons_succ]
    omega
theorem openE_cases {key : List UInt8} (hk : KeyOk key) (hne : key ≠ []) (c : Nat) (a b : List UInt8) (hb : 16 ≤ b.length) (h : openE key (nonceL c) a b ≠ 0) : openE key (nonceL c) a b = 14 := by
  rw [openE, if_pos (hk.sizes hne c), if_neg (by omega)] at h ⊢
  split at h
  · exact absurd rfl h
  · rw [if_neg (by assumption)]
theorem run_tail (b o n cap l : Nat) (h1 : l ≤ n) (w : World) : (Instr.sliceAt 22 (.slice (some ⟨b, o, none⟩) n cap) (some (.int .i64 (l : Int))) none none).run Tryd.prog w = .ok (.slice (some (if cap = l then ⟨b, o, none⟩ else ⟨b, o + l, none⟩)) (n - l) (cap - l)) w := by
  obtain ⟨i0, hi, hz0, hz1, hz2⟩ := info_parts Tryd.infoU8
  rw [run_sliceAt_slice w _ _ _ _ _ elemU8, run_slice_l w _ _ _ _ elemU8 _ _ (by omega) (by omega), elemEq]
  by_cases e : cap = l
  · simp [sizeOf, typeInfo, hi, hz1, sliced, e]
  · simp [sizeOf, typeInfo, hi, hz1, sliced, add_lit', e]
section
variable {o : Oper} {ρ : Operand → Value} {w : World} {x : Operand} {v : Value} {Φ : Value → World → Prop}
theorem gives_fieldN0 {g : Nat} (ho : o.op = .fieldAddr 43 x 0) (hx : ρ x = .pointer (some ⟨g, 0, none⟩)) (h : Φ (.pointer (some ⟨g, 0, none⟩)) w) : Gives Tryd.prog o ρ w Φ := by
  refine Gives.value (w' := w) (v := .pointer (some ⟨g, 0, none⟩)) ?_ h
  unfold execOp
  simp only [ho]
  rw [hx]
  kernel_rfl
theorem gives_fieldN1 {g : Nat} (ho : o.op = .fieldAddr 43 x 1) (hx : ρ x = .pointer (some ⟨g, 0, none⟩)) (h : Φ (.pointer (some ⟨g, 1, none⟩)) w) : Gives Tryd.prog o ρ w Φ := by
  refine Gives.value (w' := w) (v := .pointer (some ⟨g, 1, none⟩)) ?_ h
  unfold execOp
  simp only [ho]
  rw [hx]
  kernel_rfl
theorem gives_fieldN2 {g : Nat} (ho : o.op = .fieldAddr 43 x 2) (hx : ρ x = .pointer (some ⟨g, 0, none⟩)) (h : Φ (.pointer (some ⟨g, 2, none⟩)) w) : Gives Tryd.prog o ρ w Φ := by
  refine Gives.value (w' := w) (v := .pointer (some ⟨g, 2, none⟩)) ?_ h
  unfold execOp
  simp only [ho]
  rw [hx]
  kernel_rfl
end
theorem run_front (b o n m cap : Nat) (hm : m ≤ cap) (w : World) : (Instr.sliceAt 22 (.slice (some ⟨b, o, none⟩) n cap) none (some (.int .i64 (m : Int))) none).run Tryd.prog w = .ok (.slice (some ⟨b, o, none⟩) m cap) w := by
  obtain ⟨i0, hi, hz0, hz1, hz2⟩ := info_parts Tryd.infoU8
  rw [run_sliceAt_slice w _ _ _ _ _ elemU8, run_slice_h w _ _ _ _ elemU8 _ _ (by omega) (by omega), elemEq]
  by_cases e : cap = 0
  · simp [sizeOf, typeInfo, hi, hz1, sliced, e]
  · simp [sizeOf, typeInfo, hi, hz1, sliced, add_lit', e]
set_option maxHeartbeats 3200000 in
set_option maxRecDepth 100000 in
theorem rNext_c (w : World) {g : Nat} {kb bb : Option Nat} {key : List UInt8} {c : Nat} {xs : List UInt8} (i : RIn w g kb bb key c xs 0) (hl : xs.length ≤ 9500) (hc : c + 1 ≤ 1000000) :
    Calls Tryd.prog 38 #[.pointer (some ⟨g, 0, none⟩)] w fun e w' => RNTold w g kb bb key c xs (nextR key c xs) e w' := by
  by_cases h4x' : xs.length < 4
  · rw [nextR, if_pos h4x']; exact rNext_s1 w i h4x'
  obtain ⟨R, hR⟩ : ∃ R, R = nextR key c xs := ⟨_, rfl⟩
  rw [← hR]
  rw [nextR, if_neg h4x'] at hR
  have h4x : 4 ≤ xs.length := by omega
  have HI := hidden i
  obtain ⟨⟨kv, bv, h1, h2, h3, h4, h5, h6⟩, h7, h8, h9, h10⟩ := i
  obtain ⟨c0, c1, c2, c3, hf⟩ := cells4 h1
  have hne : xs ≠ [] := by intro e; rw [e] at h4x; simp at h4x
  obtain ⟨b, o, cap, eb, _⟩ := h5.nonnil hne
  subst eb
  have q0 := h5.cellD 0 (by omega)
  have q1 := h5.cellD 1 (by omega)
  have q2 := h5.cellD 2 (by omega)
  have q3 := h5.cellD 3 (by omega)
  rw [Nat.add_zero] at q0
  have l0 := (xs.getD 0 0).toNat_lt
  have l1 := (xs.getD 1 0).toNat_lt
  have l2 := (xs.getD 2 0).toNat_lt
  have l3 := (xs.getD 3 0).toNat_lt
  have hLL := lenOf4 xs h4x
  have hor := or4 _ _ _ _ l0 l1 l2 l3
  rw [← hLL] at hor
  generalize (xs.getD 0 0).toNat = y0 at q0 l0 hor hLL
  generalize (xs.getD 1 0).toNat = y1 at q1 l1 hor hLL
  generalize (xs.getD 2 0).toNat = y2 at q2 l2 hor hLL
  generalize (xs.getD 3 0).toNat = y3 at q3 l3 hor hLL
  have m0 : (y0 : Int) ≤ 255 := by omega
  have m1 : (y1 : Int) ≤ 255 := by omega
  have m2 : (y2 : Int) ≤ 255 := by omega
  have m3 : (y3 : Int) ≤ 255 := by omega
  obtain ⟨n, hn⟩ : ∃ n, n = xs.length := ⟨_, rfl⟩
  have HNX := hidden hn
  have HBV := hidden h5
  rw [← hn] at c2 HBV hl h4x
  have hcap : n ≤ cap ∧ cap ≤ maxLen := by
    obtain ⟨a9, c9, e9, k1, k2, _⟩ := h5
    cases e9
    exact ⟨by omega, k2⟩
  obtain ⟨hcap1, hcap2⟩ := hcap
  unfold maxLen at hcap2
  have hn4 : ¬ (n : Int) < 4 := by omega
  have hn0 : (0 : Int) < (n : Int) := by omega
  have hn1 : (1 : Int) < (n : Int) := by omega
  have hn2 : (2 : Int) < (n : Int) := by omega
  have hn3 : (3 : Int) < (n : Int) := by omega
  have HKB := hidden h2
  have HK4 := hidden h4
  have hL32 : lenOf xs ≤ 4294967295 := by omega
  obtain ⟨L, hLe⟩ : ∃ L, L = lenOf xs := ⟨_, rfl⟩
  rw [← hLe] at hor hL32 hR
  have HR := hidden hR
  clear hR
  have HLL : Hid (lenOf xs = L) := hLe.symm
  have hLi : (L : Int) ≤ 4294967295 := Int.ofNat_le.2 hL32
  clear h1 h2 h3 h4 h5 h6 h8 l0 l1 l2 l3 hLL hLe hn h4x'
  go_enter Tryd.func38, Tryd.ntmps38
  go_upto_region 5 with fail
  go_quiet (fail)
  have hdn := below_drewN (Below.refl w.heap.size w) nq
  have HI2 := hidden (HI.out.fresh hdn)
  have HBV2 := hidden (HBV.out.fresh hdn)
  have HKB2 := hidden (HKB.out.fresh hdn)
  have HC0 := hidden (cell_kept c0 hdn)
  have HC1 := hidden (cell_kept c1 hdn)
  have HC2 := hidden (cell_kept c2 hdn)
  have HMV : Hid (RMoved g kb kb bb bb w (w.drewN nq)) := ⟨(Keeps.refl _ w).drewN nq, .inl rfl, .inl rfl⟩
  have HDN := hidden hdn
  generalize w.drewN nq = w2 at HI2 HBV2 HKB2 HC0 HC1 HC2 HMV HDN ⊢
  clear hdn c0 c1 c2 c3 hf q0 q1 q2 q3 HI HBV HKB hor m0 m1 m2 m3
  obtain ⟨H, hHe⟩ : ∃ H, H = hdN key := ⟨_, rfl⟩
  obtain ⟨T, hTe⟩ : ∃ T, T = tagN key := ⟨_, rfl⟩
  have HTT : Hid (tagN key = T) := hTe.symm
  have hT16 : T ≤ 16 := by rw [hTe]; unfold tagN; split <;> omega
  have hH4 : H ≤ 4 := by rw [hHe]; unfold hdN; split <;> omega
  have HHE := hidden hHe
  have HTE := hidden hTe
  clear hHe hTe
  go_upto_region 7 with fail
  go_cut [66] from 62 to 66 (fun bv wx => bv = .bool (decide (key ≠ [])) ∧ wx = w2)
  case first =>
    have hc0 := HC0.out
    by_cases hk : key = []
    · obtain rfl : kv = .slice none 0 0 := HK4.out hk
      have hnn : ∀ wx : World, (binOp .neq 22 (.slice none 0 0) (.slice none 0 0)).run Tryd.prog wx = .ok (.bool false) wx := fun wx => ne_nil wx none 0 0
      have HD : Hid (decide (key ≠ []) = false) := by show _ = _; simpa using hk
      clear hk
      go_wp2_with fail
      go_meet
      case rel => exact ⟨by rw [HD.out], rfl⟩
    · obtain ⟨bk, ok_, ck, hkv, _⟩ := HKB2.out.nonnil hk
      subst hkv
      generalize key.length = kl at hc0
      have hnn : ∀ wx : World, (binOp .neq 22 (.slice (some ⟨bk, ok_, none⟩) kl ck) (.slice none 0 0)).run Tryd.prog wx = .ok (.bool true) wx := fun wx => ne_nil wx (some ⟨bk, ok_, none⟩) kl ck
      have HD : Hid (decide (key ≠ []) = true) := by show _ = _; simpa using hk
      clear hk HC0 HKB2 HK4
      go_wp2_with fail
      go_meet
      case rel => exact ⟨by rw [HD.out], rfl⟩
  case rest =>
  obtain ⟨hbv, hwc⟩ := hcut
  subst hbv hwc
  obtain ⟨w2, ew2⟩ : ∃ x, x = wc := ⟨_, rfl⟩
  subst ew2
  go_upto_if 66 with fail
  go_cut [6, 7] from 62 to 66 (fun hv tv wx => hv = .int .i64 (H : Int) ∧ tv = .int .i64 (T : Int) ∧ wx = w2)
  case first =>
    by_cases hk : key = []
    · have HD : Hid (decide (key ≠ []) = false) := by show _ = _; simpa using hk
      have eH : H = 4 := by rw [HHE.out, hdN, if_pos hk]
      have eT : T = 0 := by rw [HTE.out, tagN, if_pos hk]
      rw [HD.out]
      have HEH := hidden eH
      have HET := hidden eT
      clear hk eH eT
      go_wp2_with fail
      go_meet
      case rel => exact ⟨by rw [HEH.out]; rfl, by rw [HET.out]; rfl, rfl⟩
    · have HD : Hid (decide (key ≠ []) = true) := by show _ = _; simpa using hk
      have eH : H = 0 := by rw [HHE.out, hdN, if_neg hk]
      have eT : T = 16 := by rw [HTE.out, tagN, if_neg hk]
      rw [HD.out]
      have HEH := hidden eH
      have HET := hidden eT
      clear hk eH eT
      go_wp2_with fail
      go_meet
      case rel => exact ⟨by rw [HEH.out]; rfl, by rw [HET.out]; rfl, rfl⟩
  case rest =>
  obtain ⟨hhv, htv, hwc⟩ := hcut
  subst hhv htv hwc
  obtain ⟨w2, ew2⟩ : ∃ x, x = wc := ⟨_, rfl⟩
  subst ew2
  have hTi : (T : Int) ≤ 16 := by omega
  have hHi : (H : Int) ≤ 4 := by omega
  have HLN : Hid (lenE key L = if 35000 < L then 3 else if L < 6 ∨ (H + L) % 8 ≠ 0 then 12 else 0) := by show _ = _; rw [lenE, HHE.out]
  by_cases h35 : 35000 < L
  · have h35' : (35000 : Int) < (L : Int) := by omega
    have hr := HR.out
    rw [show lenE key L = 3 by rw [HLN.out, if_pos h35], if_pos (by omega)] at hr
    have HR3 := hidden hr
    clear h35 HLN hr
    go_wp2_with fail
    refine (refuse8_c 3 w2 HI2.out).mono ?_
    rintro e w3 ⟨rfl, hi3, hm3⟩
    have HF : Hid (RNTold w g kb bb key c xs R (.returned (.tuple #[.slice none 0 0, .bool false, .int .i64 3])) w3) := by
      rw [HR3.out]
      exact ⟨rfl, hi3, HMV.out.keeps.trans hm3.keeps, .inl rfl, .inr (by simp)⟩
    clear hi3 hm3
    go_wp2
    go_ret3
    exact HF.out
  have h35' : ¬ (35000 : Int) < (L : Int) := by omega
  have hL35 : (L : Int) ≤ 35000 := by omega
  by_cases h6 : L < 6 ∨ (H + L) % 8 ≠ 0
  · have hr := HR.out
    rw [show lenE key L = 12 by rw [HLN.out, if_neg h35, if_pos h6], if_pos (by omega)] at hr
    have HR3 := hidden hr
    clear hr
    have HRF := hidden (refuse8_c 12 w2 HI2.out)
    by_cases hL6 : L < 6
    · have hL6' : (L : Int) < 6 := by omega
      clear h6 HLN h35
      go_wp2_with fail
      refine HRF.out.mono ?_
      rintro e w3 ⟨rfl, hi3, hm3⟩
      have HF : Hid (RNTold w g kb bb key c xs R (.returned (.tuple #[.slice none 0 0, .bool false, .int .i64 12])) w3) := by
        rw [HR3.out]
        exact ⟨rfl, hi3, HMV.out.keeps.trans hm3.keeps, .inl rfl, .inr (by simp)⟩
      clear hi3 hm3
      go_wp2
      go_ret3
      exact HF.out
    · have hL6' : ¬ (L : Int) < 6 := by omega
      have h8 := h6.resolve_left hL6
      have h8' : (((L : Int) + (H : Int)) % 8 != 0) = true := by simp; omega
      clear h6 HLN h35 h8
      go_wp2_with fail
      refine HRF.out.mono ?_
      rintro e w3 ⟨rfl, hi3, hm3⟩
      have HF : Hid (RNTold w g kb bb key c xs R (.returned (.tuple #[.slice none 0 0, .bool false, .int .i64 12])) w3) := by
        rw [HR3.out]
        exact ⟨rfl, hi3, HMV.out.keeps.trans hm3.keeps, .inl rfl, .inr (by simp)⟩
      clear hi3 hm3
      go_wp2
      go_ret3
      exact HF.out
  have hE0 : lenE key L = 0 := by rw [HLN.out, if_neg h35, if_neg h6]
  have hr := HR.out
  rw [hE0, if_neg (by simp), HTT.out] at hr
  have hL6 : 6 ≤ L := by omega
  have hL6' : ¬ (L : Int) < 6 := by omega
  have h8' : (((L : Int) + (H : Int)) % 8 != 0) = false := by simp; omega
  obtain ⟨sz, hsze⟩ : ∃ sz, sz = 4 + L + T := ⟨_, rfl⟩
  have HSZ : Hid (4 + L + T = sz) := hsze.symm
  have hszi : 4 + (L : Int) + (T : Int) = (sz : Int) := by omega
  rw [← hsze, ← HNX.out] at hr
  clear h6 HLN h35 HR
  by_cases hsh : n < sz
  · have hsh' : (n : Int) < (sz : Int) := by omega
    rw [if_pos hsh] at hr
    have HF : Hid (RNTold w g kb bb key c xs R (.returned (.tuple #[.slice none 0 0, .bool false, .int .i64 0])) w2) := by
      rw [hr]
      exact ⟨rfl, HI2.out, HMV.out⟩
    have hc2 := HC2.out
    have hszb : (sz : Int) ≤ 40000 := by omega
    clear hsh hsze hr
    go_wp2
    go_ret3
    exact HF.out
  have hsh' : ¬ (n : Int) < (sz : Int) := by omega
  rw [if_neg hsh] at hr
  have HR3 := hidden hr
  have hszb : (sz : Int) ≤ 40000 := by omega
  have hsz4 : (4 : Int) ≤ (sz : Int) := by omega
  have hszc : (sz : Int) ≤ (cap : Int) := by omega
  have hcap4 : ¬ cap = 4 := by omega
  have hLT : sz - 4 = L + T := by omega
  clear hr hsze hsh
  have HPC : Hid (BSl w2 (.slice (some ⟨b, o + 4, none⟩) (L + T) (cap - 4)) (bodyAt key xs)) := by
    have := HBV2.out.part (i := 4) (j := L + T) (by omega)
    rw [bodyAt, HLL.out, HTT.out]
    exact this
  have hc2 := HC2.out
  go_upto_region 16 with fail
  clear hc2
  by_cases hk : key = []
  · obtain rfl : kv = .slice none 0 0 := HK4.out hk
    have hnn : ∀ wx : World, (binOp .neq 22 (.slice none 0 0) (.slice none 0 0)).run Tryd.prog wx = .ok (.bool false) wx := fun wx => ne_nil wx none 0 0
    have hc0 := HC0.out
    have eT : T = 0 := by rw [HTE.out, tagN, if_pos hk]
    have HRB : Hid (R = if payE (bodyAt key xs) ≠ 0 then .bad (payE (bodyAt key xs)) else .told (payL (bodyAt key xs)) (restAt key xs)) := by
      have h1 := HR3.out
      rw [show openedE key c xs = 0 by rw [openedE, if_pos hk], if_neg (by simp), show openedT key c xs = bodyAt key xs by rw [openedT, if_pos hk]] at h1
      exact h1
    have HIB := HI2
    have HMB := HMV
    have HBB : Hid (Below w2.heap.size w2 w2) := Below.refl _ _
    obtain ⟨m2, hm2⟩ : ∃ m2, m2 = L + T := ⟨_, rfl⟩
    rw [← hm2] at HPC ⊢
    have HBO := HPC
    have HM2 : Hid ((bodyAt key xs).length = m2) := by
      obtain ⟨_, _, e⟩ := HPC.out.len
      injection e with _ e
      exact e.symm
    have hB6 : 6 ≤ m2 := by omega
    have hB9 : m2 ≤ 9500 := by omega
    obtain ⟨b2, hb2⟩ : ∃ x, x = b := ⟨_, rfl⟩
    obtain ⟨o2, ho2⟩ : ∃ x, x = o + 4 := ⟨_, rfl⟩
    obtain ⟨cB, hcB⟩ : ∃ x, x = cap - 4 := ⟨_, rfl⟩
    rw [← ho2, ← hcB] at HBO
    rw [show (Value.slice (some ⟨b, o + 4, none⟩) m2 (cap - 4)) = .slice (some ⟨b2, o2, none⟩) m2 cB by rw [hb2, ho2, hcB]]
    rw [← hb2] at HBO
    have hcB1 : m2 ≤ cB := by omega
    have hcB2 : cB ≤ 9223372036854775807 := by omega
    generalize bodyAt key xs = B at HRB HBO HM2
    obtain ⟨wB, ewB⟩ : ∃ x, x = w2 := ⟨_, rfl⟩
    rw [← ewB] at HIB HMB HBO hc0 ⊢
    rw [show Below w2.heap.size w2 w2 = Below w2.heap.size w2 wB by rw [ewB]] at HBB
    clear hm2 hb2 ho2 hcB hk eT HR3 HPC ewB
    go_upto_region 21 with fail
    have hqc := HBO.out.cellD 0 (by have := HM2.out; omega)
    rw [Nat.add_zero] at hqc
    have hq255 := (B.getD 0 0).toNat_lt
    have HPE : Hid (payE B = if (B.getD 0 0).toNat < 4 ∨ m2 ≤ 1 + (B.getD 0 0).toNat then 12 else 0) := by show _ = _; rw [payE, HM2.out]
    have HPLL : Hid (payL B = (B.drop 1).take (m2 - (B.getD 0 0).toNat - 1)) := by show _ = _; rw [payL, HM2.out]
    generalize (B.getD 0 0).toNat = q at hqc hq255 HPE HPLL
    have hq2 : (q : Int) ≤ 255 := by omega
    have hm20 : (0 : Int) < (m2 : Int) := by omega
    by_cases hpq : q < 4 ∨ m2 ≤ 1 + q
    · have HRT : Hid (R = .bad 12) := by
        have h1 := HPE.out
        rw [if_pos hpq] at h1
        have h2 := HRB.out
        rw [h1, if_pos (by omega)] at h2
        exact h2
      have HRF := hidden (refuse8_c 12 wB HIB.out)
      by_cases hq4 : q < 4
      · have hq4' : (q : Int) < 4 := by omega
        clear hpq HPE HPLL hq4
        go_wp2_with fail
        refine HRF.out.mono ?_
        rintro e w3 ⟨rfl, hi3, hm3⟩
        have HF : Hid (RNTold w g kb bb key c xs R (.returned (.tuple #[.slice none 0 0, .bool false, .int .i64 12])) w3) := by
          rw [HRT.out]
          exact ⟨rfl, hi3, HMB.out.keeps.trans hm3.keeps, .inl rfl, .inr (by simp)⟩
        clear hi3 hm3
        go_wp2
        go_ret3
        exact HF.out
      · have hq4' : ¬ (q : Int) < 4 := by omega
        have hq5 : (m2 : Int) ≤ 1 + (q : Int) := by omega
        clear hpq HPE HPLL hq4
        go_wp2_with fail
        refine HRF.out.mono ?_
        rintro e w3 ⟨rfl, hi3, hm3⟩
        have HF : Hid (RNTold w g kb bb key c xs R (.returned (.tuple #[.slice none 0 0, .bool false, .int .i64 12])) w3) := by
          rw [HRT.out]
          exact ⟨rfl, hi3, HMB.out.keeps.trans hm3.keeps, .inl rfl, .inr (by simp)⟩
        clear hi3 hm3
        go_wp2
        go_ret3
        exact HF.out
    have HRT : Hid (R = .told (payL B) (restAt key xs)) := by
      have h1 := HPE.out
      rw [if_neg hpq] at h1
      have h2 := HRB.out
      rw [h1, if_neg (by simp)] at h2
      exact h2
    have hq4 : ¬ (q : Int) < 4 := by omega
    have hq5 : ¬ (m2 : Int) ≤ 1 + (q : Int) := by omega
    obtain ⟨e1, he1⟩ : ∃ e1, e1 = m2 - q := ⟨_, rfl⟩
    have hq6 : (m2 : Int) - (q : Int) = (e1 : Int) := by omega
    have hq7 : (1 : Int) ≤ (e1 : Int) := by omega
    have hq8 : (e1 : Int) ≤ (cB : Int) := by omega
    have hq9 : ¬ cB = 1 := by omega
    have HPP : Hid (BSl wB (.slice (some ⟨b2, o2 + 1, none⟩) (e1 - 1) (cB - 1)) (payL B)) := by
      have := HBO.out.part (i := 1) (j := e1 - 1) (by omega)
      rw [HPLL.out, ← he1]
      exact this
    have HPZ : Hid ((payL B).length = e1 - 1) := by
      obtain ⟨_, _, e⟩ := HPP.out.len
      injection e with _ e
      exact e.symm
    have hsrp := (HPP.out.alloc (.cells #[] 5)).src
    rw [HPZ.out] at hsrp
    have HSRP := hidden hsrp
    obtain ⟨⟨kv9, bv9, g1, g2, g3, g4, g5, g6⟩, g7, g8, g9, g10⟩ := id HIB.out
    have hbv9 : bv9 = .slice (some ⟨b, o, none⟩) n cap := by
      have e1 := (cells4 g1).2.2.1
      rw [cell_kept HC2.out HBB.out] at e1
      injection e1 with e1
      exact e1.symm
    subst hbv9
    have hglt := lt_of_block g1
    obtain ⟨d0, d1, d2, d3, hf9⟩ := cells4 g1
    have HG1 := hidden g1
    have HG2 := hidden g2
    have HG3 := hidden g3
    have HG4 := hidden g4
    have HG8 := hidden g8
    have HRE : Hid (restAt key xs = xs.drop sz) := by show _ = _; rw [restAt, HLL.out, HTT.out, HSZ.out]
    have hszn : (sz : Int) ≤ (n : Int) := by omega
    have he18 : (e1 : Int) ≤ 10000 := by omega
    by_cases hcs : cap = sz
    · have HRSX : Hid (BSl wB (.slice (some ⟨b, o, none⟩) (n - sz) 0) (restAt key xs)) := by
        have e2 : xs.drop sz = [] := List.eq_nil_of_length_eq_zero (by rw [List.length_drop]; have := HNX.out; omega)
        show BSl _ _ _
        rw [HRE.out, e2, show n - sz = 0 by omega]
        exact bsl_empty _ _ _ (by unfold maxLen; omega) (fun e => by cases e)
      generalize payL B = pl at HPP HPZ HSRP HRT
      generalize restAt key xs = rs at HRSX HRT
      clear g1 g2 g3 g4 g5 g6 g8 hsrp hpq HPE HPLL d0 d1 d3 hf9 HRE he1
      have HRST : Hid (BSl wB (.slice (some ⟨b, o, none⟩) (n - sz) 0) rs) := HRSX
      have HRZ : Hid (rs.length = n - sz) := by
        obtain ⟨_, _, e⟩ := HRST.out.len
        injection e with _ e
        exact e.symm
      go_wp2_with (at_builtin; (refine wpList_own _ rfl (.tmp 157) (.tmp 163) 22 rfl wB _ [] rfl (own_nil wB) _ pl rfl (by rw [HPZ.out]; exact HSRP.out) (by have := HPZ.out; simp; omega) ?_))
      intro v3 w3 ho3 _ _
      have HO3 := hidden ho3
      have hc23 := cell_kept d2 ho3.b
      have hsr3 := ((HRST.out.fresh ho3.b).alloc (.cells #[] 5)).src
      rw [HRZ.out] at hsr3
      have HSR3 := hidden hsr3
      obtain ⟨a3, k3, es3⟩ := ho3.shape
      generalize pl.length = pn at es3
      subst es3
      have hc2a := cell_kept hc23 ((Below.refl w3.heap.size w3).alloc (Nat.le_refl _) (.cells #[] 5))
      clear ho3 hsr3
      go_wp2_with (at_builtin; (refine wpList_own _ rfl (.tmp 166) (.tmp 175) 22 rfl w3 _ [] rfl (own_nil w3) _ rs rfl (by rw [HRZ.out]; exact HSR3.out) (by have := HRZ.out; simp; omega) ?_))
      intro v4 w4 ho4 _ _
      have hb34 : Below wB.heap.size wB w4 := HO3.out.b.trans (ho4.b.mono HO3.out.b.size)
      have hg4 := ((Keeps.ofFresh (S := fun _ => False) hb34).block g hglt (fun h => h)).trans HG1.out
      obtain ⟨f0, f1, f2, f3, hff⟩ := cells4 hg4
      have hcx : (c : Int) ≤ 999999 := by omega
      have HFIN : Hid (RNTold w g kb bb key c xs R (.returned (.tuple #[.slice a3 pn k3, .bool true, .int .i64 0])) ((w4.setCell ⟨g, 2, none⟩ v4).setCell ⟨g, 1, none⟩ (.int .u64 ((c : Int) + 1)))) := by
        have hkk : Keeps (fun k => k = g) w4 ((w4.setCell ⟨g, 2, none⟩ v4).setCell ⟨g, 1, none⟩ (.int .u64 ((c : Int) + 1))) := (keepSet (fun k => k = g) w4 g 2 v4 rfl).trans (keepSet (fun k => k = g) _ g 1 _ rfl)
        have hsz2 : w.heap.size ≤ wB.heap.size := HMB.out.keeps.size
        rw [HRT.out]
        refine ⟨_, v4.ownBlock, rfl, (HO3.out.bsl.fresh ho4.b).keep hkk (fun k e hs => by have := (own_ge HO3.out k e).1; omega), ⟨⟨kv9, v4, ?_, ((HG2.out.fresh hb34)).keep hkk (fun k e hs => g7.1 (by rw [← HG3.out, e, hs])), HG3.out, HG4.out, ho4.bsl.keep hkk (fun k e hs => by have := (own_ge ho4 k e).1; have := HO3.out.b.size; omega), rfl⟩, ⟨g7.1, fun e => by have := (own_ge ho4 g e).1; have := HO3.out.b.size; omega⟩, ⟨fun k e => by have := HG8.out.1 k e; have := hb34.size; simp; omega, fun k e => by have := (own_ge ho4 k e).2; simp; omega⟩, g9, hc⟩, (HMB.out.keeps.trans (Keeps.ofFresh hb34)).trans hkk, .inl rfl, .inr fun k e => by have := (own_ge ho4 k e).1; have := HO3.out.b.size; omega⟩
        have e5 := (setR4 (setR4 hg4 v4).2.2.1 (.int .u64 ((c : Int) + 1))).2.1
        rw [e5]
        simp
      obtain ⟨a4, k4, es4⟩ := ho4.shape
      generalize rs.length = rn at es4
      subst es4
      clear ho4 hb34 hg4 f0 f3
      go_wp2
      go_ret3
      exact HFIN.out
    · have HRSX : Hid (BSl wB (.slice (some ⟨b, o + sz, none⟩) (n - sz) (cap - sz)) (restAt key xs)) := by
        show BSl _ _ _
        rw [HRE.out]
        exact g5.dropS (by omega)
      generalize payL B = pl at HPP HPZ HSRP HRT
      generalize restAt key xs = rs at HRSX HRT
      clear g1 g2 g3 g4 g5 g6 g8 hsrp hpq HPE HPLL d0 d1 d3 hf9 HRE he1
      have HRST : Hid (BSl wB (.slice (some ⟨b, o + sz, none⟩) (n - sz) (cap - sz)) rs) := HRSX
      have HRZ : Hid (rs.length = n - sz) := by
        obtain ⟨_, _, e⟩ := HRST.out.len
        injection e with _ e
        exact e.symm
      go_wp2_with (at_builtin; (refine wpList_own _ rfl (.tmp 157) (.tmp 163) 22 rfl wB _ [] rfl (own_nil wB) _ pl rfl (by rw [HPZ.out]; exact HSRP.out) (by have := HPZ.out; simp; omega) ?_))
      intro v3 w3 ho3 _ _
      have HO3 := hidden ho3
      have hc23 := cell_kept d2 ho3.b
      have hsr3 := ((HRST.out.fresh ho3.b).alloc (.cells #[] 5)).src
      rw [HRZ.out] at hsr3
      have HSR3 := hidden hsr3
      obtain ⟨a3, k3, es3⟩ := ho3.shape
      generalize pl.length = pn at es3
      subst es3
      have hc2a := cell_kept hc23 ((Below.refl w3.heap.size w3).alloc (Nat.le_refl _) (.cells #[] 5))
      clear ho3 hsr3
      go_wp2_with (at_builtin; (refine wpList_own _ rfl (.tmp 166) (.tmp 175) 22 rfl w3 _ [] rfl (own_nil w3) _ rs rfl (by rw [HRZ.out]; exact HSR3.out) (by have := HRZ.out; simp; omega) ?_))
      intro v4 w4 ho4 _ _
      have hb34 : Below wB.heap.size wB w4 := HO3.out.b.trans (ho4.b.mono HO3.out.b.size)
      have hg4 := ((Keeps.ofFresh (S := fun _ => False) hb34).block g hglt (fun h => h)).trans HG1.out
      obtain ⟨f0, f1, f2, f3, hff⟩ := cells4 hg4
      have hcx : (c : Int) ≤ 999999 := by omega
      have HFIN : Hid (RNTold w g kb bb key c xs R (.returned (.tuple #[.slice a3 pn k3, .bool true, .int .i64 0])) ((w4.setCell ⟨g, 2, none⟩ v4).setCell ⟨g, 1, none⟩ (.int .u64 ((c : Int) + 1)))) := by
        have hkk : Keeps (fun k => k = g) w4 ((w4.setCell ⟨g, 2, none⟩ v4).setCell ⟨g, 1, none⟩ (.int .u64 ((c : Int) + 1))) := (keepSet (fun k => k = g) w4 g 2 v4 rfl).trans (keepSet (fun k => k = g) _ g 1 _ rfl)
        have hsz2 : w.heap.size ≤ wB.heap.size := HMB.out.keeps.size
        rw [HRT.out]
        refine ⟨_, v4.ownBlock, rfl, (HO3.out.bsl.fresh ho4.b).keep hkk (fun k e hs => by have := (own_ge HO3.out k e).1; omega), ⟨⟨kv9, v4, ?_, ((HG2.out.fresh hb34)).keep hkk (fun k e hs => g7.1 (by rw [← HG3.out, e, hs])), HG3.out, HG4.out, ho4.bsl.keep hkk (fun k e hs => by have := (own_ge ho4 k e).1; have := HO3.out.b.size; omega), rfl⟩, ⟨g7.1, fun e => by have := (own_ge ho4 g e).1; have := HO3.out.b.size; omega⟩, ⟨fun k e => by have := HG8.out.1 k e; have := hb34.size; simp; omega, fun k e => by have := (own_ge ho4 k e).2; simp; omega⟩, g9, hc⟩, (HMB.out.keeps.trans (Keeps.ofFresh hb34)).trans hkk, .inl rfl, .inr fun k e => by have := (own_ge ho4 k e).1; have := HO3.out.b.size; omega⟩
        have e5 := (setR4 (setR4 hg4 v4).2.2.1 (.int .u64 ((c : Int) + 1))).2.1
        rw [e5]
        simp
      obtain ⟨a4, k4, es4⟩ := ho4.shape
      generalize rs.length = rn at es4
      subst es4
      clear ho4 hb34 hg4 f0 f3
      go_wp2
      go_ret3
      exact HFIN.out
  · obtain ⟨bk, ok_, ck, hkv, _⟩ := HKB2.out.nonnil hk
    subst hkv
    have eT : T = 16 := by rw [HTE.out, tagN, if_neg hk]
    have hc0 := HC0.out
    have hbodyL : (bodyAt key xs).length = L + T := by
      obtain ⟨_, _, e⟩ := HPC.out.len
      injection e with _ e
      exact e.symm
    have HCC : Hid (c ≤ 1000000) := h10
    have HFR : Hid (∀ wx : World, (Instr.sliceAt 22 (.slice (some ⟨b, o, none⟩) n cap) none (some (.int .i64 4)) none).run Tryd.prog wx = .ok (.slice (some ⟨b, o, none⟩) 4 cap) wx) := fun wx => run_front b o n 4 cap (by omega) wx
    have HHD4 : Hid (BSl w2 (.slice (some ⟨b, o, none⟩) 4 cap) (xs.take 4)) := by
      have h1 := HBV2.out
      rw [HNX.out] at h1
      exact h1.head' (by have := HNX.out; omega)
    generalize hkl : key.length = kl at *
    have hnn : ∀ wx : World, (binOp .neq 22 (.slice (some ⟨bk, ok_, none⟩) kl ck) (.slice none 0 0)).run Tryd.prog wx = .ok (.bool true) wx := fun wx => ne_nil wx (some ⟨bk, ok_, none⟩) kl ck
    have HCALL : Hid (∀ (wx : World) (u : Value), Ex w2 wx → BSl wx u (nonceL c) → Calls Tryd.prog 56 #[.slice (some ⟨bk, ok_, none⟩) kl ck, u, .slice (some ⟨b, o, none⟩) 4 cap, .slice (some ⟨b, o + 4, none⟩) (L + T) (cap - 4)] wx fun e w' => ∃ v, e = .returned v ∧ Ex wx w' ∧ (Fact.told (openT key (nonceL c) (xs.take 4) (bodyAt key xs)) ((openE key (nonceL c) (xs.take 4) (bodyAt key xs) : Nat) : Int)).holds v w') := by
      intro wx u he hu
      exact told_pair (rOpen_c _ u _ _ key (nonceL c) (xs.take 4) (bodyAt key xs) wx (by rw [List.length_take]; omega) (by omega) (HKB2.out.fresh he) hu (HHD4.out.fresh he) (HPC.out.fresh he))
    have HCAS := hidden (openE_cases h9 hk c (xs.take 4) (bodyAt key xs) (by omega))
    have HRO : Hid (R = if openE key (nonceL c) (xs.take 4) (bodyAt key xs) ≠ 0 then .bad (openE key (nonceL c) (xs.take 4) (bodyAt key xs)) else if payE (openT key (nonceL c) (xs.take 4) (bodyAt key xs)) ≠ 0 then .bad (payE (openT key (nonceL c) (xs.take 4) (bodyAt key xs))) else .told (payL (openT key (nonceL c) (xs.take 4) (bodyAt key xs))) (restAt key xs)) := by
      have h1 := HR3.out
      rw [show openedE key c xs = openE key (nonceL c) (xs.take 4) (bodyAt key xs) by rw [openedE, if_neg hk], show openedT key c xs = openT key (nonceL c) (xs.take 4) (bodyAt key xs) by rw [openedT, if_neg hk]] at h1
      exact h1
    have HTL : Hid (openE key (nonceL c) (xs.take 4) (bodyAt key xs) = 0 → (openT key (nonceL c) (xs.take 4) (bodyAt key xs)).length = L) := fun h0 => by
      rw [openT, if_pos h0, xorL_length, List.length_take]
      omega
    generalize openE key (nonceL c) (xs.take 4) (bodyAt key xs) = En at HCALL HCAS HRO HTL
    generalize openT key (nonceL c) (xs.take 4) (bodyAt key xs) = Tn at HCALL HRO HTL
    clear hk HR3 hbodyL hkl
    go_upto_region 17 with fail
    refine region_free [(.val (.pointer (some ⟨g, 0, none⟩))), (.val (.pointer (some ⟨g, 0, none⟩))), (.val (.pointer (some ⟨g, 0, none⟩))), (.val (.slice (some ⟨bk, ok_, none⟩) kl ck)), (.val (.pointer (some ⟨g, 0, none⟩))), (.val (.pointer (some ⟨g, 0, none⟩))), (.val (.pointer (some ⟨g, 1, none⟩))), (.val (.int .u64 (c : Int))), (.bsl (nonceL c)), (.val (.pointer (some ⟨g, 0, none⟩))), (.val (.pointer (some ⟨g, 0, none⟩))), (.val (.pointer (some ⟨g, 2, none⟩))), (.val (.slice (some ⟨b, o, none⟩) n cap)), (.val (.slice (some ⟨b, o, none⟩) 4 cap)), (.val (.slice (some ⟨b, o + 4, none⟩) (L + T) (cap - 4))), (.told Tn (En : Int)), (.told Tn (En : Int)), (.bsl Tn), (.val (.int .i64 (En : Int))), (.bsl Tn), (.val (.int .i64 (En : Int)))] (by kernel_rfl) ?_ ?_
    · refine req_cons (.val (.pointer (some ⟨g, 0, none⟩))) (by kernel_rfl) (fun vs w1 he hd => StepG.plain (by kernel_rfl) (gives_move (x := (.tmp 0)) (v := (.pointer (some ⟨g, 0, none⟩))) (by kernel_rfl) (by kernel_rfl) ⟨Ex.refl _, rfl⟩)) ?_
      refine req_cons (.val (.pointer (some ⟨g, 0, none⟩))) (by kernel_rfl) (fun vs w1 he hd => StepG.plain (by kernel_rfl) (gives_nil (x := .tmp 113) (by kernel_rfl) (Eq.trans (b := vs 0) (by kernel_rfl) (hd 0 (.val (.pointer (some ⟨g, 0, none⟩))) (by kernel_rfl) (by kernel_rfl))) ⟨Ex.refl _, rfl⟩)) ?_
      refine req_cons (.val (.pointer (some ⟨g, 0, none⟩))) (by kernel_rfl) (fun vs w1 he hd => StepG.plain (by kernel_rfl) (gives_fieldN0 (x := .tmp 114) (by kernel_rfl) (Eq.trans (b := vs 1) (by kernel_rfl) (hd 1 (.val (.pointer (some ⟨g, 0, none⟩))) (by kernel_rfl) (by kernel_rfl))) ⟨Ex.refl _, rfl⟩)) ?_
      refine req_cons (.val (.slice (some ⟨bk, ok_, none⟩) kl ck)) (by kernel_rfl) (fun vs w1 he hd => StepG.plain (by kernel_rfl) (gives_load (x := .tmp 115) (v := (.slice (some ⟨bk, ok_, none⟩) kl ck)) (by kernel_rfl) (Eq.trans (b := vs 2) (by kernel_rfl) (hd 2 (.val (.pointer (some ⟨g, 0, none⟩))) (by kernel_rfl) (by kernel_rfl))) (cell_kept HC0.out he) ⟨Ex.refl _, rfl⟩)) ?_
      refine req_cons (.val (.pointer (some ⟨g, 0, none⟩))) (by kernel_rfl) (fun vs w1 he hd => StepG.plain (by kernel_rfl) (gives_move (x := (.tmp 0)) (v := (.pointer (some ⟨g, 0, none⟩))) (by kernel_rfl) (by kernel_rfl) ⟨Ex.refl _, rfl⟩)) ?_
      refine req_cons (.val (.pointer (some ⟨g, 0, none⟩))) (by kernel_rfl) (fun vs w1 he hd => StepG.plain (by kernel_rfl) (gives_nil (x := .tmp 117) (by kernel_rfl) (Eq.trans (b := vs 4) (by kernel_rfl) (hd 4 (.val (.pointer (some ⟨g, 0, none⟩))) (by kernel_rfl) (by kernel_rfl))) ⟨Ex.refl _, rfl⟩)) ?_
      refine req_cons (.val (.pointer (some ⟨g, 1, none⟩))) (by kernel_rfl) (fun vs w1 he hd => StepG.plain (by kernel_rfl) (gives_fieldN1 (x := .tmp 118) (by kernel_rfl) (Eq.trans (b := vs 5) (by kernel_rfl) (hd 5 (.val (.pointer (some ⟨g, 0, none⟩))) (by kernel_rfl) (by kernel_rfl))) ⟨Ex.refl _, rfl⟩)) ?_
      refine req_cons (.val (.int .u64 (c : Int))) (by kernel_rfl) (fun vs w1 he hd => StepG.plain (by kernel_rfl) (gives_load64 (x := .tmp 119) (v := .int .u64 (c : Int)) (by kernel_rfl) (Eq.trans (b := vs 6) (by kernel_rfl) (hd 6 (.val (.pointer (some ⟨g, 1, none⟩))) (by kernel_rfl) (by kernel_rfl))) (cell_kept HC1.out he) ⟨Ex.refl _, rfl⟩)) ?_
      refine req_cons (.bsl (nonceL c)) (by kernel_rfl) (fun vs w1 he hd => StepG.plain (by kernel_rfl) (gives_call (f := 37) (xs := #[(.tmp 120)]) (ts := #[27]) (vs := #[(vs 7)]) (by kernel_rfl) (by kernel_rfl) (by kernel_rfl) Tryd.func37 (by kernel_rfl) (by kernel_rfl) (by rw [show vs 7 = .int .u64 (c : Int) from (hd 7 (.val (.int .u64 (c : Int))) (by kernel_rfl) (by kernel_rfl))]; exact told_bytes (rnonce_c c HCC.out _)))) ?_
      refine req_cons (.val (.pointer (some ⟨g, 0, none⟩))) (by kernel_rfl) (fun vs w1 he hd => StepG.plain (by kernel_rfl) (gives_move (x := (.tmp 0)) (v := (.pointer (some ⟨g, 0, none⟩))) (by kernel_rfl) (by kernel_rfl) ⟨Ex.refl _, rfl⟩)) ?_
      refine req_cons (.val (.pointer (some ⟨g, 0, none⟩))) (by kernel_rfl) (fun vs w1 he hd => StepG.plain (by kernel_rfl) (gives_nil (x := .tmp 122) (by kernel_rfl) (Eq.trans (b := vs 9) (by kernel_rfl) (hd 9 (.val (.pointer (some ⟨g, 0, none⟩))) (by kernel_rfl) (by kernel_rfl))) ⟨Ex.refl _, rfl⟩)) ?_
      refine req_cons (.val (.pointer (some ⟨g, 2, none⟩))) (by kernel_rfl) (fun vs w1 he hd => StepG.plain (by kernel_rfl) (gives_fieldN2 (x := .tmp 123) (by kernel_rfl) (Eq.trans (b := vs 10) (by kernel_rfl) (hd 10 (.val (.pointer (some ⟨g, 0, none⟩))) (by kernel_rfl) (by kernel_rfl))) ⟨Ex.refl _, rfl⟩)) ?_
      refine req_cons (.val (.slice (some ⟨b, o, none⟩) n cap)) (by kernel_rfl) (fun vs w1 he hd => StepG.plain (by kernel_rfl) (gives_load (x := .tmp 124) (v := (.slice (some ⟨b, o, none⟩) n cap)) (by kernel_rfl) (Eq.trans (b := vs 11) (by kernel_rfl) (hd 11 (.val (.pointer (some ⟨g, 2, none⟩))) (by kernel_rfl) (by kernel_rfl))) (cell_kept HC2.out he) ⟨Ex.refl _, rfl⟩)) ?_
      refine req_cons (.val (.slice (some ⟨b, o, none⟩) 4 cap)) (by kernel_rfl) (fun vs w1 he hd => StepG.plain (by kernel_rfl) (gives_slice (x := .tmp 125) (lo := none) (hi := some (.const (.int .i64 4))) (mx := none) (v := (.slice (some ⟨b, o, none⟩) 4 cap)) (by kernel_rfl) (by rw [show (actsTo _ _ _ vs _).eval (.tmp 125) = (.slice (some ⟨b, o, none⟩) n cap) from Eq.trans (b := vs 12) (by kernel_rfl) (hd 12 (.val (.slice (some ⟨b, o, none⟩) n cap)) (by kernel_rfl) (by kernel_rfl))]; exact HFR.out _) ⟨Ex.refl _, rfl⟩)) ?_
      refine req_cons (.val (.slice (some ⟨b, o + 4, none⟩) (L + T) (cap - 4))) (by kernel_rfl) (fun vs w1 he hd => StepG.plain (by kernel_rfl) (gives_move (x := (.tmp 8)) (v := (.slice (some ⟨b, o + 4, none⟩) (L + T) (cap - 4))) (by kernel_rfl) (by kernel_rfl) ⟨Ex.refl _, rfl⟩)) ?_
      refine req_cons (.told Tn (En : Int)) (by kernel_rfl) (fun vs w1 he hd => StepG.plain (by kernel_rfl) (gives_call (f := 56) (xs := #[(.tmp 116), (.tmp 121), (.tmp 126), (.tmp 127)]) (ts := #[22, 22, 22, 22]) (vs := #[(vs 3), (vs 8), (vs 13), (vs 14)]) (by kernel_rfl) (by kernel_rfl) (by kernel_rfl) Tryd.func56 (by kernel_rfl) (by kernel_rfl) (by rw [show vs 3 = .slice (some ⟨bk, ok_, none⟩) kl ck from (hd 3 (.val (.slice (some ⟨bk, ok_, none⟩) kl ck)) (by kernel_rfl) (by kernel_rfl)), show vs 13 = (.slice (some ⟨b, o, none⟩) 4 cap) from (hd 13 (.val (.slice (some ⟨b, o, none⟩) 4 cap)) (by kernel_rfl) (by kernel_rfl)), show vs 14 = (.slice (some ⟨b, o + 4, none⟩) (L + T) (cap - 4)) from (hd 14 (.val (.slice (some ⟨b, o + 4, none⟩) (L + T) (cap - 4))) (by kernel_rfl) (by kernel_rfl))]; exact HCALL.out _ _ he (hd 8 (.bsl (nonceL c)) (by kernel_rfl) (by kernel_rfl))))) ?_
      refine req_cons (.told Tn (En : Int)) (by kernel_rfl) (fun vs w1 he hd => StepG.plain (by kernel_rfl) (gives_move (x := (.tmp 128)) (v := (vs 15)) (by kernel_rfl) (by kernel_rfl) ⟨Ex.refl _, (hd 15 (.told Tn (En : Int)) (by kernel_rfl) (by kernel_rfl))⟩)) ?_
      refine req_cons (.bsl Tn) (by kernel_rfl) (fun vs w1 he hd => StepG.plain (by kernel_rfl) (gives_ext0 (n := (En : Int)) (x := .tmp 112) (v := vs 16) (by kernel_rfl) (by kernel_rfl) (hd 16 (.told Tn (En : Int)) (by kernel_rfl) (by kernel_rfl)))) ?_
      refine req_cons (.val (.int .i64 (En : Int))) (by kernel_rfl) (fun vs w1 he hd => StepG.plain (by kernel_rfl) (gives_ext1 (xs := Tn) (x := .tmp 112) (v := vs 16) (by kernel_rfl) (by kernel_rfl) (hd 16 (.told Tn (En : Int)) (by kernel_rfl) (by kernel_rfl)))) ?_
      refine req_cons (.bsl Tn) (by kernel_rfl) (fun vs w1 he hd => StepG.plain (by kernel_rfl) (gives_assign (x := (.tmp 129)) (v := (vs 17)) (by kernel_rfl) (by kernel_rfl) ⟨Ex.refl _, (hd 17 (.bsl Tn) (by kernel_rfl) (by kernel_rfl))⟩)) ?_
      refine req_cons (.val (.int .i64 (En : Int))) (by kernel_rfl) (fun vs w1 he hd => StepG.plain (by kernel_rfl) (gives_assign (x := (.tmp 130)) (v := (.int .i64 (En : Int))) (by kernel_rfl) (Eq.trans (b := vs 18) (by kernel_rfl) (hd 18 (.val (.int .i64 (En : Int))) (by kernel_rfl) (by kernel_rfl))) ⟨Ex.refl _, rfl⟩)) ?_
      exact req_nil
    intro vs w3 hx hF
    have e0 : vs 0 = (.pointer (some ⟨g, 0, none⟩)) := told_at hF 0 (.val (.pointer (some ⟨g, 0, none⟩))) (by decide) (by kernel_rfl)
    have e1 : vs 1 = (.pointer (some ⟨g, 0, none⟩)) := told_at hF 1 (.val (.pointer (some ⟨g, 0, none⟩))) (by decide) (by kernel_rfl)
    have e2 : vs 2 = (.pointer (some ⟨g, 0, none⟩)) := told_at hF 2 (.val (.pointer (some ⟨g, 0, none⟩))) (by decide) (by kernel_rfl)
    have e3 : vs 3 = (.slice (some ⟨bk, ok_, none⟩) kl ck) := told_at hF 3 (.val (.slice (some ⟨bk, ok_, none⟩) kl ck)) (by decide) (by kernel_rfl)
    have e4 : vs 4 = (.pointer (some ⟨g, 0, none⟩)) := told_at hF 4 (.val (.pointer (some ⟨g, 0, none⟩))) (by decide) (by kernel_rfl)
    have e5 : vs 5 = (.pointer (some ⟨g, 0, none⟩)) := told_at hF 5 (.val (.pointer (some ⟨g, 0, none⟩))) (by decide) (by kernel_rfl)
    have e6 : vs 6 = (.pointer (some ⟨g, 1, none⟩)) := told_at hF 6 (.val (.pointer (some ⟨g, 1, none⟩))) (by decide) (by kernel_rfl)
    have e7 : vs 7 = (.int .u64 (c : Int)) := told_at hF 7 (.val (.int .u64 (c : Int))) (by decide) (by kernel_rfl)
    have e9 : vs 9 = (.pointer (some ⟨g, 0, none⟩)) := told_at hF 9 (.val (.pointer (some ⟨g, 0, none⟩))) (by decide) (by kernel_rfl)
    have e10 : vs 10 = (.pointer (some ⟨g, 0, none⟩)) := told_at hF 10 (.val (.pointer (some ⟨g, 0, none⟩))) (by decide) (by kernel_rfl)
    have e11 : vs 11 = (.pointer (some ⟨g, 2, none⟩)) := told_at hF 11 (.val (.pointer (some ⟨g, 2, none⟩))) (by decide) (by kernel_rfl)
    have e12 : vs 12 = (.slice (some ⟨b, o, none⟩) n cap) := told_at hF 12 (.val (.slice (some ⟨b, o, none⟩) n cap)) (by decide) (by kernel_rfl)
    have e13 : vs 13 = (.slice (some ⟨b, o, none⟩) 4 cap) := told_at hF 13 (.val (.slice (some ⟨b, o, none⟩) 4 cap)) (by decide) (by kernel_rfl)
    have e14 : vs 14 = (.slice (some ⟨b, o + 4, none⟩) (L + T) (cap - 4)) := told_at hF 14 (.val (.slice (some ⟨b, o + 4, none⟩) (L + T) (cap - 4))) (by decide) (by kernel_rfl)
    have e18 : vs 18 = (.int .i64 (En : Int)) := told_at hF 18 (.val (.int .i64 (En : Int))) (by decide) (by kernel_rfl)
    have e20 : vs 20 = (.int .i64 (En : Int)) := told_at hF 20 (.val (.int .i64 (En : Int))) (by decide) (by kernel_rfl)
    have HBT := hidden (told_at hF 19 (.bsl Tn) (by decide) (by kernel_rfl))
    simp only [List.length_cons, List.length_nil, actsTo, if_true, dstOf, List.getElem?_toArray, List.getElem?_cons_succ, List.getElem?_cons_zero, Option.bind_some, Act.put, List.setIfInBounds_toArray, List.set_cons_zero, List.set_cons_succ]
    simp only [e0, e1, e2, e3, e4, e5, e6, e7, e9, e10, e11, e12, e13, e14, e18, e20]
    generalize vs 8 = y8
    generalize vs 15 = y15
    generalize vs 16 = y16
    generalize vs 17 = y17
    generalize vs 19 = y19 at HBT ⊢
    clear hF e0 e1 e2 e3 e4 e5 e6 e7 e9 e10 e11 e12 e13 e14 e18 e20 vs
    have HX := hidden hx
    have HI3 := hidden (HI2.out.fresh hx)
    have HMB : Hid (RMoved g kb kb bb bb w w3) := ⟨HMV.out.keeps.trans (Keeps.ofFresh hx), .inl rfl, .inl rfl⟩
    clear hx hc0 HCALL
    by_cases hEn : En = 0
    · have hml := HTL.out hEn
      have HRB : Hid (R = if payE Tn ≠ 0 then .bad (payE Tn) else .told (payL Tn) (restAt key xs)) := by
        have h1 := HRO.out
        rw [if_neg (by simp [hEn])] at h1
        exact h1
      have HIB := HI3
      have HBB : Hid (Below w2.heap.size w2 w3) := HX.out
      have hneT : Tn ≠ [] := by intro e; rw [e] at hml; simp at hml; omega
      obtain ⟨b2, o2, cB, ey, _⟩ := HBT.out.nonnil hneT
      have hcBB : Tn.length ≤ cB ∧ cB ≤ maxLen := by
        obtain ⟨a9, c9, e9, k1, k2, _⟩ := HBT.out
        rw [ey] at e9
        injection e9 with _ _ e9
        exact ⟨by omega, by omega⟩
      obtain ⟨m2, hm2⟩ : ∃ m2, m2 = Tn.length := ⟨_, rfl⟩
      rw [← hm2] at ey hcBB hml
      have HM2 : Hid (Tn.length = m2) := hm2.symm
      obtain ⟨hcB1, hcB2⟩ := hcBB
      unfold maxLen at hcB2
      have hB6 : 6 ≤ m2 := by omega
      have hB9 : m2 ≤ 9500 := by omega
      have HBO : Hid (BSl w3 (.slice (some ⟨b2, o2, none⟩) m2 cB) Tn) := by rw [← ey]; exact HBT.out
      obtain ⟨B, hB⟩ : ∃ B, B = Tn := ⟨_, rfl⟩
      rw [← hB] at HRB HBO HM2
      obtain ⟨wB, ewB⟩ : ∃ x, x = w3 := ⟨_, rfl⟩
      subst ewB
      subst ey
      have hE0' : ((En : Int) != 0) = false := by rw [hEn]; rfl
      obtain rfl : En = 0 := hEn
      clear hm2 hml hneT HRO HTL HCAS hB HBT HI3 eT
      go_upto_region 21 with fail
      have hqc := HBO.out.cellD 0 (by have := HM2.out; omega)
      rw [Nat.add_zero] at hqc
      have hq255 := (B.getD 0 0).toNat_lt
      have HPE : Hid (payE B = if (B.getD 0 0).toNat < 4 ∨ m2 ≤ 1 + (B.getD 0 0).toNat then 12 else 0) := by show _ = _; rw [payE, HM2.out]
      have HPLL : Hid (payL B = (B.drop 1).take (m2 - (B.getD 0 0).toNat - 1)) := by show _ = _; rw [payL, HM2.out]
      generalize (B.getD 0 0).toNat = q at hqc hq255 HPE HPLL
      have hq2 : (q : Int) ≤ 255 := by omega
      have hm20 : (0 : Int) < (m2 : Int) := by omega
      by_cases hpq : q < 4 ∨ m2 ≤ 1 + q
      · have HRT : Hid (R = .bad 12) := by
          have h1 := HPE.out
          rw [if_pos hpq] at h1
          have h2 := HRB.out
          rw [h1, if_pos (by omega)] at h2
          exact h2
        have HRF := hidden (refuse8_c 12 wB HIB.out)
        by_cases hq4 : q < 4
        · have hq4' : (q : Int) < 4 := by omega
          clear hpq HPE HPLL hq4
          go_wp2_with fail
          refine HRF.out.mono ?_
          rintro e w3 ⟨rfl, hi3, hm3⟩
          have HF : Hid (RNTold w g kb bb key c xs R (.returned (.tuple #[.slice none 0 0, .bool false, .int .i64 12])) w3) := by
            rw [HRT.out]
            exact ⟨rfl, hi3, HMB.out.keeps.trans hm3.keeps, .inl rfl, .inr (by simp)⟩
          clear hi3 hm3
          go_wp2
          go_ret3
          exact HF.out
        · have hq4' : ¬ (q : Int) < 4 := by omega
          have hq5 : (m2 : Int) ≤ 1 + (q : Int) := by omega
          clear hpq HPE HPLL hq4
          go_wp2_with fail
          refine HRF.out.mono ?_
          rintro e w3 ⟨rfl, hi3, hm3⟩
          have HF : Hid (RNTold w g kb bb key c xs R (.returned (.tuple #[.slice none 0 0, .bool false, .int .i64 12])) w3) := by
            rw [HRT.out]
            exact ⟨rfl, hi3, HMB.out.keeps.trans hm3.keeps, .inl rfl, .inr (by simp)⟩
          clear hi3 hm3
          go_wp2
          go_ret3
          exact HF.out
      have HRT : Hid (R = .told (payL B) (restAt key xs)) := by
        have h1 := HPE.out
        rw [if_neg hpq] at h1
        have h2 := HRB.out
        rw [h1, if_neg (by simp)] at h2
        exact h2
      have hq4 : ¬ (q : Int) < 4 := by omega
      have hq5 : ¬ (m2 : Int) ≤ 1 + (q : Int) := by omega
      obtain ⟨e1, he1⟩ : ∃ e1, e1 = m2 - q := ⟨_, rfl⟩
      have hq6 : (m2 : Int) - (q : Int) = (e1 : Int) := by omega
      have hq7 : (1 : Int) ≤ (e1 : Int) := by omega
      have hq8 : (e1 : Int) ≤ (cB : Int) := by omega
      have hq9 : ¬ cB = 1 := by omega
      have HPP : Hid (BSl wB (.slice (some ⟨b2, o2 + 1, none⟩) (e1 - 1) (cB - 1)) (payL B)) := by
        have := HBO.out.part (i := 1) (j := e1 - 1) (by omega)
        rw [HPLL.out, ← he1]
        exact this
      have HPZ : Hid ((payL B).length = e1 - 1) := by
        obtain ⟨_, _, e⟩ := HPP.out.len
        injection e with _ e
        exact e.symm
      have hsrp := (HPP.out.alloc (.cells #[] 5)).src
      rw [HPZ.out] at hsrp
      have HSRP := hidden hsrp
      obtain ⟨⟨kv9, bv9, g1, g2, g3, g4, g5, g6⟩, g7, g8, g9, g10⟩ := id HIB.out
      have hbv9 : bv9 = .slice (some ⟨b, o, none⟩) n cap := by
        have e1 := (cells4 g1).2.2.1
        rw [cell_kept HC2.out HBB.out] at e1
        injection e1 with e1
        exact e1.symm
      subst hbv9
      have hglt := lt_of_block g1
      obtain ⟨d0, d1, d2, d3, hf9⟩ := cells4 g1
      have HG1 := hidden g1
      have HG2 := hidden g2
      have HG3 := hidden g3
      have HG4 := hidden g4
      have HG8 := hidden g8
      have HRE : Hid (restAt key xs = xs.drop sz) := by show _ = _; rw [restAt, HLL.out, HTT.out, HSZ.out]
      have hszn : (sz : Int) ≤ (n : Int) := by omega
      have he18 : (e1 : Int) ≤ 10000 := by omega
      by_cases hcs : cap = sz
      · have HRSX : Hid (BSl wB (.slice (some ⟨b, o, none⟩) (n - sz) 0) (restAt key xs)) := by
          have e2 : xs.drop sz = [] := List.eq_nil_of_length_eq_zero (by rw [List.length_drop]; have := HNX.out; omega)
          show BSl _ _ _
          rw [HRE.out, e2, show n - sz = 0 by omega]
          exact bsl_empty _ _ _ (by unfold maxLen; omega) (fun e => by cases e)
        generalize payL B = pl at HPP HPZ HSRP HRT
        generalize restAt key xs = rs at HRSX HRT
        clear g1 g2 g3 g4 g5 g6 g8 hsrp hpq HPE HPLL d0 d1 d3 hf9 HRE he1
        have HRST : Hid (BSl wB (.slice (some ⟨b, o, none⟩) (n - sz) 0) rs) := HRSX
        have HRZ : Hid (rs.length = n - sz) := by
          obtain ⟨_, _, e⟩ := HRST.out.len
          injection e with _ e
          exact e.symm
        go_wp2_with (at_builtin; (refine wpList_own _ rfl (.tmp 157) (.tmp 163) 22 rfl wB _ [] rfl (own_nil wB) _ pl rfl (by rw [HPZ.out]; exact HSRP.out) (by have := HPZ.out; simp; omega) ?_))
        intro v3 w3 ho3 _ _
        have HO3 := hidden ho3
        have hc23 := cell_kept d2 ho3.b
        have hsr3 := ((HRST.out.fresh ho3.b).alloc (.cells #[] 5)).src
        rw [HRZ.out] at hsr3
        have HSR3 := hidden hsr3
        obtain ⟨a3, k3, es3⟩ := ho3.shape
        generalize pl.length = pn at es3
        subst es3
        have hc2a := cell_kept hc23 ((Below.refl w3.heap.size w3).alloc (Nat.le_refl _) (.cells #[] 5))
        clear ho3 hsr3
        go_wp2_with (at_builtin; (refine wpList_own _ rfl (.tmp 166) (.tmp 175) 22 rfl w3 _ [] rfl (own_nil w3) _ rs rfl (by rw [HRZ.out]; exact HSR3.out) (by have := HRZ.out; simp; omega) ?_))
        intro v4 w4 ho4 _ _
        have hb34 : Below wB.heap.size wB w4 := HO3.out.b.trans (ho4.b.mono HO3.out.b.size)
        have hg4 := ((Keeps.ofFresh (S := fun _ => False) hb34).block g hglt (fun h => h)).trans HG1.out
        obtain ⟨f0, f1, f2, f3, hff⟩ := cells4 hg4
        have hcx : (c : Int) ≤ 999999 := by omega
        have HFIN : Hid (RNTold w g kb bb key c xs R (.returned (.tuple #[.slice a3 pn k3, .bool true, .int .i64 0])) ((w4.setCell ⟨g, 2, none⟩ v4).setCell ⟨g, 1, none⟩ (.int .u64 ((c : Int) + 1)))) := by
          have hkk : Keeps (fun k => k = g) w4 ((w4.setCell ⟨g, 2, none⟩ v4).setCell ⟨g, 1, none⟩ (.int .u64 ((c : Int) + 1))) := (keepSet (fun k => k = g) w4 g 2 v4 rfl).trans (keepSet (fun k => k = g) _ g 1 _ rfl)
          have hsz2 : w.heap.size ≤ wB.heap.size := HMB.out.keeps.size
          rw [HRT.out]
          refine ⟨_, v4.ownBlock, rfl, (HO3.out.bsl.fresh ho4.b).keep hkk (fun k e hs => by have := (own_ge HO3.out k e).1; omega), ⟨⟨kv9, v4, ?_, ((HG2.out.fresh hb34)).keep hkk (fun k e hs => g7.1 (by rw [← HG3.out, e, hs])), HG3.out, HG4.out, ho4.bsl.keep hkk (fun k e hs => by have := (own_ge ho4 k e).1; have := HO3.out.b.size; omega), rfl⟩, ⟨g7.1, fun e => by have := (own_ge ho4 g e).1; have := HO3.out.b.size; omega⟩, ⟨fun k e => by have := HG8.out.1 k e; have := hb34.size; simp; omega, fun k e => by have := (own_ge ho4 k e).2; simp; omega⟩, g9, hc⟩, (HMB.out.keeps.trans (Keeps.ofFresh hb34)).trans hkk, .inl rfl, .inr fun k e => by have := (own_ge ho4 k e).1; have := HO3.out.b.size; omega⟩
          have e5 := (setR4 (setR4 hg4 v4).2.2.1 (.int .u64 ((c : Int) + 1))).2.1
          rw [e5]
          simp
        obtain ⟨a4, k4, es4⟩ := ho4.shape
        generalize rs.length = rn at es4
        subst es4
        clear ho4 hb34 hg4 f0 f3
        go_wp2
        go_ret3
        exact HFIN.out
      · have HRSX : Hid (BSl wB (.slice (some ⟨b, o + sz, none⟩) (n - sz) (cap - sz)) (restAt key xs)) := by
          show BSl _ _ _
          rw [HRE.out]
          exact g5.dropS (by omega)
        generalize payL B = pl at HPP HPZ HSRP HRT
        generalize restAt key xs = rs at HRSX HRT
        clear g1 g2 g3 g4 g5 g6 g8 hsrp hpq HPE HPLL d0 d1 d3 hf9 HRE he1
        have HRST : Hid (BSl wB (.slice (some ⟨b, o + sz, none⟩) (n - sz) (cap - sz)) rs) := HRSX
        have HRZ : Hid (rs.length = n - sz) := by
          obtain ⟨_, _, e⟩ := HRST.out.len
          injection e with _ e
          exact e.symm
        go_wp2_with (at_builtin; (refine wpList_own _ rfl (.tmp 157) (.tmp 163) 22 rfl wB _ [] rfl (own_nil wB) _ pl rfl (by rw [HPZ.out]; exact HSRP.out) (by have := HPZ.out; simp; omega) ?_))
        intro v3 w3 ho3 _ _
        have HO3 := hidden ho3
        have hc23 := cell_kept d2 ho3.b
        have hsr3 := ((HRST.out.fresh ho3.b).alloc (.cells #[] 5)).src
        rw [HRZ.out] at hsr3
        have HSR3 := hidden hsr3
        obtain ⟨a3, k3, es3⟩ := ho3.shape
        generalize pl.length = pn at es3
        subst es3
        have hc2a := cell_kept hc23 ((Below.refl w3.heap.size w3).alloc (Nat.le_refl _) (.cells #[] 5))
        clear ho3 hsr3
        go_wp2_with (at_builtin; (refine wpList_own _ rfl (.tmp 166) (.tmp 175) 22 rfl w3 _ [] rfl (own_nil w3) _ rs rfl (by rw [HRZ.out]; exact HSR3.out) (by have := HRZ.out; simp; omega) ?_))
        intro v4 w4 ho4 _ _
        have hb34 : Below wB.heap.size wB w4 := HO3.out.b.trans (ho4.b.mono HO3.out.b.size)
        have hg4 := ((Keeps.ofFresh (S := fun _ => False) hb34).block g hglt (fun h => h)).trans HG1.out
        obtain ⟨f0, f1, f2, f3, hff⟩ := cells4 hg4
        have hcx : (c : Int) ≤ 999999 := by omega
        have HFIN : Hid (RNTold w g kb bb key c xs R (.returned (.tuple #[.slice a3 pn k3, .bool true, .int .i64 0])) ((w4.setCell ⟨g, 2, none⟩ v4).setCell ⟨g, 1, none⟩ (.int .u64 ((c : Int) + 1)))) := by
          have hkk : Keeps (fun k => k = g) w4 ((w4.setCell ⟨g, 2, none⟩ v4).setCell ⟨g, 1, none⟩ (.int .u64 ((c : Int) + 1))) := (keepSet (fun k => k = g) w4 g 2 v4 rfl).trans (keepSet (fun k => k = g) _ g 1 _ rfl)
          have hsz2 : w.heap.size ≤ wB.heap.size := HMB.out.keeps.size
          rw [HRT.out]
          refine ⟨_, v4.ownBlock, rfl, (HO3.out.bsl.fresh ho4.b).keep hkk (fun k e hs => by have := (own_ge HO3.out k e).1; omega), ⟨⟨kv9, v4, ?_, ((HG2.out.fresh hb34)).keep hkk (fun k e hs => g7.1 (by rw [← HG3.out, e, hs])), HG3.out, HG4.out, ho4.bsl.keep hkk (fun k e hs => by have := (own_ge ho4 k e).1; have := HO3.out.b.size; omega), rfl⟩, ⟨g7.1, fun e => by have := (own_ge ho4 g e).1; have := HO3.out.b.size; omega⟩, ⟨fun k e => by have := HG8.out.1 k e; have := hb34.size; simp; omega, fun k e => by have := (own_ge ho4 k e).2; simp; omega⟩, g9, hc⟩, (HMB.out.keeps.trans (Keeps.ofFresh hb34)).trans hkk, .inl rfl, .inr fun k e => by have := (own_ge ho4 k e).1; have := HO3.out.b.size; omega⟩
          have e5 := (setR4 (setR4 hg4 v4).2.2.1 (.int .u64 ((c : Int) + 1))).2.1
          rw [e5]
          simp
        obtain ⟨a4, k4, es4⟩ := ho4.shape
        generalize rs.length = rn at es4
        subst es4
        clear ho4 hb34 hg4 f0 f3
        go_wp2
        go_ret3
        exact HFIN.out
    · have hE3 : ((En : Int) != 0) = true := by simpa using hEn
      have HRT : Hid (R = .bad 14) := by
        have h1 := HRO.out
        have h2 := HCAS.out hEn
        rw [if_pos hEn, h2] at h1
        exact h1
      have HRF := hidden (refuse8_c 14 w3 HI3.out)
      clear hEn HRO HTL HCAS HBT
      go_wp2_with fail
      refine HRF.out.mono ?_
      rintro e w4 ⟨rfl, hi4, hm4⟩
      have HF : Hid (RNTold w g kb bb key c xs R (.returned (.tuple #[.slice none 0 0, .bool false, .int .i64 14])) w4) := by
        rw [HRT.out]
        exact ⟨rfl, hi4, HMB.out.keeps.trans hm4.keeps, .inl rfl, .inr (by simp)⟩
      clear hi4 hm4
      go_wp2
      go_ret3
      exact HF.out

/-- Both Ins stand alike: what they hold, at most M bytes, and why they refused; block xb is another's, as it was in W0. -/
structure BI (W W0 w : World) (xb gi gr M N : Nat) : Prop where
  ex : ∃ (h : Nat) (ki kr br : Option Nat) (k1 k2 : List UInt8) (c1 c2 : Nat) (xs : List UInt8) (why : Nat), InS w gi h ki k1 c1 xs why ∧ RIn w gr kr br k2 c2 xs why ∧ ((why = 0 → k1 = k2 ∧ c1 = c2) ∧ (why ≠ 0 → xs = [])) ∧ xs.length ≤ M ∧ c1 ≤ N ∧ c2 ≤ N ∧
    (gr ≠ h ∧ kr ≠ some gi ∧ kr ≠ some h ∧ br ≠ some gi ∧ br ≠ some h ∧ ki ≠ some gr) ∧ W.heap.size ≤ h ∧ xb ≠ h
  b : Below W.heap.size W w
  kp : w.heap[xb]? = W0.heap[xb]? ∧ xb < w.heap.size
  ne : gi ≠ gr ∧ xb ≠ gi ∧ xb ≠ gr
  lo : W.heap.size ≤ gi ∧ W.heap.size ≤ gr
theorem BI.more {W W0 w : World} {xb gi gr M N M' N' : Nat} (h : BI W W0 w xb gi gr M N) (hM : M ≤ M') (hN : N ≤ N') : BI W W0 w xb gi gr M' N' := by
  obtain ⟨⟨h1, ki, kr, br, k1, k2, c1, c2, xs, why, a1, a2, a3, a4, a5, a6, a7⟩, b, kp, ne, lo⟩ := h
  exact ⟨⟨h1, ki, kr, br, k1, k2, c1, c2, xs, why, a1, a2, a3, by omega, by omega, by omega, a7⟩, b, kp, ne, lo⟩
theorem BI.fresh {W W0 w w' : World} {xb gi gr M N : Nat} (h : BI W W0 w xb gi gr M N) (hb : Below w.heap.size w w') : BI W W0 w' xb gi gr M N := by
  obtain ⟨⟨h1, ki, kr, br, k1, k2, c1, c2, xs, why, a1, a2, a3⟩, b, kp, ne, lo⟩ := h
  exact ⟨⟨h1, ki, kr, br, k1, k2, c1, c2, xs, why, a1.fresh hb, a2.fresh hb, a3⟩, b.trans (hb.mono b.size), ⟨((Keeps.ofFresh (S := fun _ => False) hb).block xb kp.2 (fun h => h)).trans kp.1, Nat.lt_of_lt_of_le kp.2 hb.size⟩, ne, lo⟩
theorem BSl.atBlock {W0 w : World} {v : Value} {xs : List UInt8} {xb : Nat} (h : BSl W0 v xs) (hb : ∀ k, v.ownBlock = some k → k = xb) (he : w.heap[xb]? = W0.heap[xb]?) : BSl w v xs := by
  obtain ⟨ao, cap, h1, h2, h3, h4, h5⟩ := h
  refine ⟨ao, cap, h1, h2, h3, h4, fun ad e hne => ?_⟩
  obtain ⟨b, off, e1, hc⟩ := h5 ad e hne
  refine ⟨b, off, e1, fun j u hu => ?_⟩
  have hbx : b = xb := hb b (by rw [h1, e, e1]; rfl)
  rw [← hc j u hu, hbx]
  exact World.cell?_of_block he
/-- What a call of the In leaves of both. -/
theorem bi_in {W W0 w w' : World} {xb gi gr h h' : Nat} {ki ki' kr br : Option Nat} {k2 xs : List UInt8} {c2 why : Nat} (r : RIn w gr kr br k2 c2 xs why) (hm : Moved gi h h' ki ki' w w') (b : Below W.heap.size W w) (kp : w.heap[xb]? = W0.heap[xb]? ∧ xb < w.heap.size) (ne : gi ≠ gr ∧ xb ≠ gi ∧ xb ≠ gr) (lo : W.heap.size ≤ gi ∧ W.heap.size ≤ gr) (a : gr ≠ h ∧ kr ≠ some gi ∧ kr ≠ some h ∧ br ≠ some gi ∧ br ≠ some h ∧ ki ≠ some gr) (hlo : W.heap.size ≤ h) (hxh : xb ≠ h) (hgi : gi < w.heap.size) :
    RIn w' gr kr br k2 c2 xs why ∧ Below W.heap.size W w' ∧ (w'.heap[xb]? = W0.heap[xb]? ∧ xb < w'.heap.size) ∧ (gr ≠ h' ∧ kr ≠ some gi ∧ kr ≠ some h' ∧ br ≠ some gi ∧ br ≠ some h' ∧ ki' ≠ some gr) ∧ W.heap.size ≤ h' ∧ xb ≠ h' := by
  obtain ⟨a1, a2, a3, a4, a5, a6⟩ := a
  have hgr := r.blockLt
  have hs := hm.keeps.size
  have hbs := b.size
  refine ⟨r.keep hm.keeps (fun e => e.elim (fun e => ne.1 e.symm) a1) (fun k e e2 => e2.elim (fun e3 => a2 (by rw [e, e3])) (fun e3 => a3 (by rw [e, e3]))) (fun k e e2 => e2.elim (fun e3 => a4 (by rw [e, e3])) (fun e3 => a5 (by rw [e, e3]))), b.trans (hm.keeps.below b.size (fun k e => by rcases e with rfl | rfl <;> omega)), ⟨(hm.keeps.block xb kp.2 (fun e => e.elim ne.2.1 hxh)).trans kp.1, by omega⟩, ?_, ?_, ?_⟩
  · refine ⟨?_, a2, ?_, a4, ?_, ?_⟩
    · rcases hm.row with e | e | e
      · rw [e]; exact a1
      · rw [e]; exact fun e => ne.1 e.symm
      · omega
    · rcases hm.row with e | e | e
      · rw [e]; exact a3
      · rw [e]; exact a2
      · intro e2; have := r.lt.1 _ e2; omega
    · rcases hm.row with e | e | e
      · rw [e]; exact a5
      · rw [e]; exact a4
      · intro e2; have := r.lt.2 _ e2; omega
    · rcases hm.key with e | e | ⟨k, e, hk⟩
      · rw [e]; exact a6
      · rw [e]; simp
      · rw [e]; intro e2; simp at e2; omega
  · rcases hm.row with e | e | e <;> omega
  · rcases hm.row with e | e | e
    · rw [e]; exact hxh
    · rw [e]; exact ne.2.1
    · omega
/-- What a call of the document's In leaves of both. -/
theorem bi_ref {W W0 w w' : World} {xb gi gr h : Nat} {ki kr kr' br br' : Option Nat} {k1 xs : List UInt8} {c1 why : Nat} (i : InS w gi h ki k1 c1 xs why) (hm : RMoved gr kr kr' br br' w w') (b : Below W.heap.size W w) (kp : w.heap[xb]? = W0.heap[xb]? ∧ xb < w.heap.size) (ne : gi ≠ gr ∧ xb ≠ gi ∧ xb ≠ gr) (lo : W.heap.size ≤ gi ∧ W.heap.size ≤ gr) (a : gr ≠ h ∧ kr ≠ some gi ∧ kr ≠ some h ∧ br ≠ some gi ∧ br ≠ some h ∧ ki ≠ some gr) :
    InS w' gi h ki k1 c1 xs why ∧ Below W.heap.size W w' ∧ (w'.heap[xb]? = W0.heap[xb]? ∧ xb < w'.heap.size) ∧ (gr ≠ h ∧ kr' ≠ some gi ∧ kr' ≠ some h ∧ br' ≠ some gi ∧ br' ≠ some h ∧ ki ≠ some gr) := by
  obtain ⟨a1, a2, a3, a4, a5, a6⟩ := a
  have hgi := i.blockLt
  have hs := hm.keeps.size
  refine ⟨i.keep hm.keeps ne.1 (fun e => a1 e.symm) (fun k e e2 => a6 (by rw [e, e2])), b.trans (hm.keeps.below b.size (fun k e => by rw [e]; exact lo.2)), ⟨(hm.keeps.block xb kp.2 ne.2.2).trans kp.1, by have := kp.2; omega⟩, a1, ?_, ?_, ?_, ?_, a6⟩
  · rcases hm.key with e | e
    · rw [e]; exact a2
    · intro e2; have := e _ e2; omega
  · rcases hm.key with e | e
    · rw [e]; exact a3
    · intro e2; have := e _ e2; omega
  · rcases hm.row with e | e
    · rw [e]; exact a4
    · intro e2; have := e _ e2; omega
  · rcases hm.row with e | e
    · rw [e]; exact a5
    · intro e2; have := e _ e2; omega
/-- What one round of next tells: the same of both. -/
def Same2 (W W0 : World) (xb gi gr M N : Nat) (p : List UInt8) (v1 v2 : Value) (w' : World) : Prop :=
  BSl w' v1 p ∧ BSl w' v2 p ∧ ∃ (h : Nat) (ki kr br : Option Nat) (k1 k2 : List UInt8) (c1 c2 : Nat) (xs : List UInt8) (why : Nat), InS w' gi h ki k1 c1 xs why ∧ RIn w' gr kr br k2 c2 xs why ∧ BI W W0 w' xb gi gr M N
theorem nn_c {W W0 w : World} {xb gi gr M N : Nat} (B : BI W W0 w xb gi gr M N) (hcl : Cl W) (hM : M ≤ 9500) (hN : N ≤ 10000) :
    Calls Tryd.prog 27 #[.pointer (some ⟨gi, 0, none⟩)] w fun e w' => ∃ (v : Value) (p : List UInt8) (ok : Bool) (y : Nat), e = .returned (.tuple #[v, .bool ok, .int .i64 (y : Int)]) ∧ BSl w' v p ∧ (∃ ao n c, v = .slice ao n c) ∧
      Calls Tryd.prog 38 #[.pointer (some ⟨gr, 0, none⟩)] w' fun e2 w2 => ∃ v2, e2 = .returned (.tuple #[v2, .bool ok, .int .i64 (y : Int)]) ∧ (∃ ao n c, v2 = .slice ao n c) ∧ Same2 W W0 xb gi gr M (N + 1) p v v2 w2 := by
  obtain ⟨⟨h, ki, kr, br, k1, k2, c1, c2, xs, why, a1, a2, a3, a4, a5, a6, a7, a8, a9⟩, b, kp, ne, lo⟩ := B
  by_cases hw : why = 0
  · subst hw
    obtain ⟨rfl, rfl⟩ := a3.1 rfl
    refine (next_c w a1 (by omega) (hcl.fresh b) (by omega)).mono ?_
    intro e w' hN1
    have hR := fun (wx : World) (r : RIn wx gr kr br k1 c1 xs 0) => rNext_c wx r (by omega) (by omega)
    cases hr : nextR k1 c1 xs with
    | short =>
      rw [hr] at hN1 hR
      obtain ⟨rfl, hi, hm⟩ := hN1
      obtain ⟨r1, b1, kp1, d1, l1, x1⟩ := bi_in (W0 := W0) a2 hm b kp ne lo a7 a8 a9 a1.blockLt.1
      refine ⟨_, [], false, 0, rfl, bsl_none _, ⟨_, _, _, rfl⟩, (hR w' r1).mono ?_⟩
      rintro e2 w2 ⟨rfl, hr2, hm2⟩
      obtain ⟨i2, b2, kp2, d2⟩ := bi_ref (W0 := W0) hi hm2 b1 kp1 ne lo d1
      exact ⟨_, rfl, ⟨_, _, _, rfl⟩, bsl_none _, bsl_none _, h, ki, kr, br, k1, k1, c1, c1, xs, 0, i2, hr2, ⟨⟨h, ki, kr, br, k1, k1, c1, c1, xs, 0, i2, hr2, ⟨fun _ => ⟨rfl, rfl⟩, fun e => absurd rfl e⟩, a4, by omega, by omega, d2, l1, x1⟩, b2, kp2, ne, lo⟩⟩
    | bad y =>
      rw [hr] at hN1 hR
      obtain ⟨rfl, hi, hm⟩ := hN1
      obtain ⟨r1, b1, kp1, d1, l1, x1⟩ := bi_in (W0 := W0) a2 hm b kp ne lo a7 a8 a9 a1.blockLt.1
      refine ⟨_, [], false, y, rfl, bsl_none _, ⟨_, _, _, rfl⟩, (hR w' r1).mono ?_⟩
      rintro e2 w2 ⟨rfl, hr2, hm2⟩
      obtain ⟨i2, b2, kp2, d2⟩ := bi_ref (W0 := W0) hi hm2 b1 kp1 ne lo d1
      have hy : y ≠ 0 := by
        rintro rfl
        rw [nextR] at hr
        split at hr
        · cases hr
        · split at hr
          · rename_i h1; injection hr with hr; exact h1 hr
          · split at hr
            · cases hr
            · split at hr
              · rename_i h1; injection hr with hr; exact h1 hr
              · split at hr
                · rename_i h1; injection hr with hr; exact h1 hr
                · cases hr
      exact ⟨_, rfl, ⟨_, _, _, rfl⟩, bsl_none _, bsl_none _, gi, none, kr, none, [], k1, 0, c1, [], y, i2, hr2, ⟨⟨gi, none, kr, none, [], k1, 0, c1, [], y, i2, hr2, ⟨fun e => absurd e hy, fun _ => rfl⟩, by simp, by omega, by omega, d2, l1, x1⟩, b2, kp2, ne, lo⟩⟩
    | told p rest =>
      rw [hr] at hN1 hR
      obtain ⟨v, h', rfl, hbv, hvk, hi, hm⟩ := hN1
      obtain ⟨r1, b1, kp1, d1, l1, x1⟩ := bi_in (W0 := W0) a2 hm b kp ne lo a7 a8 a9 a1.blockLt.1
      have hgrl := a2.blockLt
      refine ⟨_, p, true, 0, rfl, hbv, by obtain ⟨ao, cp, e⟩ := hbv.len; exact ⟨_, _, _, e⟩, (hR w' r1).mono ?_⟩
      rintro e2 w2 ⟨v2, bb2, rfl, hb2, hr2, hm2⟩
      obtain ⟨i2, b2, kp2, d2⟩ := bi_ref (W0 := W0) hi hm2 b1 kp1 ne lo d1
      have hrl : rest.length ≤ M := by
        have : rest = restAt k1 xs := by
          rw [nextR] at hr
          split at hr
          · cases hr
          · split at hr
            · cases hr
            · split at hr
              · cases hr
              · split at hr
                · cases hr
                · split at hr
                  · cases hr
                  · injection hr with _ hr; exact hr.symm
        rw [this, restAt, List.length_drop]
        omega
      exact ⟨_, rfl, by obtain ⟨ao, cp, e⟩ := hb2.len; exact ⟨_, _, _, e⟩, hbv.keep hm2.keeps (fun k e e2 => by have := hvk k e; omega), hb2, h', ki, kr, bb2, k1, k1, c1 + 1, c1 + 1, rest, 0, i2, hr2, ⟨⟨h', ki, kr, bb2, k1, k1, c1 + 1, c1 + 1, rest, 0, i2, hr2, ⟨fun _ => ⟨rfl, rfl⟩, fun e => absurd rfl e⟩, hrl, by omega, by omega, d2, l1, x1⟩, b2, kp2, ne, lo⟩⟩
  · obtain rfl : xs = [] := a3.2 hw
    refine (next_no w hw a1).mono ?_
    rintro e w' ⟨rfl, hi, hm⟩
    obtain ⟨r1, b1, kp1, d1, l1, x1⟩ := bi_in (W0 := W0) a2 hm b kp ne lo a7 a8 a9 a1.blockLt.1
    have hR := fun (wx : World) (r : RIn wx gr kr br k2 c2 [] why) => rNext_no wx hw r
    refine ⟨_, [], false, why, rfl, bsl_none _, ⟨_, _, _, rfl⟩, (hR w' r1).mono ?_⟩
    rintro e2 w2 ⟨rfl, hr2, hm2⟩
    obtain ⟨i2, b2, kp2, d2⟩ := bi_ref (W0 := W0) hi hm2 b1 kp1 ne lo d1
    exact ⟨_, rfl, ⟨_, _, _, rfl⟩, bsl_none _, bsl_none _, gi, none, kr, br, [], k2, 0, c2, [], why, i2, hr2, ⟨⟨gi, none, kr, br, [], k2, 0, c2, [], why, i2, hr2, ⟨fun e => absurd e hw, fun _ => rfl⟩, by simp, by omega, by omega, d2, l1, x1⟩, b2, kp2, ne, lo⟩⟩
theorem fd_c {W W0 w : World} {xb gi gr M N : Nat} (B : BI W W0 w xb gi gr M N) (v : Value) (ys : List UInt8) (hv : BSl W0 v ys) (hvb : ∀ k, v.ownBlock = some k → k = xb) (hM : M + ys.length ≤ 100000) :
    Calls Tryd.prog 18 #[.pointer (some ⟨gi, 0, none⟩), v] w fun e w' => e = .returned (.tuple #[]) ∧
      Calls Tryd.prog 19 #[.pointer (some ⟨gr, 0, none⟩), v] w' fun e2 w2 => e2 = .returned (.tuple #[]) ∧ BI W W0 w2 xb gi gr (M + ys.length) N := by
  obtain ⟨⟨h, ki, kr, br, k1, k2, c1, c2, xs, why, a1, a2, a3, a4, a5, a6, a7, a8, a9⟩, b, kp, ne, lo⟩ := B
  by_cases hw : why = 0
  · subst hw
    refine (feed_c v ys w a1 (hv.atBlock hvb kp.1) (by omega)).mono ?_
    rintro e w' ⟨rfl, h', hi, hm⟩
    obtain ⟨r1, b1, kp1, d1, l1, x1⟩ := bi_in (W0 := W0) a2 hm b kp ne lo a7 a8 a9 a1.blockLt.1
    refine ⟨rfl, (rFeed_c v ys w' r1 (hv.atBlock hvb kp1.1) (by omega)).mono ?_⟩
    rintro e2 w2 ⟨rfl, bb', hr2, hm2⟩
    obtain ⟨i2, b2, kp2, d2⟩ := bi_ref (W0 := W0) hi hm2 b1 kp1 ne lo d1
    exact ⟨rfl, ⟨⟨h', ki, kr, bb', k1, k2, c1, c2, xs ++ ys, 0, i2, hr2, ⟨fun _ => a3.1 rfl, fun e => absurd rfl e⟩, by rw [List.length_append]; omega, a5, a6, d2, l1, x1⟩, b2, kp2, ne, lo⟩⟩
  · refine (feed_no v w hw a1).mono ?_
    rintro e w' ⟨rfl, rfl⟩
    refine ⟨rfl, (rFeed_no v w' hw a2).mono ?_⟩
    rintro e2 w2 ⟨rfl, rfl⟩
    exact ⟨rfl, ⟨⟨h, ki, kr, br, k1, k2, c1, c2, xs, why, a1, a2, a3, by omega, a5, a6, a7, a8, a9⟩, b, kp, ne, lo⟩⟩
set_option maxHeartbeats 1600000 in
set_option maxRecDepth 100000 in
theorem nextLaw_c {W W0 w : World} {xb gi gr M N : Nat} (B : BI W W0 w xb gi gr M N) (hcl : Cl W) (hM : M ≤ 9500) (hN : N ≤ 9000) :
    Calls Tryd.prog 20 #[.pointer (some ⟨gi, 0, none⟩), .pointer (some ⟨gr, 0, none⟩)] w fun e w' => e = .returned (.bool true) ∧ BI W W0 w' xb gi gr M (N + 50) := by
  have HB0 := hidden B
  have HCL := hidden hcl
  clear B hcl
  go_enter Tryd.func20, Tryd.ntmps20
  go_wp2_with fail
  go_loopw [5] (fun c wr => ∃ j : Nat, j ≤ 50 ∧ c = .int .i64 (j : Int) ∧ BI W W0 wr xb gi gr M (N + j)) (fun c _ => 50 - (intOf c).toNat)
  case atStart => exact ⟨0, by omega, rfl, HB0.out⟩
  case round =>
    clear HB0
    obtain ⟨j, hj, rfl, hb⟩ := hrel
    have HB := hidden hb
    clear hb
    by_cases hlt : j < 50
    · have hlt' : (j : Int) < 50 := by omega
      have HNN := hidden (nn_c HB.out HCL.out hM (by omega))
      go_wp2_with fail
      refine HNN.out.mono ?_
      rintro e w1 ⟨v, p, ok, y, rfl, hbv, ⟨av, nv, cv, rfl⟩, hcall⟩
      have HC := hidden hcall
      clear hcall hbv HNN
      go_wp2_with fail
      refine HC.out.mono ?_
      rintro e w2 ⟨v2, rfl, ⟨av2, nv2, cv2, rfl⟩, hb1, hb2, h, ki, kr, br, k1, k2, c1, c2, xs, why, hi, hr, hB2⟩
      have hs1 := run_string hb1
      have hs2 := run_string hb2
      have HH1 := hidden (held_c w2 hi)
      have HH2 := hidden (rHeld_c w2 hr)
      have HB2 := hidden hB2
      generalize xs.length = xl at HH1 HH2
      clear hb1 hb2 hi hr hB2 HC
      cases ok
      · go_wp2_with fail
        refine HH1.out.mono ?_
        rintro e w3 ⟨rfl, hw3⟩
        subst hw3
        go_wp2_with fail
        refine HH2.out.mono ?_
        rintro e w4 ⟨rfl, hw4⟩
        subst hw4
        go_wp2
        go_ret
        exact ⟨rfl, HB2.out.more (Nat.le_refl _) (by omega)⟩
      · go_wp2_with fail
        refine HH1.out.mono ?_
        rintro e w3 ⟨rfl, hw3⟩
        subst hw3
        go_wp2_with fail
        refine HH2.out.mono ?_
        rintro e w4 ⟨rfl, hw4⟩
        subst hw4
        go_wp2
        go_roundw
        case rel => exact ⟨j + 1, by omega, by go_num, HB2.out⟩
        case measure => simp [intOf]; omega
    · have hlt' : ¬ (j : Int) < 50 := by omega
      go_wp2
      go_ret
      exact ⟨rfl, HB.out.more (Nat.le_refl _) (by omega)⟩

set_option maxHeartbeats 800000 in
set_option maxRecDepth 100000 in
theorem payloads_b (v : Value) (n : Nat) (w0 w : World) (hv : LSl w0 v n) (hb0 : Below w0.heap.size w0 w) :
    Calls Tryd.prog 26 #[v] w fun e w' => ∃ v' ps, e = .returned v' ∧ PLs w0 w' v' ps ∧ Below w.heap.size w w' ∧ ∀ k, v'.ownBlock = some k → w.heap.size ≤ k := by
  have HB0 := hidden hb0
  obtain ⟨i0, hi, hz0, hz1, hz2⟩ := info_parts Tryd.infoBs
  obtain ⟨ao, cap, rfl, hc1, hc2, hc⟩ := hv
  unfold maxLen at hc2
  have HCC := hidden hc
  clear hc hb0
  go_enter Tryd.func26, Tryd.ntmps26
  go_wp2_with fail
  go_loopw [3, 4] (fun o i wr => ∃ (j : Nat) (ps : List (List UInt8)), j ≤ n ∧ j ≤ 12 ∧ ps.length ≤ j ∧ i = .int .i64 (j : Int) ∧ PLs w0 wr o ps ∧ Below w.heap.size w wr ∧ ∀ k, o.ownBlock = some k → w.heap.size ≤ k) (fun _ i _ => 12 - (intOf i).toNat)
  case atStart => exact ⟨0, [], by omega, by omega, by simp, rfl, ⟨⟨[], rfl, World.ownsRow_nil _ _ _ _, fun i hi => by simp at hi⟩, fun i hi => by simp at hi, by simp⟩, Below.refl _ _, fun k e => by simp [Value.ownBlock] at e⟩
  case round =>
    obtain ⟨j, ps, hj, hj12, hps, rfl, hp, hb, hok⟩ := hrel
    have HOK := hidden hok
    have HP := hidden hp
    have HB := hidden hb
    have HPS := hidden hps
    obtain ⟨ap, cp, rfl⟩ := hp.shape
    have hsz : w.heap.size ≤ wr.heap.size := hb.size
    have HB0R : Hid (Below w0.heap.size w0 wr) := HB0.out.trans (HB.out.mono HB0.out.size)
    clear hp hb hps hok
    by_cases hlt : j < n
    · have hlt' : (j : Int) < (n : Int) := by omega
      by_cases h12 : j < 12
      · have h12' : (j : Int) < 12 := by omega
        obtain ⟨b, off, e, u, us, hcell, hbs⟩ := HCC.out j hlt
        subst e
        have hcell' := cell_kept hcell HB0R.out
        obtain ⟨au, cu, rfl⟩ := hbs.len
        have HBS := hidden hbs
        clear hbs hcell
        by_cases hz : us.length = 0
        · have hz1' : ¬ (0 : Int) < (us.length : Int) := by omega
          go_wp2
          go_roundw
          case rel => exact ⟨j + 1, ps, by omega, by omega, by have := HPS.out; omega, by go_num, HP.out, HB.out, HOK.out⟩
          case measure => simp [intOf]; omega
        · have hz1' : (0 : Int) < (us.length : Int) := by omega
          have HCUT := hidden (cut_c 200 (by omega) (.slice au us.length cu) us wr (HBS.out.fresh HB0R.out))
          go_wp2_with fail
          refine HCUT.out.mono ?_
          rintro e w2 ⟨v2, rfl, hb2, hob, hw2⟩
          subst hw2
          have hbW : BSl w0 v2 (us.take 200) := by
            obtain ⟨a2, c2, h1, h2, h3, h4, h5⟩ := hb2
            refine ⟨a2, c2, h1, h2, h3, h4, fun ad e hne => ?_⟩
            obtain ⟨bb, oo, e1, hcc⟩ := h5 ad e hne
            refine ⟨bb, oo, e1, fun q x hx => ?_⟩
            have hlt3 : bb < w0.heap.size := by
              subst h1
              subst e
              subst e1
              have : us ≠ [] := by rintro rfl; simp at hz
              obtain ⟨b3, o3, c3, e3, hlt3⟩ := HBS.out.nonnil this
              rw [e3] at hob
              simp [Value.ownBlock] at hob
              omega
            rw [← hcc q x hx]
            exact (World.cell?_of_block (HB0R.out.block bb hlt3)).symm
          obtain ⟨a2, c2, rfl⟩ := hb2.len
          obtain ⟨vs, k1, k2, k3⟩ := HP.out.ex
          have hl2 : (us.take 200).length ≤ 200 ∧ 1 ≤ (us.take 200).length := by rw [List.length_take]; omega
          have HE : Hid (BSl w0 (.slice a2 (us.take 200).length c2) (us.take 200)) := hbW
          generalize us.take 200 = q at HE hl2 ⊢
          generalize hql : q.length = ql at HE ⊢
          have HQL := hidden hql
          have HLL := hidden hl2
          have K2 := hidden k2
          have K1 := hidden k1
          have K3 := hidden k3
          have hpl : ps.length ≤ 12 := by have := HPS.out; omega
          clear hb2 hbW k1 k2 k3 hl2 hql HCUT hob
          go_wp2_with (refine wpList_append_src _ rfl (.tmp 21) (.tmp 27) 38 38 rfl w0.heap.size 22 i0 _ 24 Tryd.underlying38 hi hz0 hz1 hz2 rfl (.slice ap ps.length cp) ps.length vs rfl (K2.out.alloc _) _ 1 _ rfl (srcSl (heap_alloc_new _ _)) (by unfold maxLen; omega) (by omega) (by have := HB0R.out.size; simp; omega) _ rfl ?_)
          intro v' w9 hown hgrow hnil hat
          have hb9 : Below w.heap.size w w9 := (HB.out.alloc hsz _).grown hgrow (by simp; omega) (fun k hk => HOK.out k hk)
          have HB9 := hidden hb9
          have HO9 : Hid (∀ k, v'.ownBlock = some k → w.heap.size ≤ k) := fun k e => by
            rcases hat with e2 | e2
            · exact HOK.out k (by rw [← e2, e])
            · rw [e2] at e
              simp at e
              omega
          have HP9 : Hid (PLs w0 w9 v' (ps ++ [q])) := by
            refine ⟨⟨vs ++ [.slice a2 ql c2], by have := K1.out; simp; omega, by simpa using hown, fun i hi => ?_⟩, fun i hi => ?_, by have := HPS.out; simp; omega⟩
            · by_cases e : i < ps.length
              · have h1 := K3.out i e
                have h2 := K1.out
                simp only [List.getD_eq_getElem?_getD] at h1 ⊢
                rw [List.getElem?_append_left (by omega), List.getElem?_append_left (by omega)]
                exact h1
              · obtain rfl : i = ps.length := by simp at hi; omega
                have h2 := K1.out
                simp only [List.getD_eq_getElem?_getD]
                rw [← h2, List.getElem?_append_right (Nat.le_refl _), h2, List.getElem?_append_right (Nat.le_refl _)]
                simpa using HE.out
            · by_cases e : i < ps.length
              · have h1 := HP.out.each i e
                simp only [List.getD_eq_getElem?_getD] at h1 ⊢
                rw [List.getElem?_append_left (by omega)]
                exact h1
              · obtain rfl : i = ps.length := by simp at hi; omega
                simp only [List.getD_eq_getElem?_getD]
                rw [List.getElem?_append_right (Nat.le_refl _)]
                have := HLL.out
                have := HQL.out
                simp
                omega
          clear hown hgrow hnil hat hb9
          go_wp2
          go_roundw
          case rel => exact ⟨j + 1, ps ++ [q], by omega, by omega, by have := HPS.out; simp; omega, by go_num, HP9.out, HB9.out, HO9.out⟩
          case measure => simp [intOf]; omega
      · have h12' : ¬ (j : Int) < 12 := by omega
        go_wp2
        go_ret
        exact ⟨_, rfl, ⟨_, HP.out⟩, HB.out, HOK.out⟩
    · have hlt' : ¬ (j : Int) < (n : Int) := by omega
      go_wp2
      go_ret
      exact ⟨_, rfl, ⟨_, HP.out⟩, HB.out, HOK.out⟩
/-- The document's Out, an In and the document's In, side by side, made since W and below B. -/
structure Trio (W w : World) (B go gi gr : Nat) (ko ki kr : Option Nat) (ky : List UInt8) (cnt : Nat) : Prop where
  o : ROut w go ko ky cnt
  i : InS w gi gi ki ky 0 [] 0
  r : RIn w gr kr none ky 0 [] 0
  b : Below W.heap.size W w
  ne : go ≠ gi ∧ go ≠ gr ∧ gi ≠ gr
  nk : ∀ k, (ko = some k ∨ ki = some k ∨ kr = some k) → k ≠ go ∧ k ≠ gi ∧ k ≠ gr ∧ k < B
  lo : W.heap.size ≤ go ∧ W.heap.size ≤ gi ∧ W.heap.size ≤ gr
  hi : go < B ∧ gi < B ∧ gr < B ∧ W.heap.size ≤ B
section
variable {W w w' : World} {B go gi gr : Nat} {ko ki kr : Option Nat} {ky : List UInt8} {cnt : Nat}
theorem Trio.fresh (T : Trio W w B go gi gr ko ki kr ky cnt) (hb : Below w.heap.size w w') : Trio W w' B go gi gr ko ki kr ky cnt :=
  ⟨T.o.fresh hb, T.i.fresh hb, T.r.fresh hb, T.b.trans (hb.mono T.b.size), T.ne, T.nk, T.lo, T.hi⟩
theorem Trio.up (T : Trio W w B go gi gr ko ki kr ky cnt) {B' : Nat} (h : B ≤ B') : Trio W w B' go gi gr ko ki kr ky cnt :=
  ⟨T.o, T.i, T.r, T.b, T.ne, fun k e => ⟨(T.nk k e).1, (T.nk k e).2.1, (T.nk k e).2.2.1, by have := (T.nk k e).2.2.2; omega⟩, T.lo, by have := T.hi; omega⟩
/-- Only blocks from B on turn. -/
theorem Trio.above (T : Trio W w B go gi gr ko ki kr ky cnt) {S : Nat → Prop} (hk : Keeps S w w') (hS : ∀ k, S k → B ≤ k) : Trio W w' B go gi gr ko ki kr ky cnt := by
  have hh := T.hi
  have nS : ∀ k, k < B → ¬ S k := fun k hk hs => by have := hS k hs; omega
  exact ⟨T.o.keep hk (nS _ hh.1) (fun k e => nS k (T.nk k (.inl e)).2.2.2), T.i.keep hk (nS _ hh.2.1) (nS _ hh.2.1) (fun k e => nS k (T.nk k (.inr (.inl e))).2.2.2), T.r.keep hk (nS _ hh.2.2.1) (fun k e => nS k (T.nk k (.inr (.inr e))).2.2.2) (fun k e => by cases e), T.b.trans (hk.below T.b.size (fun k hs => by have := hS k hs; omega)), T.ne, T.nk, T.lo, T.hi⟩
theorem Trio.packed (T : Trio W w B go gi gr ko ki kr ky cnt) {c' : Nat} (ho : ROut w' go ko ky c') (hk : Keeps (fun k => k = go) w w') : Trio W w' B go gi gr ko ki kr ky c' :=
  ⟨ho, T.i.keep hk (fun e => T.ne.1 e.symm) (fun e => T.ne.1 e.symm) (fun k e e2 => (T.nk k (.inr (.inl e))).1 e2), T.r.keep hk (fun e => T.ne.2.1 e.symm) (fun k e e2 => (T.nk k (.inr (.inr e))).1 e2) (fun k e => by cases e), T.b.trans (hk.below T.b.size (fun k e => by rw [e]; exact T.lo.1)), T.ne, T.nk, T.lo, T.hi⟩
/-- From there on both Ins alone. -/
theorem Trio.bi (T : Trio W w B go gi gr ko ki kr ky cnt) {xb : Nat} (hx : xb < w.heap.size) (hxi : xb ≠ gi) (hxr : xb ≠ gr) : BI W w w xb gi gr 0 0 :=
  ⟨⟨gi, ki, kr, none, ky, ky, 0, 0, [], 0, T.i, T.r, ⟨fun _ => ⟨rfl, rfl⟩, fun e => absurd rfl e⟩, by simp, by omega, by omega, ⟨fun e => T.ne.2.2 e.symm, fun e => (T.nk _ (.inr (.inr e))).2.1 rfl, fun e => (T.nk _ (.inr (.inr e))).2.1 rfl, by simp, by simp, fun e => (T.nk _ (.inr (.inl e))).2.2.1 rfl⟩, T.lo.2.1, hxi⟩, T.b, ⟨rfl, hx⟩, ⟨T.ne.2.2, hxi, hxr⟩, T.lo.2⟩
end

theorem ORow.owns {w : World} {base g cap : Nat} {xs : List UInt8} (h : ORow w base g cap xs) : w.ownsRow base 5 1 (.slice (some ⟨g, 0, none⟩) xs.length cap) xs.length (bcells xs) := by
  obtain ⟨h1, h2, h3, cur, h4, h5, h6⟩ := h
  exact ⟨by rw [bcells_length]; omega, .inr ⟨g, cap, cur, rfl, h1, h4, h2, h3, by omega, by simpa using h6⟩⟩
set_option maxHeartbeats 6400000 in
set_option maxRecDepth 100000 in
theorem packetReads_c (v0 v1 v2 v6 : Value) (n0 : Nat) (z1 z2 : List UInt8) (bs : Bool) (a4 : Int) (t : UInt8) (n6 : Nat) (w : World) (hcl : Cl w) (h0 : LSl w v0 n0) (h1 : BSl w v1 z1) (h2 : BSl w v2 z2) (h6 : ISl w v6 n6) :
    Calls Tryd.prog 5 #[v0, v1, v2, .bool bs, .int .i64 a4, .int .u8 (t.toNat : Int), v6] w fun e w' => e = .returned (.bool true) ∧ Below w.heap.size w w' := by
  obtain ⟨i0, hi, hz0, hz1, hz2⟩ := info_parts Tryd.infoU8
  have HCL := hidden hcl
  have H0 := hidden h0
  have H1 := hidden h1
  have H2 := hidden h2
  obtain ⟨ai, ci, rfl, hi3a, hi3b, hi3c⟩ := h6
  have HIC := hidden hi3c
  unfold maxLen at hi3b
  clear hcl h0 h1 h2 hi3c
  go_enter Tryd.func5, Tryd.ntmps5
  go_wp2_with fail
  refine (sized_b 32 (by omega) v2 z2 w H2.out).mono ?_
  rintro e w1 ⟨rfl, hs1, hb1⟩
  have HS1 := hidden hs1
  have HB1 := hidden hb1
  have HKL := hidden (sizedL_length z2 32)
  generalize sizedL z2 32 = key at HS1 HKL
  obtain ⟨gk, hgk⟩ : ∃ gk, gk = w.heap.size := ⟨_, rfl⟩
  rw [← hgk] at HS1
  rw [show (Value.slice (some ⟨w.heap.size, 0, none⟩) 32 32) = .slice (some ⟨gk, 0, none⟩) 32 32 by rw [hgk]]
  have HGK1 : Hid (gk < w1.heap.size) := by
    obtain ⟨b, o, c, e, hlt⟩ := HS1.out.nonnil (by intro e; have := HKL.out; rw [e] at this; simp at this)
    have e2 := congrArg Value.ownBlock e
    simp [Value.ownBlock] at e2
    show _ < _
    omega
  have HCL1 := hidden (HCL.out.fresh HB1.out)
  have HGK0 := HGK1
  clear hs1 hb1 hgk
  go_wp2_with fail
  have hbA := (Below.refl w1.heap.size w1).alloc (Nat.le_refl _) (.cells #[.slice none 0 0, .int .u64 0] 29)
  have HRA := hidden (rout_new w1)
  have hsA : (w1.alloc (.cells #[.slice none 0 0, .int .u64 0] 29)).heap.size = w1.heap.size + 1 := by simp
  have HBA := hidden hbA
  have HSA := hidden hsA
  generalize w1.alloc (.cells #[.slice none 0 0, .int .u64 0] 29) = wA at HRA HBA HSA ⊢
  clear hbA hsA
  refine (newIn_c wA).mono ?_
  rintro e w3 ⟨rfl, hi3, hb3⟩
  have hbC := (Below.refl w3.heap.size w3).alloc (Nat.le_refl _) (.cells #[.slice none 0 0, .int .u64 0, .slice none 0 0, .int .i64 0] 43)
  have HT4 : Hid (Trio w1 (w3.alloc (.cells #[.slice none 0 0, .int .u64 0, .slice none 0 0, .int .i64 0] 43)) (w3.alloc (.cells #[.slice none 0 0, .int .u64 0, .slice none 0 0, .int .i64 0] 43)).heap.size w1.heap.size wA.heap.size w3.heap.size none none none [] 0) := by
    have e1 := HSA.out
    have e2 := hi3.blockLt
    have e3 : (w3.alloc (.cells #[.slice none 0 0, .int .u64 0, .slice none 0 0, .int .i64 0] 43)).heap.size = w3.heap.size + 1 := by simp
    refine ⟨(HRA.out.fresh hb3).fresh hbC, hi3.fresh hbC, rin_new w3, (HBA.out.trans (hb3.mono HBA.out.size)).trans (hbC.mono (by omega)), ⟨by omega, by omega, by omega⟩, fun k e => by simp at e, ⟨by omega, by omega, by omega⟩, by omega⟩
  have HS4 := hidden (((HS1.out.fresh HBA.out).fresh hb3).fresh hbC)
  generalize w1.heap.size = go at HT4 HGK1 ⊢
  generalize wA.heap.size = gi at HT4 ⊢
  clear hi3 hb3 hbC HRA HBA HSA HS1
  go_upto_if 35 with fail
  generalize w3.heap.size = gr at HT4 ⊢
  generalize w3.alloc (.cells #[.slice none 0 0, .int .u64 0, .slice none 0 0, .int .i64 0] 43) = w4 at HT4 HS4 ⊢
  go_cut [38] from 36 to 44 (fun _ wx => ∃ (ko ki kr : Option Nat) (ky : List UInt8), Trio w1 wx wx.heap.size go gi gr ko ki kr ky 0)
  case first =>
    cases bs
    · go_wp2_with fail
      go_meet
      case rel => exact ⟨none, none, none, [], HT4.out⟩
    · go_wp2_with fail
      refine (rOutKeys_c _ key w4 HT4.out.o HS4.out HKL.out).mono ?_
      rintro e w5 ⟨rfl, ko5, ho5, hk5, hn5⟩
      have hg4 := HT4.out.hi
      have HS5 := hidden (HS4.out.keep hk5 (fun k e e2 => by simp [Value.ownBlock] at e; have h1 := HGK1.out; omega))
      have HI5 := hidden (HT4.out.i.keep hk5 (fun e => HT4.out.ne.1 e.symm) (fun e => HT4.out.ne.1 e.symm) (fun k e => by cases e))
      have HR5 := hidden (HT4.out.r.keep hk5 (fun e => HT4.out.ne.2.1 e.symm) (fun k e => by cases e) (fun k e => by cases e))
      have HO5 := hidden ho5
      have HN5 := hidden hn5
      have HB5 : Hid (Below w1.heap.size w1 w5) := HT4.out.b.trans (hk5.below HT4.out.b.size (fun k e => by rw [e]; exact HT4.out.lo.1))
      have HZ5 : Hid (w4.heap.size ≤ w5.heap.size) := hk5.size
      clear ho5 hk5 hn5
      go_wp2_with fail
      refine (inKeys_c _ key w5 HI5.out HS5.out HKL.out).mono ?_
      rintro e w6 ⟨rfl, ki6, hi6, hm6⟩
      have HI6 := hidden hi6
      have HM6 := hidden hm6
      have HS6 := hidden (HS5.out.keep hm6.keeps (fun k e e2 => by simp [Value.ownBlock] at e; have h1 := HGK0.out; have h2 := HT4.out.lo; rcases e2 with e2 | e2 <;> omega))
      have HR6 := hidden (HR5.out.keep hm6.keeps (fun e => by have := HT4.out.ne.2.2; rcases e with e | e <;> omega) (fun k e => by cases e) (fun k e => by cases e))
      clear hi6 hm6
      go_wp2_with fail
      refine (rInKeys_c _ key w6 HR6.out HS6.out HKL.out).mono ?_
      rintro e w7 ⟨rfl, kr7, hr7, hm7⟩
      have HT7 : Hid (Trio w1 w7 w7.heap.size go gi gr ko5 ki6 kr7 key 0) := by
        have hh := HT4.out.hi
        have hne := HT4.out.ne
        have hlo := HT4.out.lo
        have z5 := HZ5.out
        have z6 := HM6.out.keeps.size
        have z7 := hm7.keeps.size
        have k6 : ∀ k, ki6 = some k → w5.heap.size ≤ k := fun k e => by
          rcases HM6.out.key with e1 | e1 | ⟨k', e1, hk'⟩
          · rw [e1] at e; cases e
          · rw [e1] at e; cases e
          · rw [e1] at e; injection e with e; omega
        have k7 : ∀ k, kr7 = some k → w6.heap.size ≤ k := fun k e => by
          rcases hm7.key with e1 | e1
          · rw [e1] at e; cases e
          · exact e1 k e
        have b6 : Below w1.heap.size w1 w6 := HB5.out.trans (HM6.out.keeps.below HB5.out.size (fun k e => by rcases e with e | e <;> omega))
        refine ⟨(HO5.out.keep HM6.out.keeps (fun e => by rcases e with e | e <;> omega) (fun k e e2 => by have := HN5.out k e; rcases e2 with e2 | e2 <;> omega)).keep hm7.keeps (fun e => by omega) (fun k e e2 => by have := HN5.out k e; omega), HI6.out.keep hm7.keeps (fun e => by omega) (fun e => by omega) (fun k e e2 => by have := k6 k e; omega), hr7, b6.trans (hm7.keeps.below b6.size (fun k e => by omega)), hne, fun k e => ?_, hlo, by have := b6.size; omega⟩
        rcases e with e | e | e
        · have h1 := HN5.out k e; have h2 := HO5.out.lt k e; omega
        · have h1 := k6 k e; have h2 := HI6.out.lt k e; omega
        · have h1 := k7 k e; have h2 := hr7.lt.1 k e; omega
      clear hr7 hm7
      go_wp2_with fail
      go_meet
      case rel => exact ⟨ko5, ki6, kr7, key, HT7.out⟩
  case rest =>
    obtain ⟨ko, ki, kr, ky, hT⟩ := hcut
    have HT := hidden hT
    have HBw : Hid (Below w.heap.size w wc) := HB1.out.trans (hT.b.mono HB1.out.size)
    clear hT HT4 HS4
    go_wp2_with fail
    refine (payloads_b v0 n0 w wc H0.out HBw.out).mono ?_
    rintro e w6 ⟨vp, ps, rfl, hpl, hb6, hok6⟩
    have HP := hidden hpl
    have HOK := hidden hok6
    obtain ⟨ap, cp, rfl⟩ := hpl.shape
    obtain ⟨n, hn⟩ : ∃ n, n = ps.length := ⟨_, rfl⟩
    have HN := hidden hn
    have hn12 : n ≤ 12 := by have := hpl.few; omega
    rw [← hn] at HP HOK ⊢
    have HEACH : Hid (∀ i, i < n → 1 ≤ (ps.getD i []).length ∧ (ps.getD i []).length ≤ 200) := fun i hi => HP.out.each i (by have := HN.out; omega)
    have HT6 := hidden ((HT.out.fresh hb6).up hb6.size)
    have HGW : Hid (go < wc.heap.size) := HT.out.hi.1
    obtain ⟨B, hB⟩ : ∃ B, B = w6.heap.size := ⟨_, rfl⟩
    rw [← hB] at HT6
    have HPB : Hid (∀ k, (Value.slice ap n cp).ownBlock = some k → k < B) := fun k e => by rw [hB]; exact (HP.out.lt k e).2
    have HBB := hidden hB
    clear hpl hb6 hok6 hn hB HT HBw
    go_wp2_with fail
    go_loopw [18, 20] (fun xv c wr => ∃ (j : Nat) (X : List UInt8), j ≤ n ∧ X.length ≤ 332 * j ∧ c = .int .i64 (j : Int) ∧ wr.ownsRow B 5 1 xv X.length (bcells X) ∧ Trio w1 wr B go gi gr ko ki kr ky j ∧ PLs w wr (.slice ap n cp) ps ∧ B ≤ wr.heap.size) (fun _ c _ => n - (intOf c).toNat)
    case atStart => exact ⟨0, [], by omega, by simp, rfl, World.ownsRow_nil _ _ _ _, HT6.out, HP.out, by have := HBB.out; omega⟩
    case round =>
      clear HT6 HP
      obtain ⟨j, X, hj, hXl, rfl, hrow, hT, hp, hBw⟩ := hrel
      have HROW := hidden hrow
      have HT := hidden hT
      have HP := hidden hp
      have HBW := hidden hBw
      obtain ⟨ax, cx, rfl⟩ := ownsRow_shape hrow
      clear hrow hT hp hBw
      by_cases hlt : j < n
      · have hlt' : (j : Int) < (n : Int) := by omega
        have HBw : Hid (Below w.heap.size w wr) := HB1.out.trans (HT.out.b.mono HB1.out.size)
        obtain ⟨pg, hpg⟩ : ∃ pg, ap = some ⟨pg, 0, none⟩ := by
          obtain ⟨g, cap, u, e, _⟩ := HP.out.at HBw.out 0 (by have := HN.out; omega)
          cases e
          exact ⟨g, rfl⟩
        subst hpg
        have hcpm : n ≤ cp ∧ cp ≤ maxLen := by
          obtain ⟨g, cap, u, e, _, _, h1, h2⟩ := HP.out.at HBw.out 0 (by have := HN.out; omega)
          cases e
          exact ⟨by have := HN.out; omega, h2⟩
        obtain ⟨hcp1, hcp2⟩ := hcpm
        unfold maxLen at hcp2
        obtain ⟨u, hcell, hbs⟩ := HP.out.get HBw.out j (by have := HN.out; omega)
        have hej := HEACH.out j hlt
        have HPK := hidden (rPacket_c u _ wr HT.out.o hbs hej.1 (by omega) (by omega))
        obtain ⟨xl, hxl⟩ : ∃ xl, xl = X.length := ⟨_, rfl⟩
        rw [← hxl] at HROW hXl ⊢
        have HXL := hidden hxl
        clear hbs hxl
        go_wp2_with fail
        refine HPK.out.mono ?_
        rintro e w9 ⟨v9, rfl, hb9, hv9, ho9, hk9⟩
        have hqle := packetL_le HT.out.o.ok j (ps.getD j []) (by omega)
        generalize packetL ky j (ps.getD j []) = Q at hb9 hqle
        have hh := HT.out.hi
        have HT9 := hidden (HT.out.packed ho9 hk9)
        have HP9 := hidden (HP.out.keep hk9 (fun k e e2 => by have h1 := HOK.out k e; have h2 := HGW.out; omega))
        have HROW9 := hidden (hk9.row HROW.out (fun k e e2 => by have h1 := (HROW.out.lt k e).1; omega))
        have hbw9 : B ≤ w9.heap.size := Nat.le_trans HBW.out hk9.size
        have HSRC := hidden hb9.src
        obtain ⟨aq, cq, eq9⟩ := hb9.len
        generalize hql : Q.length = ql at eq9 hqle HSRC
        have HQL := hidden hql
        subst eq9
        have hj12 : (j : Int) ≤ 12 := by omega
        have hxl4 : xl ≤ 4000 := by omega
        clear hb9 hv9 ho9 hk9 hcell HPK hql HROW HP hh
        go_wp2_with (refine wpList_append_src _ rfl (.tmp 62) (.tmp 63) 22 22 rfl B 5 i0 _ 1 Tryd.underlying22 hi hz0 hz1 hz2 rfl (.slice ax xl cx) xl _ rfl HROW9.out _ ql _ rfl HSRC.out (by unfold maxLen; omega) (by omega) hbw9 w9.heap.size rfl ?_)
        intro v' w10 hown hgrow hnil hat
        have hkg : Keeps (fun k => (Value.slice ax xl cx).ownBlock = some k) w9 w10 := Keeps.ofGrown hgrow (fun k e => e)
        have HT10 := hidden (HT9.out.above hkg (fun k e => (HROW9.out.lt k e).1))
        have HP10 := hidden (HP9.out.keep hkg (fun k e e2 => by have h1 := (HROW9.out.lt k e2).1; have h2 := HPB.out k e; omega))
        have HR10 : Hid (w10.ownsRow B 5 1 v' (X ++ Q).length (bcells (X ++ Q))) := by
          show World.ownsRow _ _ _ _ _ _ _
          rw [List.length_append, bcells_append, ← HXL.out, HQL.out]
          exact hown
        have HBW10 : Hid (B ≤ w10.heap.size) := Nat.le_trans hbw9 hkg.size
        have HLX : Hid ((X ++ Q).length ≤ 332 * (j + 1)) := by
          show _ ≤ _
          rw [List.length_append, ← HXL.out, HQL.out]
          omega
        clear hown hgrow hnil hat hkg
        go_wp2
        go_roundw
        case rel => exact ⟨j + 1, X ++ Q, by omega, HLX.out, by go_num, HR10.out, HT10.out, HP10.out, HBW10.out⟩
        case measure => simp [intOf]; omega
      · have hlt' : ¬ (j : Int) < (n : Int) := by omega
        have ejn : n = j := by omega
        subst ejn
        have hXB : X.length ≤ 4000 := by omega
        obtain ⟨xl, hxl⟩ : ∃ xl, xl = X.length := ⟨_, rfl⟩
        rw [← hxl] at HROW hXB ⊢
        have HXL := hidden hxl
        obtain ⟨wo, ewo⟩ : ∃ x, x = wr := ⟨wr, rfl⟩
        subst ewo
        clear hxl hXl HP
        go_upto_if 67 with fail
        go_cut [23] from 65 to 81 (fun _ wx => ∃ X' : List UInt8, X'.length = xl ∧ wx.ownsRow B 5 1 (.slice ax xl cx) xl (bcells X') ∧ Trio w1 wx B go gi gr ko ki kr ky n ∧ B ≤ wx.heap.size)
        case first =>
          by_cases hx0 : xl = 0
          · have hx1 : decide ((0 : Int) < (xl : Int)) = false := by simp; omega
            have hx2 : ¬ (0 : Int) < (xl : Int) := by omega
            clear hx0
            go_wp2_with fail
            go_meet
            case rel => exact ⟨X, HXL.out.symm, HROW.out, HT.out, HBW.out⟩
          · have hx2 : (0 : Int) < (xl : Int) := by omega
            have hXne : X ≠ [] := by intro e; have := HXL.out; rw [e] at this; simp at this; omega
            have hrw := HROW.out
            obtain ⟨g2, c2, ev8, hor⟩ := ORow.ofOwns hrw hXne
            rw [← HXL.out] at ev8
            injection ev8 with ev1 _ ev3
            subst ev1 ev3
            have HOR := hidden hor
            have hWI := within_x a4 (xl - 1) (by omega) wo
            have hkm := wn_le a4 (xl - 1)
            rw [show (((xl - 1 : Nat)) : Int) = (xl : Int) - 1 by omega] at hWI
            generalize wn a4 (xl - 1) = k at hWI hkm
            have HWI := hidden hWI
            have hkx : k < xl := by omega
            have hk0 : (0 : Int) ≤ (k : Int) := by omega
            have hk1 : (k : Int) < (xl : Int) := by omega
            have hcell8 := hor.cell k (by have := HXL.out; omega)
            have hfz := hor.frozen k
            have hx := xbyte (X.getD k 0) t
            obtain ⟨y, hy⟩ : ∃ y, y = X.getD k 0 ^^^ t := ⟨_, rfl⟩
            rw [← hy] at hx
            have HOT := hidden (hor.set k y)
            have hkk := keepSet (fun q => q = g2) wo g2 k (.int .u8 (y.toNat : Int)) rfl
            have HTT := hidden (HT.out.above hkk (fun q e => by rw [e]; exact hor.1))
            have HBZ : Hid (B ≤ (wo.setCell ⟨g2, k, none⟩ (.int .u8 (y.toNat : Int))).heap.size) := by rw [World.size_setCell]; exact HBW.out
            have hcm2 := hor.2.2.1
            have hcm3 := hor.2.1
            unfold maxLen at hcm2
            rw [← HXL.out] at hcm3
            generalize (X.getD k 0).toNat = q0 at hcell8 hx
            have hxl5 : (xl : Int) ≤ 4000 := by omega
            clear hor hrw hy hkk hWI hXne
            go_wp2_with fail
            refine HWI.out.mono ?_
            rintro e w9 ⟨rfl, hw9⟩
            subst hw9
            go_wp2_with fail
            go_meet
            case rel => exact ⟨X.set k y, by rw [List.length_set]; exact HXL.out.symm, by have h := HOT.out.owns; rw [List.length_set, ← HXL.out] at h; exact h, HTT.out, HBZ.out⟩
        case rest =>
          clear HROW HT HBW HXL X
          obtain ⟨X, hXl, hrow, hT, hBw⟩ := hcut
          have HROW := hidden hrow
          have HT := hidden hT
          have HBW := hidden hBw
          have HXL := hidden hXl
          have HBw : Hid (Below w.heap.size w wc) := HB1.out.trans (hT.b.mono HB1.out.size)
          clear hrow hT hBw hXl
          go_wp2_with fail
          refine (cut_c 100 (by omega) v1 z1 _ (H1.out.fresh HBw.out)).mono ?_
          rintro e w9 ⟨vz, rfl, hbz, _, hw9⟩
          subst hw9
          have hzl : (z1.take 100).length ≤ 100 := by rw [List.length_take]; omega
          generalize z1.take 100 = z at hbz hzl
          have HSRC := hidden hbz.src
          obtain ⟨az, cz, ez⟩ := hbz.len
          generalize hql : z.length = ql at ez hzl HSRC
          have HQL := hidden hql
          subst ez
          have hbw9 := HBW.out
          clear hbz hql
          go_wp2_with (refine wpList_append_src _ rfl (.tmp 82) (.tmp 84) 22 22 rfl B 5 i0 _ 1 Tryd.underlying22 hi hz0 hz1 hz2 rfl (.slice ax xl cx) xl _ rfl HROW.out _ ql _ rfl HSRC.out (by unfold maxLen; omega) (by omega) hbw9 _ rfl ?_)
          intro v' W0 hown hgrow hnil hat
          have hkg : Keeps (fun k => (Value.slice ax xl cx).ownBlock = some k) w9 W0 := Keeps.ofGrown hgrow (fun k e => e)
          have HT10 := hidden (HT.out.above hkg (fun k e => (HROW.out.lt k e).1))
          rw [← bcells_append] at hown
          obtain ⟨XX, hXX⟩ : ∃ XX, XX = X ++ z := ⟨_, rfl⟩
          rw [← hXX] at hown
          have hXXl : XX.length = xl + ql := by rw [hXX, List.length_append, HXL.out, HQL.out]
          have HXL2 : Hid (XX.length ≤ 4100) := by show _ ≤ _; omega
          rw [← hXXl] at hown
          have HX0 := hidden (BSl.ofRow hown)
          have HLT := hidden hown.lt
          have hh := HT10.out.hi
          have hsW : B ≤ W0.heap.size := Nat.le_trans hbw9 hkg.size
          obtain ⟨ax2, cx2, ev2⟩ := ownsRow_shape hown
          have HGKW : Hid (gk < W0.heap.size ∧ gk ≠ gi ∧ gk ≠ gr) := by
            have h1 := HGK0.out
            have h2 := HT10.out.lo
            have h3 := HT10.out.b.size
            refine ⟨by omega, by omega, by omega⟩
          have HXL := HXL2
          cases ax2 with
          | none =>
            have e0 : v' = .slice none 0 0 := by
              obtain ⟨a9, c9, e9, _, _, e10, _⟩ := HX0.out
              rw [ev2] at e9
              injection e9 with e9 e8 e7
              have := e10 e9.symm
              rw [ev2, e7, this.2, this.1]
              rfl
            subst e0
            obtain ⟨xb, hxb⟩ : ∃ xb, xb = gk := ⟨_, rfl⟩
            have HB0 : Hid (BI w1 W0 W0 xb gi gr 0 0) := by rw [hxb]; exact HT10.out.bi HGKW.out.1 HGKW.out.2.1 HGKW.out.2.2
            have HXB0 : Hid (∀ k, (Value.slice none 0 0).ownBlock = some k → k = xb) := fun k e => by simp [Value.ownBlock] at e
            have HSH : Hid ((Value.slice none 0 0) = (Value.slice none 0 0)) := rfl
            clear hown hgrow hnil hat hkg hXX hXXl ev2 hxb HROW HT HT10 HLT hh hsW
            go_wp2_with fail
            obtain ⟨wo2, ewo2⟩ : ∃ x, x = W0 := ⟨_, rfl⟩
            go_loopw [18, 24] (fun xv c wr => ∃ (j : Nat) (ys : List UInt8) (M : Nat), j ≤ 20 ∧ j ≤ n6 ∧ M + ys.length ≤ 4200 ∧ c = .int .i64 (j : Int) ∧ BI w1 W0 wr xb gi gr M (50 * j) ∧ BSl W0 xv ys ∧ (∀ k, xv.ownBlock = some k → k = xb) ∧ xv = .slice none 0 0) (fun _ c _ => 20 - (intOf c).toNat)
            case atStart => exact ⟨0, XX, 0, by omega, by omega, by have := HXL.out; omega, rfl, by rw [Nat.mul_zero]; exact HB0.out, HX0.out, HXB0.out, rfl⟩
            case round =>
              clear HB0 HX0 HXB0 HSH ewo2 wo2
              obtain ⟨j, ys, M, hj20, hj6, hM, rfl, hbi, hx, hxb, hsh⟩ := hrel
              have HBI := hidden hbi
              subst hsh
              obtain ⟨m, hm⟩ : ∃ m, m = ys.length := ⟨_, rfl⟩
              have HYL : Hid (ys.length = m) := hm.symm
              have hm0 : m = 0 := by
                obtain ⟨a9, c9, e9, _⟩ := hx
                injection e9 with _ e9
                omega
              rw [← hm] at hM
              clear hm
              have HX := hidden hx
              have HXB := hidden hxb
              clear hbi hx hxb
              by_cases hlt : j < n6
              · have hlt' : (j : Int) < (n6 : Int) := by omega
                by_cases h20 : j < 20
                · have h20' : (j : Int) < 20 := by omega
                  obtain ⟨bi, oi, ei, z, hzc⟩ := HIC.out j hlt
                  subst ei
                  have hzc' := cell_kept (cell_kept hzc HB1.out) HBI.out.b
                  have HWZ := hidden (within_c z 0 (by omega) wr)
                  clear hzc
                  go_wp2_with fail
                  refine HWZ.out.mono ?_
                  rintro e w10 ⟨k, rfl, hk, hw10⟩
                  subst hw10
                  clear HWZ
                  obtain rfl : k = 0 := by omega
                  have HYN : Hid (ys = []) := List.eq_nil_of_length_eq_zero (by have := HYL.out; omega)
                  have HFD := hidden (fd_c HBI.out (.slice none 0 0) ys HX.out HXB.out (by have := HYL.out; omega))
                  go_wp2_with fail
                  refine HFD.out.mono ?_
                  rintro e w11 ⟨rfl, hcall⟩
                  have HC := hidden hcall
                  clear hcall HFD
                  go_wp2_with fail
                  refine HC.out.mono ?_
                  rintro e w12 ⟨rfl, hbi⟩
                  have HBI12 := hidden hbi
                  clear hbi HC
                  go_wp2_with fail
                  refine (nextLaw_c HBI12.out HCL1.out (by have := HYL.out; omega) (by omega)).mono ?_
                  rintro e w13 ⟨rfl, hbi⟩
                  have HBI13 := hidden hbi
                  clear hbi HBI12
                  go_wp2
                  go_roundw
                  case rel => exact ⟨j + 1, ys, M + ys.length, by omega, by omega, by have := HYL.out; omega, by go_num, by have h1 := HBI13.out; rw [show 50 * (j + 1) = 50 * j + 50 by omega]; exact h1, HX.out, HXB.out, rfl⟩
                  case measure => simp [intOf]; omega
                · have h20' : ¬ (j : Int) < 20 := by omega
                  have hyl : ys.length = m := HYL.out
                  have HFD := hidden (fd_c HBI.out (.slice none 0 0) ys HX.out HXB.out (by omega))
                  go_wp2_with fail
                  refine HFD.out.mono ?_
                  rintro e w20 ⟨rfl, hcall⟩
                  have HC := hidden hcall
                  clear hcall HFD
                  go_wp2_with fail
                  refine HC.out.mono ?_
                  rintro e w21 ⟨rfl, hbi⟩
                  have HBI21 := hidden hbi
                  clear hbi HC
                  go_wp2_with fail
                  refine (nextLaw_c HBI21.out HCL1.out (by omega) (by omega)).mono ?_
                  rintro e w22 ⟨rfl, hbi⟩
                  have HBI22 := hidden hbi
                  have HKN := hidden (known_c w22 (HCL1.out.fresh hbi.b))
                  clear hbi
                  go_wp2_with fail
                  refine HKN.out.mono ?_
                  rintro e w23 ⟨rfl, hb23⟩
                  have HB23 : Hid (Below w.heap.size w w23) := HB1.out.trans ((HBI22.out.b.trans (hb23.mono HBI22.out.b.size)).mono HB1.out.size)
                  clear hb23
                  go_wp2
                  go_ret
                  exact ⟨rfl, HB23.out⟩
              · have hlt' : ¬ (j : Int) < (n6 : Int) := by omega
                have hyl : ys.length = m := HYL.out
                have HFD := hidden (fd_c HBI.out (.slice none 0 0) ys HX.out HXB.out (by omega))
                go_wp2_with fail
                refine HFD.out.mono ?_
                rintro e w20 ⟨rfl, hcall⟩
                have HC := hidden hcall
                clear hcall HFD
                go_wp2_with fail
                refine HC.out.mono ?_
                rintro e w21 ⟨rfl, hbi⟩
                have HBI21 := hidden hbi
                clear hbi HC
                go_wp2_with fail
                refine (nextLaw_c HBI21.out HCL1.out (by omega) (by omega)).mono ?_
                rintro e w22 ⟨rfl, hbi⟩
                have HBI22 := hidden hbi
                have HKN := hidden (known_c w22 (HCL1.out.fresh hbi.b))
                clear hbi
                go_wp2_with fail
                refine HKN.out.mono ?_
                rintro e w23 ⟨rfl, hb23⟩
                have HB23 : Hid (Below w.heap.size w w23) := HB1.out.trans ((HBI22.out.b.trans (hb23.mono HBI22.out.b.size)).mono HB1.out.size)
                clear hb23
                go_wp2
                go_ret
                exact ⟨rfl, HB23.out⟩
          | some a9 =>
            obtain ⟨xb, ha9⟩ : ∃ xb, a9 = ⟨xb, 0, none⟩ := by
              rcases hown.2 with ⟨e, _⟩ | ⟨g, cap, cur, e, _⟩
              · rw [ev2] at e; cases e
              · rw [ev2] at e; injection e with e; injection e with e; exact ⟨g, e⟩
            subst ha9
            subst ev2
            have hxbB := HLT.out xb rfl
            have HB0 : Hid (BI w1 W0 W0 xb gi gr 0 0) := HT10.out.bi hxbB.2 (by omega) (by omega)
            have HXB0 : Hid (∀ k, (Value.slice (some ⟨xb, 0, none⟩) XX.length cx2).ownBlock = some k → k = xb) := fun k e => by simp [Value.ownBlock] at e; exact e.symm
            have HSH : Hid (∃ off xc : Nat, Value.slice (some ⟨xb, 0, none⟩) XX.length cx2 = .slice (some ⟨xb, off, none⟩) XX.length xc) := ⟨0, cx2, rfl⟩
            clear hown hgrow hnil hat hkg hXX hXXl HROW HT HT10 HLT hh hsW hxbB
            generalize hxv : Value.slice (some ⟨xb, 0, none⟩) XX.length cx2 = xv0 at HX0 HXB0 HSH ⊢
            clear hxv
            go_wp2_with fail
            obtain ⟨wo2, ewo2⟩ : ∃ x, x = W0 := ⟨_, rfl⟩
            go_loopw [18, 24] (fun xv c wr => ∃ (j : Nat) (ys : List UInt8) (M : Nat), j ≤ 20 ∧ j ≤ n6 ∧ M + ys.length ≤ 4200 ∧ c = .int .i64 (j : Int) ∧ BI w1 W0 wr xb gi gr M (50 * j) ∧ BSl W0 xv ys ∧ (∀ k, xv.ownBlock = some k → k = xb) ∧ ∃ off xc : Nat, xv = .slice (some ⟨xb, off, none⟩) ys.length xc) (fun _ c _ => 20 - (intOf c).toNat)
            case atStart => exact ⟨0, XX, 0, by omega, by omega, by have := HXL.out; omega, rfl, by rw [Nat.mul_zero]; exact HB0.out, HX0.out, HXB0.out, HSH.out⟩
            case round =>
              clear HB0 HX0 HXB0 HSH ewo2 wo2
              obtain ⟨j, ys, M, hj20, hj6, hM, rfl, hbi, hx, hxb, hsh⟩ := hrel
              have HBI := hidden hbi
              obtain ⟨off, xc, rfl⟩ := hsh
              obtain ⟨m, hm⟩ : ∃ m, m = ys.length := ⟨_, rfl⟩
              rw [← hm] at hx hxb hM ⊢
              have HYL : Hid (ys.length = m) := hm.symm
              have hmxc : m ≤ xc ∧ xc ≤ maxLen := by
                obtain ⟨a9, c9, e9, k1, k2, _⟩ := hx
                injection e9 with _ e8 e9
                exact ⟨by omega, by omega⟩
              obtain ⟨hmx, hxcm⟩ := hmxc
              unfold maxLen at hxcm
              clear hm
              have HX := hidden hx
              have HXB := hidden hxb
              clear hbi hx hxb
              by_cases hlt : j < n6
              · have hlt' : (j : Int) < (n6 : Int) := by omega
                by_cases h20 : j < 20
                · have h20' : (j : Int) < 20 := by omega
                  obtain ⟨bi, oi, ei, z, hzc⟩ := HIC.out j hlt
                  subst ei
                  have hzc' := cell_kept (cell_kept hzc HB1.out) HBI.out.b
                  have HWZ := hidden (within_c z m (by omega) wr)
                  clear hzc
                  go_wp2_with fail
                  refine HWZ.out.mono ?_
                  rintro e w10 ⟨k, rfl, hk, hw10⟩
                  subst hw10
                  clear HWZ
                  have hk1 : (k : Int) ≤ (xc : Int) := by omega
                  have hk2 : (k : Int) ≤ (m : Int) := by omega
                  have HTK : Hid (BSl W0 (.slice (some ⟨xb, off, none⟩) k xc) (ys.take k)) := by
                    have h1 := HX.out
                    rw [← HYL.out] at h1
                    exact h1.head' (by have := HYL.out; omega)
                  have HTL : Hid ((ys.take k).length = k) := by show _ = _; rw [List.length_take]; have := HYL.out; omega
                  have HFD := hidden (fd_c HBI.out _ (ys.take k) HTK.out HXB.out (by have := HTL.out; omega))
                  go_wp2_with fail
                  refine HFD.out.mono ?_
                  rintro e w11 ⟨rfl, hcall⟩
                  have HC := hidden hcall
                  clear hcall HFD
                  go_wp2_with fail
                  refine HC.out.mono ?_
                  rintro e w12 ⟨rfl, hbi⟩
                  rw [HTL.out] at hbi
                  have HBI12 := hidden hbi
                  clear hbi HC HTK
                  go_upto_region 28 with fail
                  go_cut [18] from 86 to 119 (fun xv wx => ∃ off' xc' : Nat, xv = .slice (some ⟨xb, off', none⟩) (m - k) xc' ∧ BSl W0 xv (ys.drop k) ∧ wx = w12)
                  case first =>
                    by_cases hck : xc = k
                    · have HN0 : Hid (BSl W0 (.slice (some ⟨xb, off, none⟩) (m - k) 0) (ys.drop k)) := by
                        have e2 : ys.drop k = [] := List.eq_nil_of_length_eq_zero (by rw [List.length_drop, HYL.out]; omega)
                        show BSl _ _ _
                        rw [e2, show m - k = 0 by omega]
                        exact bsl_empty _ _ 0 (by simp [maxLen]) (fun e => by cases e)
                      go_wp2_with fail
                      go_meet
                      case rel => exact ⟨off, 0, rfl, HN0.out, rfl⟩
                    · have HN0 : Hid (BSl W0 (.slice (some ⟨xb, off + k, none⟩) (m - k) (xc - k)) (ys.drop k)) := HX.out.dropS hk
                      go_wp2_with fail
                      go_meet
                      case rel => exact ⟨off + k, xc - k, rfl, HN0.out, rfl⟩
                  case rest =>
                    obtain ⟨off', xc', hxv, hbx', hwc3⟩ := hcut
                    subst hxv hwc3
                    have HX' := hidden hbx'
                    have HDL : Hid ((ys.drop k).length = m - k) := by show _ = _; rw [List.length_drop, HYL.out]
                    clear hbx'
                    go_wp2_with fail
                    refine (nextLaw_c HBI12.out HCL1.out (by omega) (by omega)).mono ?_
                    rintro e w13 ⟨rfl, hbi⟩
                    have HBI13 := hidden hbi
                    clear hbi HBI12
                    go_wp2
                    go_roundw
                    case rel => exact ⟨j + 1, ys.drop k, M + k, by omega, by omega, by rw [HDL.out]; omega, by go_num, by have h1 := HBI13.out; rw [show 50 * (j + 1) = 50 * j + 50 by omega]; exact h1, HX'.out, (fun q e => by simp [Value.ownBlock] at e; exact e.symm), ⟨off', xc', by rw [HDL.out]⟩⟩
                    case measure => simp [intOf]; omega
                · have h20' : ¬ (j : Int) < 20 := by omega
                  have hyl : ys.length = m := HYL.out
                  have HFD := hidden (fd_c HBI.out (.slice (some ⟨xb, off, none⟩) m xc) ys HX.out HXB.out (by omega))
                  go_wp2_with fail
                  refine HFD.out.mono ?_
                  rintro e w20 ⟨rfl, hcall⟩
                  have HC := hidden hcall
                  clear hcall HFD
                  go_wp2_with fail
                  refine HC.out.mono ?_
                  rintro e w21 ⟨rfl, hbi⟩
                  have HBI21 := hidden hbi
                  clear hbi HC
                  go_wp2_with fail
                  refine (nextLaw_c HBI21.out HCL1.out (by omega) (by omega)).mono ?_
                  rintro e w22 ⟨rfl, hbi⟩
                  have HBI22 := hidden hbi
                  have HKN := hidden (known_c w22 (HCL1.out.fresh hbi.b))
                  clear hbi
                  go_wp2_with fail
                  refine HKN.out.mono ?_
                  rintro e w23 ⟨rfl, hb23⟩
                  have HB23 : Hid (Below w.heap.size w w23) := HB1.out.trans ((HBI22.out.b.trans (hb23.mono HBI22.out.b.size)).mono HB1.out.size)
                  clear hb23
                  go_wp2
                  go_ret
                  exact ⟨rfl, HB23.out⟩
              · have hlt' : ¬ (j : Int) < (n6 : Int) := by omega
                have hyl : ys.length = m := HYL.out
                have HFD := hidden (fd_c HBI.out (.slice (some ⟨xb, off, none⟩) m xc) ys HX.out HXB.out (by omega))
                go_wp2_with fail
                refine HFD.out.mono ?_
                rintro e w20 ⟨rfl, hcall⟩
                have HC := hidden hcall
                clear hcall HFD
                go_wp2_with fail
                refine HC.out.mono ?_
                rintro e w21 ⟨rfl, hbi⟩
                have HBI21 := hidden hbi
                clear hbi HC
                go_wp2_with fail
                refine (nextLaw_c HBI21.out HCL1.out (by omega) (by omega)).mono ?_
                rintro e w22 ⟨rfl, hbi⟩
                have HBI22 := hidden hbi
                have HKN := hidden (known_c w22 (HCL1.out.fresh hbi.b))
                clear hbi
                go_wp2_with fail
                refine HKN.out.mono ?_
                rintro e w23 ⟨rfl, hb23⟩
                have HB23 : Hid (Below w.heap.size w w23) := HB1.out.trans ((HBI22.out.b.trans (hb23.mono HBI22.out.b.size)).mono HB1.out.size)
                clear hb23
                go_wp2
                go_ret
                exact ⟨rfl, HB23.out⟩
end Go.Proofs.YthkaibkmpenclaaDoor
