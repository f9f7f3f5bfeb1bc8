/- Bytes that are held in a block of their own; noughts behind them, bytes laid over them, a copy of some. -/
import Derived.Test.YtnigfnikajejaabKpW
import Derived.Test.YtnigfnikajejaabTmA
import Derived.Deep.RegionLaw
namespace Go.Proofs.Ytnigfnikajejaab
open Go Go.RowKit

theorem ownsRow_mono {w : World} {B C : Nat} {e : TypeId} {s : Nat} {v : Value} {n : Nat} {xs : List Value} (h : w.ownsRow B e s v n xs) (hC : C ≤ B) : w.ownsRow C e s v n xs := by
  refine ⟨h.1, ?_⟩
  rcases h.2 with h | ⟨g, cap, cur, h1, h2, h3⟩
  · exact .inl h
  · exact .inr ⟨g, cap, cur, h1, Nat.le_trans hC h2, h3⟩
/-- The slice v holds xs in a block of its own, if in any. -/
def Held (w : World) (v : Value) (xs : List UInt8) : Prop := w.ownsRow 0 5 1 v xs.length (bcells xs)
theorem Held.nil (w : World) : Held w (.slice none 0 0) [] := World.ownsRow_nil _ _ _ _
theorem Held.keep {S : Nat → Prop} {w w' : World} {v : Value} {xs : List UInt8} (r : Held w v xs) (hk : Keeps S w w') (hn : ∀ k, v.ownBlock = some k → ¬ S k) : Held w' v xs := hk.row r hn
theorem Held.len {w : World} {v : Value} {xs : List UInt8} (r : Held w v xs) : ∃ ao cap, v = .slice ao xs.length cap := ownsRow_shape r
theorem Held.lt {w : World} {v : Value} {xs : List UInt8} (r : Held w v xs) : ∀ k, v.ownBlock = some k → k < w.heap.size := fun k e => (World.ownsRow.lt r k e).2
theorem Held.bsl {w : World} {v : Value} {xs : List UInt8} (r : Held w v xs) : BSl w v xs := BSl.ofRow r
theorem Held.shape {w : World} {v : Value} {xs : List UInt8} (r : Held w v xs) : ∃ ao cap, v = .slice ao xs.length cap ∧ xs.length ≤ cap ∧ cap ≤ maxLen ∧ (ao = none ∧ xs = [] ∧ cap = 0 ∨ ∃ g, ao = some ⟨g, 0, none⟩) := by
  rcases r.2 with ⟨rfl, h0⟩ | ⟨g, cap, cur, rfl, _, _, h1, h2, _⟩
  · exact ⟨none, 0, by rw [h0], by omega, by simp [maxLen], .inl ⟨rfl, List.eq_nil_of_length_eq_zero h0, rfl⟩⟩
  · exact ⟨_, cap, rfl, h1, h2, .inr ⟨g, rfl⟩⟩

theorem zeroCells_bytes (m : Nat) : (Builtin.zeroCells #[Value.int .u8 0] m).toList = bcells (List.replicate m 0) := by
  apply List.ext_getElem
  · simp [Builtin.zeroCells, bcells]
  · intro i h1 h2
    simp [Builtin.zeroCells, bcells, Nat.mod_one]
/-- So many noughts behind. -/
theorem run_append_zerosH (w : World) {v : Value} {xs : List UInt8} (tn ty : TypeId) (k kn : IntKind) (htn : Try.prog.underlying tn = some (.int kn)) (m : Nat) (hm : 0 < m) (hnm : xs.length + m ≤ 1000000000) (r : Held w v xs) :
    ∃ v' w', (Builtin.append_ #[28, tn] ty #[v, .int k (m : Int)]).run Try.prog w = .ok v' w' ∧ Held w' v' (xs ++ List.replicate m 0) ∧ Keeps (fun k => v.ownBlock = some k) w w' ∧ (v'.ownBlock = v.ownBlock ∨ ∀ k, v'.ownBlock = some k → w.heap.size ≤ k) := by
  obtain ⟨i, hi, hz, hz1, hz2⟩ := info_parts Try.infoU8
  have hlen : (bcells (xs ++ List.replicate m 0)).length = (xs.length + m) * 1 := by rw [bcells_length, List.length_append, List.length_replicate]; omega
  have hl2 : (xs ++ List.replicate m (0 : UInt8)).length = xs.length + m := by simp
  have hw : IntKind.i64.wrap (m : Int) = m := by rw [IntKind.wrap_i64]; omega
  have hneg : ¬ ((m : Int) < 0) := by omega
  have hm0 : ¬ m = 0 := by omega
  have h48i : ¬ (281474976710656 < (m : Int)) := by omega
  have grow : ∀ (base : Option Addr) (cap : Nat), cap < xs.length + m → (Builtin.firstCells 1 xs.length (.slice base xs.length cap)).run Try.prog w.drew = .ok (bcells xs).toArray w.drew →
      ∃ v' w', (Builtin.append_ #[28, tn] ty #[.slice base xs.length cap, .int k (m : Int)]).run Try.prog w = .ok v' w' ∧ Held w' v' (xs ++ List.replicate m 0) ∧ Keeps (fun k => (Value.slice base xs.length cap).ownBlock = some k) w w' ∧ (v'.ownBlock = (Value.slice base xs.length cap).ownBlock ∨ ∀ k, v'.ownBlock = some k → w.heap.size ≤ k) := fun base cap hroom hold => by
    have hfit : Builtin.nextslicecap (xs.length + m) cap * 1 ≤ 281474976710656 := growslice_fits (by omega) (by omega)
    have h48' : ¬ (281474976710656 < Builtin.nextslicecap (xs.length + m) cap) := by omega
    have h63' : ¬ (9223372036854775807 < ((xs.length : Int) + (m : Int))) := by omega
    have hge := grownCap_ge w (xs.length + m) cap 5
    have hcm : grownCap w (xs.length + m) cap 5 ≤ maxLen := grownCap_le_maxLen w (xs.length + m) cap _ (by unfold maxLen; omega)
    have hr : ¬ (xs.length + m ≤ cap) := by omega
    refine ⟨.slice (some ⟨w.heap.size, 0, none⟩) (xs.length + m) (grownCap w (xs.length + m) cap 5), w.drew.alloc (.cells ((bcells (xs ++ List.replicate m 0)).toArray ++ Builtin.zeroCells #[Value.int .u8 0] (grownCap w (xs.length + m) cap 5 - (xs.length + m))) 5), ?_, ?_, ⟨rfl, rfl, rfl, by simp, fun k hk _ => Below.heap_alloc w.drew _ k hk⟩, .inr fun k e => by cases e; exact Nat.le_refl _⟩
    · have he : (bcells (xs ++ List.replicate m 0)).toArray = (bcells xs).toArray ++ Builtin.zeroCells #[Value.int .u8 0] m := by
        rw [bcells_append, ← zeroCells_bytes m]
        apply Array.ext'
        simp
      rw [he]
      simp [Builtin.append_, run_underlying Try.underlying28, run_underlying htn, sizeOf, typeInfo, zeroValue, hi, hz, hz1, hz2, asInt, asIntOf, hw, hneg, hm0, h48i, hr, h48', h63', Question.forced, hold, newRow, grownCap, Value.cells]
    · unfold Held
      rw [hl2]
      refine ⟨hlen, .inr ⟨w.heap.size, _, _, rfl, Nat.zero_le _, heap_alloc_new w.drew _, hge, hcm, ?_, ?_⟩⟩
      · simp only [Array.size_append, List.size_toArray, size_zeroCells, hlen]
        simp
        omega
      · simp only [Array.toList_append]
        rw [← hlen]
        exact List.take_left
  rcases r.2 with ⟨rfl, h0⟩ | ⟨g, cap, cur, rfl, _, hg, hnc, hcm, hcs, htake⟩
  · have hx : xs = [] := List.eq_nil_of_length_eq_zero h0
    subst hx
    exact grow none 0 (by simp; omega) (by simpa [bcells] using run_firstCells_none w.drew 1 0 0 0)
  · by_cases hroom : xs.length + m ≤ cap
    · have hfit : xs.length + (bcells (List.replicate m 0)).length ≤ cur.size := by rw [bcells_length, List.length_replicate, hcs]; omega
      have hst := run_storeCells_at Try.prog g xs.length 5 (bcells (List.replicate m 0)) 0 cur w hg (by simpa using hfit) bcells_one
      simp only [Nat.add_zero] at hst
      refine ⟨.slice (some ⟨g, 0, none⟩) (xs.length + m) cap, w.setRow g (cur.toList.take xs.length ++ bcells (List.replicate m 0) ++ cur.toList.drop (xs.length + (bcells (List.replicate m 0)).length)).toArray, ?_, ?_, ⟨rfl, rfl, rfl, by simp, fun k _ hk => setRow_other w g k _ (fun e => hk (by rw [e]; rfl))⟩, .inl rfl⟩
      · simp [Builtin.append_, run_underlying Try.underlying28, run_underlying htn, sizeOf, typeInfo, zeroValue, hi, hz, hz1, hz2, asInt, asIntOf, hw, hneg, hm0, h48i, hroom, Addr.add_lit, Value.cells]
        rw [zeroCells_bytes, hst]
        simp [List.append_assoc]
      · unfold Held
        rw [hl2]
        refine ⟨hlen, .inr ⟨g, cap, _, rfl, Nat.zero_le _, setRow_heap w g cur _ _ _ hg, hroom, hcm, ?_, ?_⟩⟩
        · simp only [List.size_toArray, List.length_append, List.length_take, List.length_drop, Array.length_toList, bcells_length, List.length_replicate]
          omega
        · simp only [Nat.mul_one] at htake ⊢
          rw [htake, bcells_append]
          have : (bcells xs ++ bcells (List.replicate m 0)).length = xs.length + m := by simp [bcells_length]
          rw [← this]
          exact List.take_left
    · have holds : ∀ j u, (bcells xs)[j]? = some u → w.cell? ((⟨g, 0, none⟩ : Addr).add j) = some u := World.ownsRow.cells r (g := g) rfl
      exact grow _ cap (by omega) (run_firstCells_some (P := Try.prog) w.drew 1 xs.length ⟨g, 0, none⟩ xs.length cap (bcells xs) r.1 (by simpa using holds))

/-- Bytes laid over others from a place on. -/
def lay (d : List UInt8) (o : Nat) (b : List UInt8) : List UInt8 := d.take o ++ b ++ d.drop (o + b.length)
theorem lay_length {d b : List UInt8} {o : Nat} (h : o + b.length ≤ d.length) : (lay d o b).length = d.length := by unfold lay; simp; omega
theorem over_bcells (d : List UInt8) (o : Nat) (b : List UInt8) : over (bcells d) o (bcells b) = bcells (lay d o b) := by
  unfold over lay
  rw [bcells_append, bcells_append, bcells_length]
  simp [bcells, List.map_take, List.map_drop]
/-- copy(x[o:], b) where b fits: the world behind it. -/
theorem run_copy_H (w : World) {g cap : Nat} {d b : List UInt8} {vb : Value} (r : Held w (.slice (some ⟨g, 0, none⟩) d.length cap) d) (hb : BSl w vb b) (o : Nat) (hob : o + b.length ≤ d.length) (hb0 : b ≠ []) :
    ∃ w', (∀ ty dc, (Builtin.copy_ #[28, 28] ty #[.slice (some ⟨g, o, none⟩) (d.length - o) dc, vb]).run Try.prog w = .ok (goInt b.length) w') ∧ Held w' (.slice (some ⟨g, 0, none⟩) d.length cap) (lay d o b) ∧ Keeps (fun k => k = g) w w' := by
  obtain ⟨i, hi, hz, hz1, hz2⟩ := info_parts Try.infoU8
  rcases r.2 with ⟨h, _⟩ | ⟨g', cap', cur, e, _, hg, hnc, hcm, hcs, htake⟩
  · cases h
  cases e
  obtain ⟨x, t, rfl⟩ := List.exists_cons_of_ne_nil hb0
  obtain ⟨bb, bo, bc, rfl, _, _, _⟩ := hb.cons
  obtain ⟨ao', cap', e, h1, h2, h3, hc⟩ := hb
  cases e
  obtain ⟨b', off', e, hcell⟩ := hc _ rfl hb0
  cases e
  refine ⟨w.setRow g (over cur.toList o (bcells (x :: t))).toArray, fun ty dc => ?_, ?_, ⟨rfl, rfl, rfl, by simp, fun k _ hk => setRow_other w g k _ hk⟩⟩
  · refine run_copy_in w _ _ _ 5 i 1 Try.underlying28 hi hz1 g o _ _ 5 cur hg ⟨bb, bo, none⟩ _ _ (x :: t).length (by show min _ _ = _; omega) (bcells (x :: t)) (by rw [bcells_length, Nat.mul_one]) (fun j u hu => ?_) (by rw [bcells_length, hcs]; omega) bcells_one
    rw [add_lit']
    exact hcell j u hu
  · unfold Held
    have hl : (lay d o (x :: t)).length = d.length := lay_length hob
    rw [hl]
    have hcl : cur.toList.length = cap := by rw [Array.length_toList, hcs, Nat.mul_one]
    have hol : (over cur.toList o (bcells (x :: t))).length = cap := by rw [over_length (by rw [bcells_length, hcl]; omega), hcl]
    refine ⟨by rw [bcells_length, hl, Nat.mul_one], .inr ⟨g, cap, _, rfl, Nat.zero_le _, setRow_heap w g cur _ _ _ hg, hnc, hcm, by simpa using hol, ?_⟩⟩
    simp only [Nat.mul_one] at htake ⊢
    rw [← over_bcells, ← htake]
    unfold over
    rw [bcells_length]
    have e1 : (cur.toList.take d.length).take o = cur.toList.take o := by rw [List.take_take, Nat.min_eq_left (by omega)]
    have e2 : (cur.toList.take d.length).drop (o + (x :: t).length) = (cur.toList.drop (o + (x :: t).length)).take (d.length - (o + (x :: t).length)) := by rw [List.drop_take]
    rw [e1, e2]
    have hl3 : (cur.toList.take o ++ bcells (x :: t)).length = o + (x :: t).length := by rw [List.length_append, bcells_length, List.length_take, hcl]; omega
    have e3 : d.length = (cur.toList.take o ++ bcells (x :: t)).length + (d.length - (o + (x :: t).length)) := by rw [hl3]; omega
    conv => lhs; rw [e3]
    rw [List.take_length_add_append]

set_option maxHeartbeats 1000000 in
set_option maxRecDepth 100000 in
/-- slices.Clone of bytes. -/
theorem bclone_c (v : Value) (xs : List UInt8) (w : World) (hv : BSl w v xs) (hl : xs.length ≤ 1000000000) :
    Calls Try.prog 44 #[v] w fun e w' => ∃ v', e = .returned v' ∧ Held w' v' xs ∧ Below w.heap.size w w' ∧ ∀ k, v'.ownBlock = some k → w.heap.size ≤ k := by
  obtain ⟨i0, hi, hz0, hz1, hz2⟩ := info_parts Try.infoU8
  have HV := hidden hv
  have hnil := eqlNil
  obtain ⟨ao, cap, rfl, h1, h2, h3, _⟩ := hv
  unfold maxLen at h2
  cases ao with
  | none =>
    obtain ⟨rfl, rfl⟩ := h3 rfl
    clear HV
    go_enter Try.func44, Try.ntmps44
    go_wp2
    go_ret
    exact ⟨_, rfl, Held.nil _, Below.refl _ _, fun k e => by cases e⟩
  | some ad =>
    have hown : (w.alloc (.cells #[] 5)).ownsRow w.heap.size 5 1 (.slice (some ⟨w.heap.size, 0, none⟩) 0 0) 0 [] := by
      have := World.ownsRow_lit (base := w.heap.size) (e := 5) (size := 1) w #[] 0 (Nat.le_refl _) (by simp [maxLen]) rfl
      simpa using this
    obtain ⟨v', w', hrun, ho, hgrow, _, hat⟩ := run_append_src (P := Try.prog) (w.alloc (.cells #[] 5)) w.heap.size 28 28 28 5 i0 _ 1 Try.underlying28 hi hz0 hz1 hz2 rfl _ _ _ hown _ xs.length (bcells xs) (BSl.src (HV.out.alloc _)) (by unfold maxLen; omega) (by omega) (by simp)
    have hb : Below w.heap.size w w' := ((Below.refl _ w).alloc (Nat.le_refl _) _).grown hgrow (by simp) (fun g hg => by cases hg; exact Nat.le_refl _)
    have hlt := ho.lt
    have HO : Hid (Held w' v' xs) := by
      unfold Held
      rw [Nat.zero_add, List.nil_append] at ho
      exact ownsRow_mono ho (Nat.zero_le _)
    have HB := hidden hb
    have HL := hidden hlt
    clear ho hgrow hat hb hlt hown h3
    go_enter Try.func44, Try.ntmps44
    go_wp2_with (at_builtin; refine wpList_append_run _ rfl (.tmp 5) (.tmp 6) 28 28 rfl _ _ rfl rfl hrun ?_)
    go_ret
    exact ⟨_, rfl, HO.out, HB.out, fun k e => (HL.out k e).1⟩
end Go.Proofs.Ytnigfnikajejaab
