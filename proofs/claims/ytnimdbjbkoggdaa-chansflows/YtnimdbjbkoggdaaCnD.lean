/- What more, end and close do. -/
import Derived.Test.YtnimdbjbkoggdaaCnF
import Derived.Deep.MidRow
namespace Go.Proofs.Ytnimdbjbkoggdaa
open Go Go.RowKit

def putO (w : World) (B : Nat) (u1 u2 : Value) (b : Bool) : World := ((w.setCell ⟨B, 0, none⟩ u1).setCell ⟨B, 1, none⟩ u2).setCell ⟨B, 2, none⟩ (.bool b)
theorem putO_at {w : World} {B : Nat} {x0 x1 x2 : Value} {t : TypeId} (u1 u2 : Value) (b : Bool) (h : w.heap[B]? = some (.cells #[x0, x1, x2] t (0, 0))) : (putO w B u1 u2 b).heap[B]? = some (.cells #[u1, u2, .bool b] t (0, 0)) :=
  (set3i (set3i (set3i h u1).1 u2).2.1 (.bool b)).2.2
theorem putO_keeps (w : World) (B : Nat) (u1 u2 : Value) (b : Bool) : Keeps (fun k => k = B) w (putO w B u1 u2 b) := ((keepsSet w B 0 u1).trans (keepsSet _ B 1 u2)).trans (keepsSet _ B 2 (.bool b))
/-- What a channel's method leaves: it is wrong, or what becomes of the channel, the answers and the events. -/
def OutP (w : World) (a rb i : Nat) (v : Value) (A Z : List Value) (r : Out) (e : Ending) (w' : World) : Prop :=
  ∃ p1 n1 q1 p2 n2 q2 b, e = .returned (.agg #[.slice p1 n1 q1, .slice p2 n2 q2, .bool b]) ∧ Keeps (fun k => k = a ∨ k = rb) w w' ∧
    ((r = none ∧ b = true ∧ w'.heap[a]? = w.heap[a]?) ∨
     ∃ oc ls es v', r = some (oc, ls, es) ∧ b = false ∧ Lst w.heap.size w' (.slice p1 n1 q1) ls ∧ Evs 51 w.heap.size w' (.slice p2 n2 q2) es ∧ w'.heap[a]? = some (.cells (A ++ pcells i oc v' ++ Z).toArray 61 (0, 0)) ∧ (∀ c, oc = some c → Held w' v' c.wt) ∧ ∀ k, v'.ownBlock = some k → v.ownBlock = some k)
theorem OutP.wrong {w w1 : World} {a rb i : Nat} {v : Value} {A Z : List Value} (hk : Keeps (fun k => k = rb) w w1) (hr : a ≠ rb) (hal : a < w.heap.size) : OutP w a rb i v A Z none (.returned (.agg #[.slice none 0 0, .slice none 0 0, .bool true])) (putO w1 w.heap.size (.slice none 0 0) (.slice none 0 0) true) := by
  have hp := putO_keeps w1 w.heap.size (.slice none 0 0) (.slice none 0 0) true
  have hk2 : Keeps (fun k => k = rb) w (putO w1 w.heap.size (.slice none 0 0) (.slice none 0 0) true) := ⟨hp.os.trans hk.os, hp.tape.trans hk.tape, hp.output.trans hk.output, Nat.le_trans hk.size hp.size, fun k h1 h2 => (hp.block k (Nat.lt_of_lt_of_le h1 hk.size) (by omega)).trans (hk.block k h1 h2)⟩
  exact ⟨none, 0, 0, none, 0, 0, true, rfl, hk2.mono (fun k _ h => Or.inr h), .inl ⟨rfl, rfl, hk2.block a hal hr⟩⟩
theorem OutP.right {w w1 : World} {a rb i : Nat} {v v' : Value} {A Z : List Value} {oc : Option Ch} {ls : List (List UInt8)} {es : List Ev} {p1 p2 : Option Addr} {n1 q1 n2 q2 : Nat} (hk : Keeps (fun k => k = a ∨ k = rb) w w1) (hal : a < w.heap.size)
    (hl : Lst (w.heap.size + 1) w1 (.slice p1 n1 q1) ls) (he : Evs 51 (w.heap.size + 1) w1 (.slice p2 n2 q2) es) (hb : w1.heap[a]? = some (.cells (A ++ pcells i oc v' ++ Z).toArray 61 (0, 0))) (hh : ∀ c, oc = some c → Held w1 v' c.wt) (ho : ∀ k, v'.ownBlock = some k → v.ownBlock = some k) (hv : ∀ k, v.ownBlock = some k → k < w.heap.size) :
    OutP w a rb i v A Z (some (oc, ls, es)) (.returned (.agg #[.slice p1 n1 q1, .slice p2 n2 q2, .bool false])) (putO w1 w.heap.size (.slice p1 n1 q1) (.slice p2 n2 q2) false) := by
  have hp := putO_keeps w1 w.heap.size (.slice p1 n1 q1) (.slice p2 n2 q2) false
  refine ⟨p1, n1, q1, p2, n2, q2, false, rfl, ⟨hp.os.trans hk.os, hp.tape.trans hk.tape, hp.output.trans hk.output, Nat.le_trans hk.size hp.size, fun k h1 h2 => (hp.block k (Nat.lt_of_lt_of_le h1 hk.size) (by omega)).trans (hk.block k h1 h2)⟩, .inr ⟨oc, ls, es, v', rfl, rfl, (hl.keep hp (fun k e => by omega)).mono (by omega), (he.keep hp (fun k e => by omega)).mono (by omega), (hp.block a (lt_of_block hb) (by omega)).trans hb, fun c e => (hh c e).keep hp (fun k e2 e3 => ?_), ho⟩⟩
  have := hv k (ho k e2)
  omega
/-- A box for an outcome, made first. -/
def boxO (w : World) : World := w.alloc (.cells #[.slice none 0 0, .slice none 0 0, .bool false] 65)
theorem boxO_at (w : World) : (boxO w).heap[w.heap.size]? = some (.cells #[.slice none 0 0, .slice none 0 0, .bool false] 65 (0, 0)) := heap_alloc_new w _
theorem boxO_keeps (w : World) : Keeps (fun _ => False) w (boxO w) := (Keeps.refl _ _).alloc _
theorem boxO_size (w : World) : (boxO w).heap.size = w.heap.size + 1 := by simp [boxO]

/-- A literal of one event without bytes. -/
theorem Evs.lit {B : Nat} {w : World} (hB : B ≤ w.heap.size) (k i : Nat) : Evs 51 B (w.alloc (.cells #[.int .i64 k, .int .i64 i, .slice none 0 0] 51)) (.slice (some ⟨w.heap.size, 0, none⟩) 1 1) [⟨k, i, []⟩] :=
  .inr ⟨⟨k, i, []⟩, w.heap.size, .slice none 0 0, rfl, rfl, heap_alloc_new w _, bsl_none _, hB, fun k e => by simp [Value.ownBlock] at e⟩
theorem setCells_keeps (a : Nat) (vs : List Value) : ∀ (o : Nat) (w : World), Keeps (fun k => k = a) w (w.setCells a o vs) := by
  induction vs with
  | nil => exact fun o w => Keeps.refl _ _
  | cons v vs ih => exact fun o w => (keepsSet w a o v).trans (ih (o + 1) _)
theorem setCells_mid {a : Nat} {t : TypeId} {Z : List Value} (vs : List Value) : ∀ (M A : List Value) (w : World), M.length = vs.length → w.heap[a]? = some (.cells (A ++ M ++ Z).toArray t (0, 0)) → (w.setCells a A.length vs).heap[a]? = some (.cells (A ++ vs ++ Z).toArray t (0, 0)) := by
  induction vs with
  | nil =>
    intro M A w hl h
    have : M = [] := List.eq_nil_of_length_eq_zero hl
    subst this
    exact h
  | cons v vs ih =>
    intro M A w hl h
    cases M with
    | nil => cases hl
    | cons m M =>
      have h1 := set_mid h 0 (by simp) v
      have h2 := ih M (A ++ [v]) (w.setCell ⟨a, A.length, none⟩ v) (by simpa using hl) (by simpa using h1)
      simpa [World.setCells] using h2
theorem Try.infoCh : (Try.prog.info? 58).map (·.size) = some 9 := by kernel_rfl
theorem CX.there {w : World} {a o i : Nat} {c : Ch} {v : Value} {A Z : List Value} (h : CX w a o i c v A Z) : w.there a o 9 := by
  have hl := h.len
  subst hl
  intro j hj
  refine ⟨?_, frozen_row h.blk _⟩
  rw [cell_mid h.blk j (by rw [pcells_length]; exact hj)]
  have : j < (pcells i (some c) v).length := by rw [pcells_length]; exact hj
  simp [List.getElem?_eq_getElem this]
/-- The cells of a channel that is free. -/
def zeroL : List Value := [.bool false, .bool false, .bool false, .bool false, .int .i64 0, .int .u32 0, .complex .f64 0 0, .complex .f64 0 0, .slice none 0 0]
theorem CX.zero {w : World} {a o i : Nat} {c : Ch} {v : Value} {A Z : List Value} (h : CX w a o i c v A Z) : (w.setCells a o zeroL).heap[a]? = some (.cells (A ++ pcells i none (.slice none 0 0) ++ Z).toArray 61 (0, 0)) := by
  have hl := h.len
  subst hl
  exact setCells_mid zeroL _ A w (by rw [pcells_length]; rfl) h.blk
theorem Evs.ofBlk {B g k i : Nat} {w : World} (h : w.heap[g]? = some (.cells #[.int .i64 k, .int .i64 i, .slice none 0 0] 51 (0, 0))) (hB : B ≤ g) : Evs 51 B w (.slice (some ⟨g, 0, none⟩) 1 1) [⟨k, i, []⟩] :=
  .inr ⟨⟨k, i, []⟩, g, .slice none 0 0, rfl, rfl, h, bsl_none _, hB, fun k e => by simp [Value.ownBlock] at e⟩
theorem store_cxa (w : World) (p : Addr) (m : Mode) : (store p (.complex .f64 0 0) m).run Try.prog w = stored Try.prog w p (.complex .f64 0 0) m := run_store Try.prog w p _ m rfl
/-- The same, cell by cell. -/
def zeroW (w : World) (a o : Nat) : World := ((((((((w.setCell ⟨a, o, none⟩ (.bool false)).setCell ⟨a, o + 1, none⟩ (.bool false)).setCell ⟨a, o + 2, none⟩ (.bool false)).setCell ⟨a, o + 3, none⟩ (.bool false)).setCell ⟨a, o + 4, none⟩ (.int .i64 0)).setCell ⟨a, o + 5, none⟩ (.int .u32 0)).setCell ⟨a, o + 6, none⟩ (.complex .f64 0 0)).setCell ⟨a, o + 7, none⟩ (.complex .f64 0 0)).setCell ⟨a, o + 8, none⟩ (.slice none 0 0)
theorem zeroW_eq (w : World) (a o : Nat) : w.setCells a o zeroL = zeroW w a o := rfl

set_option maxHeartbeats 1600000 in
set_option maxRecDepth 100000 in
theorem more_c (w : World) {L a o i rb : Nat} {c : Ch} {v : Value} {A Z : List Value} {g : Option Nat} {bs : List UInt8} {p : Nat} {why : Int} (h : CX w a o i c v A Z) (hok : Ok L c) (hL : L ≤ 1000000) (hr : WR w rb g bs p why) (har : a < rb) (hvr : ∀ k, v.ownBlock = some k → k < rb) :
    Calls Try.prog 56 #[.pointer (some ⟨a, o, none⟩), .pointer (some ⟨rb, 0, none⟩)] w fun e w' => OutP w a rb i v A Z (moreO c bs p why) e w' := by
  have hal := h.lt
  have HVL := hidden h.held.lt
  have hrl := hr.lt
  have HN := hidden (u32_r (boxO w) (hr.same (boxO_keeps w)))
  have HBX := hidden (boxO_at w)
  have HCX0 := hidden (h.still (boxO_keeps w))
  have HK0 := hidden (boxO_keeps w)
  have HSZ := hidden (boxO_size w)
  unfold moreO
  have hxv := val4_lt _ (tk_len bs p why 4)
  generalize tk bs p why 4 = t at *
  generalize hx : val t.1 = x at *
  generalize hd : wholeB bs t.2.1 t.2.2 = d at *
  have HW : Hid (∀ w', WR w' rb g bs t.2.1 t.2.2 → Calls Try.prog 68 #[.pointer (some ⟨rb, 0, none⟩)] w' fun e w'' => e = .returned (.bool d) ∧ Keeps (fun _ => False) w' w'') := hidden fun w' h' => by rw [← hd]; exact isWhole_c w' h'
  clear h hr hx hd
  unfold boxO at HN HBX HCX0 HK0 HSZ
  by_cases hadd : c.wl + x ≤ 4294967295
  · have HA : Hid (∀ w', Calls Try.prog 69 #[.complex .f64 (nb c.wl) (nb c.wm), .int .i64 (x : Int)] w' fun e w'' => e = .returned (.tuple #[.complex .f64 (nb (c.wl + x)) (nb c.wm), .bool true]) ∧ w'' = w') := hidden fun w' => add_yes (Win.mk' c.wl c.wm hok.wl hok.w1 hok.wm) x hadd w'
    cases d
    · rw [if_neg (by rintro ⟨h, _⟩; cases h)]
      go_enter Try.func56, Try.ntmps56
      go_wp2_with fail
      generalize w.alloc (.cells #[.slice none 0 0, .slice none 0 0, .bool false] 65) = w0 at *
      refine HN.out.mono ?_
      rintro e w1 ⟨rfl, ht⟩
      have HR1 := hidden ht.state
      have HK1 := hidden ((HK0.out.mono (S' := fun k => k = rb) (fun k _ h => h.elim)).trans ht.keeps)
      have HBX1 := hidden ((ht.keeps.block _ (lt_of_block HBX.out) (by omega)).trans HBX.out)
      have HCX1 := hidden (HCX0.out.keep ht.keeps (by omega) (fun k e e2 => by have := hvr k e; omega))
      have HS1 := hidden (Nat.le_trans (Nat.le_of_eq HSZ.out.symm) ht.keeps.size)
      clear ht HN HCX0 HBX HK0 HSZ
      obtain ⟨c0, c1, c2, c3, c4, c5, c6, c7, c8, cf⟩ := HCX1.out.cells
      go_wp2_with fail
      refine (HA.out _).mono ?_
      rintro e w2 ⟨rfl, rfl⟩
      clear HA
      go_wp2_with fail
      refine (HW.out _ HR1.out).mono ?_
      rintro e w3 ⟨rfl, hk3⟩
      have HBXw := hidden ((hk3.block _ (lt_of_block HBX1.out) (fun h => h)).trans HBX1.out)
      have HKw := hidden (HK1.out.trans (hk3.mono (S' := fun k => k = rb) (fun k _ h => h.elim)))
      have HCX3 := hidden (HCX1.out.still hk3)
      have HS3 := hidden (Nat.le_trans HS1.out hk3.size)
      clear hk3 HW HR1 HK1 HBX1 HCX1 HS1
      clear c0 c1 c2 c3 c4 c5 c6 c7 c8 cf
      have HP := hidden (OutP.wrong (i := i) (v := v) (A := A) (Z := Z) HKw.out (show a ≠ rb by omega) hal)
      obtain ⟨b0, b1, b2, bf⟩ := cells3i HBXw.out
      have hy := putO_at (.slice none 0 0) (.slice none 0 0) true HBXw.out
      unfold putO at HP hy
      go_wp2_with fail
      generalize ((w3.setCell ⟨w.heap.size, 0, none⟩ (.slice none 0 0)).setCell ⟨w.heap.size, 1, none⟩ (.slice none 0 0)).setCell ⟨w.heap.size, 2, none⟩ (.bool true) = wz at HP hy ⊢
      obtain ⟨y0, y1, y2, yf⟩ := cells3i hy
      refine bodyPost_ret (v := .agg #[.slice none 0 0, .slice none 0 0, .bool true]) (by simp [results, Try.results56, go_sem, y0, y1, y2]) rfl HP.out
    · rw [if_pos ⟨rfl, hadd⟩]
      go_enter Try.func56, Try.ntmps56
      go_wp2_with fail
      generalize w.alloc (.cells #[.slice none 0 0, .slice none 0 0, .bool false] 65) = w0 at *
      refine HN.out.mono ?_
      rintro e w1 ⟨rfl, ht⟩
      have HR1 := hidden ht.state
      have HK1 := hidden ((HK0.out.mono (S' := fun k => k = rb) (fun k _ h => h.elim)).trans ht.keeps)
      have HBX1 := hidden ((ht.keeps.block _ (lt_of_block HBX.out) (by omega)).trans HBX.out)
      have HCX1 := hidden (HCX0.out.keep ht.keeps (by omega) (fun k e e2 => by have := hvr k e; omega))
      have HS1 := hidden (Nat.le_trans (Nat.le_of_eq HSZ.out.symm) ht.keeps.size)
      clear ht HN HCX0 HBX HK0 HSZ
      obtain ⟨c0, c1, c2, c3, c4, c5, c6, c7, c8, cf⟩ := HCX1.out.cells
      go_wp2_with fail
      refine (HA.out _).mono ?_
      rintro e w2 ⟨rfl, rfl⟩
      clear HA
      go_wp2_with fail
      refine (HW.out _ HR1.out).mono ?_
      rintro e w3 ⟨rfl, hk3⟩
      have HBXw := hidden ((hk3.block _ (lt_of_block HBX1.out) (fun h => h)).trans HBX1.out)
      have HKw := hidden (HK1.out.trans (hk3.mono (S' := fun k => k = rb) (fun k _ h => h.elim)))
      have HCX3 := hidden (HCX1.out.still hk3)
      have HS3 := hidden (Nat.le_trans HS1.out hk3.size)
      clear hk3 HW HR1 HK1 HBX1 HCX1 HS1
      clear c0 c1 c2 c3 c4 c5 c6 c7 c8 cf
      obtain ⟨c0, c1, c2, c3, c4, c5, c6, c7, c8, cf⟩ := HCX3.out.cells
      have hs6 := store_cx w3 ⟨a, o + 6, none⟩ (nb (c.wl + x)) (nb c.wm) c6 (cf _)
      have HCX4 := hidden (HCX3.out.set 6 (by omega) (.complex .f64 (nb (c.wl + x)) (nb c.wm)) (wider c x) v rfl HCX3.out.held (fun k e => e))
      have HK4 := hidden ((HKw.out.mono (S' := fun k => k = a ∨ k = rb) (fun k _ h => Or.inr h)).trans ((keepsSet w3 a (o + 6) (.complex .f64 (nb (c.wl + x)) (nb c.wm))).mono (fun k _ h => Or.inl h)))
      have HS4 := hidden (Nat.le_trans HS3.out (keepsSet w3 a (o + 6) (.complex .f64 (nb (c.wl + x)) (nb c.wm))).size)
      have HBX4 := hidden (((keepsSet w3 a (o + 6) (.complex .f64 (nb (c.wl + x)) (nb c.wm))).block _ (lt_of_block HBXw.out) (by omega)).trans HBXw.out)
      clear HKw HS3 HBXw HCX3
      generalize nb c.wl = X1 at *
      generalize nb (c.wl + x) = X3 at *
      generalize nb c.wm = X2 at *
      go_wp2_with fail
      clear hs6 c0 c1 c2 c3 c4 c5 c6 c7 c8 cf
      generalize w3.setCell ⟨a, o + 6, none⟩ (.complex .f64 X3 X2) = w4 at *
      refine (flush_c w4 HCX4.out (hok.wider x hadd) hL).mono ?_
      rintro e w5 ⟨u5, v5, rfl, hl5, hcx5, ho5, hk5⟩
      obtain ⟨a5, p5, e5⟩ := hl5.shape
      subst e5
      have HBXw := hidden ((hk5.block _ (lt_of_block HBX4.out) (by omega)).trans HBX4.out)
      have HP := hidden (OutP.right (w := w) (w1 := w5) (rb := rb) (v := v) (v' := v5) (oc := some (behind (wider c x))) (es := []) (HK4.out.trans (hk5.mono (S' := fun k => k = a ∨ k = rb) (fun k _ h => Or.inl h))) hal (hl5.mono HS4.out) (Evs.nil' _ _ _) hcx5.blk (fun c e => by cases e; exact hcx5.held) ho5 HVL.out)
      clear hl5 hcx5 ho5 hk5 HK4 HBX4 HCX4 HS4
      generalize (pieces (wider c x) (nOf (wider c x))).length = n5 at *
      obtain ⟨b0, b1, b2, bf⟩ := cells3i HBXw.out
      have hy := putO_at (.slice a5 n5 p5) (.slice none 0 0) false HBXw.out
      unfold putO at HP hy
      go_wp2_with fail
      generalize ((w5.setCell ⟨w.heap.size, 0, none⟩ (.slice a5 n5 p5)).setCell ⟨w.heap.size, 1, none⟩ (.slice none 0 0)).setCell ⟨w.heap.size, 2, none⟩ (.bool false) = wz at HP hy ⊢
      obtain ⟨y0, y1, y2, yf⟩ := cells3i hy
      refine bodyPost_ret (v := .agg #[.slice a5 n5 p5, .slice none 0 0, .bool false]) (by simp [results, Try.results56, go_sem, y0, y1, y2]) rfl HP.out
  · rw [if_neg (by rintro ⟨_, h⟩; exact hadd h)]
    have HA : Hid (∀ w', Calls Try.prog 69 #[.complex .f64 (nb c.wl) (nb c.wm), .int .i64 (x : Int)] w' fun e w'' => e = .returned (.tuple #[.complex .f64 0 0, .bool false]) ∧ w'' = w') := hidden fun w' => add_no (Win.mk' c.wl c.wm hok.wl hok.w1 hok.wm) x (.inr (.inr (by omega))) w'
    clear hadd
    cases d
    · go_enter Try.func56, Try.ntmps56
      go_wp2_with fail
      generalize w.alloc (.cells #[.slice none 0 0, .slice none 0 0, .bool false] 65) = w0 at *
      refine HN.out.mono ?_
      rintro e w1 ⟨rfl, ht⟩
      have HR1 := hidden ht.state
      have HK1 := hidden ((HK0.out.mono (S' := fun k => k = rb) (fun k _ h => h.elim)).trans ht.keeps)
      have HBX1 := hidden ((ht.keeps.block _ (lt_of_block HBX.out) (by omega)).trans HBX.out)
      have HCX1 := hidden (HCX0.out.keep ht.keeps (by omega) (fun k e e2 => by have := hvr k e; omega))
      have HS1 := hidden (Nat.le_trans (Nat.le_of_eq HSZ.out.symm) ht.keeps.size)
      clear ht HN HCX0 HBX HK0 HSZ
      obtain ⟨c0, c1, c2, c3, c4, c5, c6, c7, c8, cf⟩ := HCX1.out.cells
      go_wp2_with fail
      refine (HA.out _).mono ?_
      rintro e w2 ⟨rfl, rfl⟩
      clear HA
      go_wp2_with fail
      refine (HW.out _ HR1.out).mono ?_
      rintro e w3 ⟨rfl, hk3⟩
      have HBXw := hidden ((hk3.block _ (lt_of_block HBX1.out) (fun h => h)).trans HBX1.out)
      have HKw := hidden (HK1.out.trans (hk3.mono (S' := fun k => k = rb) (fun k _ h => h.elim)))
      have HCX3 := hidden (HCX1.out.still hk3)
      have HS3 := hidden (Nat.le_trans HS1.out hk3.size)
      clear hk3 HW HR1 HK1 HBX1 HCX1 HS1
      clear c0 c1 c2 c3 c4 c5 c6 c7 c8 cf
      have HP := hidden (OutP.wrong (i := i) (v := v) (A := A) (Z := Z) HKw.out (show a ≠ rb by omega) hal)
      obtain ⟨b0, b1, b2, bf⟩ := cells3i HBXw.out
      have hy := putO_at (.slice none 0 0) (.slice none 0 0) true HBXw.out
      unfold putO at HP hy
      go_wp2_with fail
      generalize ((w3.setCell ⟨w.heap.size, 0, none⟩ (.slice none 0 0)).setCell ⟨w.heap.size, 1, none⟩ (.slice none 0 0)).setCell ⟨w.heap.size, 2, none⟩ (.bool true) = wz at HP hy ⊢
      obtain ⟨y0, y1, y2, yf⟩ := cells3i hy
      refine bodyPost_ret (v := .agg #[.slice none 0 0, .slice none 0 0, .bool true]) (by simp [results, Try.results56, go_sem, y0, y1, y2]) rfl HP.out
    · go_enter Try.func56, Try.ntmps56
      go_wp2_with fail
      generalize w.alloc (.cells #[.slice none 0 0, .slice none 0 0, .bool false] 65) = w0 at *
      refine HN.out.mono ?_
      rintro e w1 ⟨rfl, ht⟩
      have HR1 := hidden ht.state
      have HK1 := hidden ((HK0.out.mono (S' := fun k => k = rb) (fun k _ h => h.elim)).trans ht.keeps)
      have HBX1 := hidden ((ht.keeps.block _ (lt_of_block HBX.out) (by omega)).trans HBX.out)
      have HCX1 := hidden (HCX0.out.keep ht.keeps (by omega) (fun k e e2 => by have := hvr k e; omega))
      have HS1 := hidden (Nat.le_trans (Nat.le_of_eq HSZ.out.symm) ht.keeps.size)
      clear ht HN HCX0 HBX HK0 HSZ
      obtain ⟨c0, c1, c2, c3, c4, c5, c6, c7, c8, cf⟩ := HCX1.out.cells
      go_wp2_with fail
      refine (HA.out _).mono ?_
      rintro e w2 ⟨rfl, rfl⟩
      clear HA
      go_wp2_with fail
      refine (HW.out _ HR1.out).mono ?_
      rintro e w3 ⟨rfl, hk3⟩
      have HBXw := hidden ((hk3.block _ (lt_of_block HBX1.out) (fun h => h)).trans HBX1.out)
      have HKw := hidden (HK1.out.trans (hk3.mono (S' := fun k => k = rb) (fun k _ h => h.elim)))
      have HCX3 := hidden (HCX1.out.still hk3)
      have HS3 := hidden (Nat.le_trans HS1.out hk3.size)
      clear hk3 HW HR1 HK1 HBX1 HCX1 HS1
      clear c0 c1 c2 c3 c4 c5 c6 c7 c8 cf
      have HP := hidden (OutP.wrong (i := i) (v := v) (A := A) (Z := Z) HKw.out (show a ≠ rb by omega) hal)
      obtain ⟨b0, b1, b2, bf⟩ := cells3i HBXw.out
      have hy := putO_at (.slice none 0 0) (.slice none 0 0) true HBXw.out
      unfold putO at HP hy
      go_wp2_with fail
      generalize ((w3.setCell ⟨w.heap.size, 0, none⟩ (.slice none 0 0)).setCell ⟨w.heap.size, 1, none⟩ (.slice none 0 0)).setCell ⟨w.heap.size, 2, none⟩ (.bool true) = wz at HP hy ⊢
      obtain ⟨y0, y1, y2, yf⟩ := cells3i hy
      refine bodyPost_ret (v := .agg #[.slice none 0 0, .slice none 0 0, .bool true]) (by simp [results, Try.results56, go_sem, y0, y1, y2]) rfl HP.out

set_option maxHeartbeats 1600000 in
set_option maxRecDepth 100000 in
theorem fin_c (w : World) {a o i rb : Nat} {c : Ch} {v : Value} {A Z : List Value} {g : Option Nat} {bs : List UInt8} {p : Nat} {why : Int} (h : CX w a o i c v A Z) (hr : WR w rb g bs p why) (har : a < rb) :
    Calls Try.prog 58 #[.pointer (some ⟨a, o, none⟩), .pointer (some ⟨rb, 0, none⟩)] w fun e w' => OutP w a rb i v A Z (finO c i bs p why) e w' := by
  have hal := h.lt
  have HVL := hidden h.held.lt
  have hrl := hr.lt
  have HR1 := hidden (hr.same (boxO_keeps w))
  have HBX1 := hidden (boxO_at w)
  have HCX1 := hidden (h.still (boxO_keeps w))
  have HK1 := hidden ((boxO_keeps w).mono (S' := fun k => k = rb) (fun k _ h => h.elim))
  have HS1 := hidden (Nat.le_of_eq (boxO_size w).symm)
  unfold finO
  generalize hd : wholeB bs p why = d at *
  have HW : Hid (∀ w', WR w' rb g bs p why → Calls Try.prog 68 #[.pointer (some ⟨rb, 0, none⟩)] w' fun e w'' => e = .returned (.bool d) ∧ Keeps (fun _ => False) w' w'') := hidden fun w' h' => by rw [← hd]; exact isWhole_c w' h'
  clear h hr hd
  unfold boxO at HR1 HBX1 HCX1 HK1 HS1
  cases d
  · rw [if_neg (by rintro ⟨h, _⟩; cases h)]
    go_enter Try.func58, Try.ntmps58
    go_wp2_with fail
    generalize w.alloc (.cells #[.slice none 0 0, .slice none 0 0, .bool false] 65) = w0 at *
    refine (HW.out _ HR1.out).mono ?_
    rintro e w3 ⟨rfl, hk3⟩
    have HBXw := hidden ((hk3.block _ (lt_of_block HBX1.out) (fun h => h)).trans HBX1.out)
    have HKw := hidden (HK1.out.trans (hk3.mono (S' := fun k => k = rb) (fun k _ h => h.elim)))
    have HCX3 := hidden (HCX1.out.still hk3)
    have HS3 := hidden (Nat.le_trans HS1.out hk3.size)
    clear hk3 HW HR1 HK1 HBX1 HCX1 HS1
    have HP := hidden (OutP.wrong (i := i) (v := v) (A := A) (Z := Z) HKw.out (show a ≠ rb by omega) hal)
    obtain ⟨b0, b1, b2, bf⟩ := cells3i HBXw.out
    have hy := putO_at (.slice none 0 0) (.slice none 0 0) true HBXw.out
    unfold putO at HP hy
    go_wp2_with fail
    generalize ((w3.setCell ⟨w.heap.size, 0, none⟩ (.slice none 0 0)).setCell ⟨w.heap.size, 1, none⟩ (.slice none 0 0)).setCell ⟨w.heap.size, 2, none⟩ (.bool true) = wz at HP hy ⊢
    obtain ⟨y0, y1, y2, yf⟩ := cells3i hy
    refine bodyPost_ret (v := .agg #[.slice none 0 0, .slice none 0 0, .bool true]) (by simp [results, Try.results58, go_sem, y0, y1, y2]) rfl HP.out
  · cases hen : c.en
    · rw [if_pos ⟨rfl, rfl⟩]
      go_enter Try.func58, Try.ntmps58
      go_wp2_with fail
      generalize w.alloc (.cells #[.slice none 0 0, .slice none 0 0, .bool false] 65) = w0 at *
      refine (HW.out _ HR1.out).mono ?_
      rintro e w3 ⟨rfl, hk3⟩
      have HBXw := hidden ((hk3.block _ (lt_of_block HBX1.out) (fun h => h)).trans HBX1.out)
      have HKw := hidden (HK1.out.trans (hk3.mono (S' := fun k => k = rb) (fun k _ h => h.elim)))
      have HCX3 := hidden (HCX1.out.still hk3)
      have HS3 := hidden (Nat.le_trans HS1.out hk3.size)
      clear hk3 HW HR1 HK1 HBX1 HCX1 HS1
      obtain ⟨c0, c1, c2, c3, c4, c5, c6, c7, c8, cf⟩ := HCX3.out.cells
      rw [hen] at c2
      have HCX4 := hidden (HCX3.out.set 2 (by omega) (.bool true) ⟨c.od, true, c.cl, c.th, c.wl, c.wm, c.ol, c.wt⟩ v rfl HCX3.out.held (fun k e => e))
      have HK4 := hidden ((HKw.out.mono (S' := fun k => k = a ∨ k = rb) (fun k _ h => Or.inr h)).trans ((keepsSet w3 a (o + 2) (.bool true)).mono (fun k _ h => Or.inl h)))
      have HS4 := hidden (Nat.le_trans HS3.out (keepsSet w3 a (o + 2) (.bool true)).size)
      have HBX4 := hidden (((keepsSet w3 a (o + 2) (.bool true)).block _ (lt_of_block HBXw.out) (by omega)).trans HBXw.out)
      clear HKw HS3 HBXw HCX3
      go_wp2_with fail
      clear c0 c1 c2 c3 c4 c5 c6 c7 c8 cf
      generalize w3.setCell ⟨a, o + 2, none⟩ (.bool true) = w4 at *
      refine (tell_c 3 w4 HCX4.out).mono ?_
      rintro e w5 ⟨rfl, rfl⟩
      have HBXw := hidden ((Below.heap_alloc w4 (.cells #[.int .i64 3, .int .i64 i, .slice none 0 0] 51) _ (lt_of_block HBX4.out)).trans HBX4.out)
      have HP := hidden (OutP.right (w := w) (w1 := w4.alloc (.cells #[.int .i64 3, .int .i64 i, .slice none 0 0] 51)) (rb := rb) (v := v) (v' := v) (oc := some ⟨c.od, true, c.cl, c.th, c.wl, c.wm, c.ol, c.wt⟩) (ls := []) (es := [⟨3, i, []⟩]) (HK4.out.alloc _) hal (Lst.nil' _ _) (Evs.lit HS4.out 3 i) (HCX4.out.still ((Keeps.refl _ _).alloc _)).blk (fun c e => by cases e; exact (HCX4.out.still ((Keeps.refl _ _).alloc _)).held) (fun k e => e) HVL.out)
      clear HK4 HBX4 HCX4 HS4
      obtain ⟨g5, hg5⟩ : ∃ g5, g5 = w4.heap.size := ⟨_, rfl⟩
      rw [← hg5] at HP ⊢
      clear hg5
      generalize w4.alloc (.cells #[.int .i64 3, .int .i64 i, .slice none 0 0] 51) = w5 at *
      obtain ⟨b0, b1, b2, bf⟩ := cells3i HBXw.out
      have hy := putO_at (.slice none 0 0) (.slice (some ⟨g5, 0, none⟩) 1 1) false HBXw.out
      unfold putO at HP hy
      go_wp2_with fail
      generalize ((w5.setCell ⟨w.heap.size, 0, none⟩ (.slice none 0 0)).setCell ⟨w.heap.size, 1, none⟩ (.slice (some ⟨g5, 0, none⟩) 1 1)).setCell ⟨w.heap.size, 2, none⟩ (.bool false) = wz at HP hy ⊢
      obtain ⟨y0, y1, y2, yf⟩ := cells3i hy
      refine bodyPost_ret (v := .agg #[.slice none 0 0, .slice (some ⟨g5, 0, none⟩) 1 1, .bool false]) (by simp [results, Try.results58, go_sem, y0, y1, y2]) rfl HP.out
    · rw [if_neg (by rintro ⟨_, h⟩; cases h)]
      go_enter Try.func58, Try.ntmps58
      go_wp2_with fail
      generalize w.alloc (.cells #[.slice none 0 0, .slice none 0 0, .bool false] 65) = w0 at *
      refine (HW.out _ HR1.out).mono ?_
      rintro e w3 ⟨rfl, hk3⟩
      have HBXw := hidden ((hk3.block _ (lt_of_block HBX1.out) (fun h => h)).trans HBX1.out)
      have HKw := hidden (HK1.out.trans (hk3.mono (S' := fun k => k = rb) (fun k _ h => h.elim)))
      have HCX3 := hidden (HCX1.out.still hk3)
      have HS3 := hidden (Nat.le_trans HS1.out hk3.size)
      clear hk3 HW HR1 HK1 HBX1 HCX1 HS1
      obtain ⟨c0, c1, c2, c3, c4, c5, c6, c7, c8, cf⟩ := HCX3.out.cells
      rw [hen] at c2
      have HP := hidden (OutP.wrong (i := i) (v := v) (A := A) (Z := Z) HKw.out (show a ≠ rb by omega) hal)
      obtain ⟨b0, b1, b2, bf⟩ := cells3i HBXw.out
      have hy := putO_at (.slice none 0 0) (.slice none 0 0) true HBXw.out
      unfold putO at HP hy
      go_wp2_with fail
      generalize ((w3.setCell ⟨w.heap.size, 0, none⟩ (.slice none 0 0)).setCell ⟨w.heap.size, 1, none⟩ (.slice none 0 0)).setCell ⟨w.heap.size, 2, none⟩ (.bool true) = wz at HP hy ⊢
      obtain ⟨y0, y1, y2, yf⟩ := cells3i hy
      refine bodyPost_ret (v := .agg #[.slice none 0 0, .slice none 0 0, .bool true]) (by simp [results, Try.results58, go_sem, y0, y1, y2]) rfl HP.out

set_option maxHeartbeats 1600000 in
set_option maxRecDepth 100000 in
theorem gone_c (w : World) {L a o i rb : Nat} {c : Ch} {v : Value} {A Z : List Value} {g : Option Nat} {bs : List UInt8} {p : Nat} {why : Int} (h : CX w a o i c v A Z) (hok : Ok L c) (hr : WR w rb g bs p why) (har : a < rb) :
    Calls Try.prog 59 #[.pointer (some ⟨a, o, none⟩), .pointer (some ⟨rb, 0, none⟩)] w fun e w' => OutP w a rb i v A Z (goneO c i bs p why) e w' := by
  have hal := h.lt
  have HVL := hidden h.held.lt
  have hrl := hr.lt
  have HR1 := hidden (hr.same (boxO_keeps w))
  have HBX1 := hidden (boxO_at w)
  have HCX1 := hidden (h.still (boxO_keeps w))
  have HK1 := hidden ((boxO_keeps w).mono (S' := fun k => k = rb) (fun k _ h => h.elim))
  have HS1 := hidden (Nat.le_of_eq (boxO_size w).symm)
  unfold goneO
  generalize hd : wholeB bs p why = d at *
  have HW : Hid (∀ w', WR w' rb g bs p why → Calls Try.prog 68 #[.pointer (some ⟨rb, 0, none⟩)] w' fun e w'' => e = .returned (.bool d) ∧ Keeps (fun _ => False) w' w'') := hidden fun w' h' => by rw [← hd]; exact isWhole_c w' h'
  have hth := hok.th
  clear h hr hd hok
  unfold boxO at HR1 HBX1 HCX1 HK1 HS1
  cases d
  · rw [if_neg (by rintro h; cases h)]
    go_enter Try.func59, Try.ntmps59
    go_wp2_with fail
    generalize w.alloc (.cells #[.slice none 0 0, .slice none 0 0, .bool false] 65) = w0 at *
    refine (HW.out _ HR1.out).mono ?_
    rintro e w3 ⟨rfl, hk3⟩
    have HBXw := hidden ((hk3.block _ (lt_of_block HBX1.out) (fun h => h)).trans HBX1.out)
    have HKw := hidden (HK1.out.trans (hk3.mono (S' := fun k => k = rb) (fun k _ h => h.elim)))
    have HCX3 := hidden (HCX1.out.still hk3)
    have HS3 := hidden (Nat.le_trans HS1.out hk3.size)
    clear hk3 HW HR1 HK1 HBX1 HCX1 HS1
    have HP := hidden (OutP.wrong (i := i) (v := v) (A := A) (Z := Z) HKw.out (show a ≠ rb by omega) hal)
    obtain ⟨b0, b1, b2, bf⟩ := cells3i HBXw.out
    have hy := putO_at (.slice none 0 0) (.slice none 0 0) true HBXw.out
    unfold putO at HP hy
    go_wp2_with fail
    generalize ((w3.setCell ⟨w.heap.size, 0, none⟩ (.slice none 0 0)).setCell ⟨w.heap.size, 1, none⟩ (.slice none 0 0)).setCell ⟨w.heap.size, 2, none⟩ (.bool true) = wz at HP hy ⊢
    obtain ⟨y0, y1, y2, yf⟩ := cells3i hy
    refine bodyPost_ret (v := .agg #[.slice none 0 0, .slice none 0 0, .bool true]) (by simp [results, Try.results59, go_sem, y0, y1, y2]) rfl HP.out
  · rw [if_pos rfl]
    cases hcl : c.cl
    · rw [if_neg (by rintro h; cases h)]
      go_enter Try.func59, Try.ntmps59
      go_wp2_with fail
      generalize w.alloc (.cells #[.slice none 0 0, .slice none 0 0, .bool false] 65) = w0 at *
      refine (HW.out _ HR1.out).mono ?_
      rintro e w3 ⟨rfl, hk3⟩
      have HBXw := hidden ((hk3.block _ (lt_of_block HBX1.out) (fun h => h)).trans HBX1.out)
      have HKw := hidden (HK1.out.trans (hk3.mono (S' := fun k => k = rb) (fun k _ h => h.elim)))
      have HCX3 := hidden (HCX1.out.still hk3)
      have HS3 := hidden (Nat.le_trans HS1.out hk3.size)
      clear hk3 HW HR1 HK1 HBX1 HCX1 HS1
      obtain ⟨c0, c1, c2, c3, c4, c5, c6, c7, c8, cf⟩ := HCX3.out.cells
      go_wp2_with fail
      refine (tell_c 4 w3 HCX3.out).mono ?_
      rintro e w4 ⟨rfl, rfl⟩
      have HE4 := hidden (heap_alloc_new w3 (.cells #[.int .i64 4, .int .i64 i, .slice none 0 0] 51))
      have hk4 : Keeps (fun _ => False) w3 (w3.alloc (.cells #[.int .i64 4, .int .i64 i, .slice none 0 0] 51)) := (Keeps.refl _ _).alloc _
      have HBX4 := hidden ((hk4.block _ (lt_of_block HBXw.out) (fun h => h)).trans HBXw.out)
      have HK4 := hidden (HKw.out.trans (hk4.mono (S' := fun k => k = rb) (fun k _ h => h.elim)))
      have HCX4 := hidden (HCX3.out.still hk4)
      obtain ⟨g4, hg4⟩ : ∃ g4, g4 = w3.heap.size := ⟨_, rfl⟩
      have hg4a : w.heap.size + 1 ≤ g4 := by rw [hg4]; exact HS3.out
      rw [← hg4] at HE4 ⊢
      clear hg4 hk4 HBXw HKw HCX3 HS3 c0 c1 c2 c3 c4 c5 c6 c7 c8 cf
      generalize w3.alloc (.cells #[.int .i64 4, .int .i64 i, .slice none 0 0] 51) = w4 at *
      have hk5 : Keeps (fun _ => False) w4 (w4.alloc (.cells #[.slice none 0 0, .slice (some ⟨g4, 0, none⟩) 1 1, .bool false] 65)) := (Keeps.refl _ _).alloc _
      have HB5 := hidden (heap_alloc_new w4 (.cells #[.slice none 0 0, .slice (some ⟨g4, 0, none⟩) 1 1, .bool false] 65))
      have HBX5 := hidden ((hk5.block _ (lt_of_block HBX4.out) (fun h => h)).trans HBX4.out)
      have HK5 := hidden (HK4.out.trans (hk5.mono (S' := fun k => k = rb) (fun k _ h => h.elim)))
      have HCX5 := hidden (HCX4.out.still hk5)
      have HE5 := hidden ((hk5.block _ (lt_of_block HE4.out) (fun h => h)).trans HE4.out)
      obtain ⟨b5, hb5⟩ : ∃ b5, b5 = w4.heap.size := ⟨_, rfl⟩
      have hg4b : g4 < b5 := by rw [hb5]; exact lt_of_block HE4.out
      have hb5l : b5 < (w4.alloc (.cells #[.slice none 0 0, .slice (some ⟨g4, 0, none⟩) 1 1, .bool false] 65)).heap.size := by rw [hb5]; simp
      rw [← hb5] at HB5
      obtain ⟨c0, c1, c2, c3, c4, c5, c6, c7, c8, cf⟩ := HCX5.out.cells
      rw [hcl] at c3
      clear hk5 HBX4 HK4 HCX4 HE4
      go_upto_if 17 with fail
      rw [← hb5]
      clear hb5
      generalize w4.alloc (.cells #[.slice none 0 0, .slice (some ⟨g4, 0, none⟩) 1 1, .bool false] 65) = w5 at *
      have HN := hidden (nsl_lit w5 [c.th])
      go_wp2_with fail
      refine (numbers_c 97 _ [c.th] _ HN.out (by intro j hj; match j, hj with | 0, _ => exact hth) (by simp)).mono ?_
      rintro e w6 ⟨v6, rfl, ho6, hb6⟩
      obtain ⟨a6, p6, e6⟩ := ownsRow_shape ho6
      subst e6
      rw [show byteOf ((97 : Nat) : Int) = 97 from rfl] at ho6 ⊢
      have hk7 : Keeps (fun _ => False) w5 (w6.alloc (.cells #[.slice a6 (numL 97 [c.th]).length p6] 30)) := (Keeps.ofFresh (below_alloc hb6)).alloc _
      have HLS := hidden (Lst.one (B := w5.heap.size) ho6 (by simp) hb6.size)
      have HB7 := hidden ((hk7.block _ (lt_of_block HB5.out) (fun h => h)).trans HB5.out)
      have HBX7 := hidden ((hk7.block _ (lt_of_block HBX5.out) (fun h => h)).trans HBX5.out)
      have HK7 := hidden (HK5.out.trans (hk7.mono (S' := fun k => k = rb) (fun k _ h => h.elim)))
      have HCX7 := hidden (HCX5.out.still hk7)
      have HE7 := hidden ((hk7.block _ (lt_of_block HE5.out) (fun h => h)).trans HE5.out)
      clear ho6 hb6 hk7 HN HB5 HBX5 HK5 HCX5 HE5 c0 c1 c2 c3 c4 c5 c6 c7 c8 cf
      generalize (numL 97 [c.th]).length = n6 at *
      obtain ⟨g6, hg6⟩ : ∃ g6, g6 = w6.heap.size := ⟨_, rfl⟩
      rw [← hg6] at HLS
      obtain ⟨b0, b1, b2, bf⟩ := cells3i HB7.out
      go_upto_region 6 with fail
      rw [← hg6]
      clear hg6
      generalize w6.alloc (.cells #[.slice a6 n6 p6] 30) = w7 at *
      have hk8 := keepsSet w7 b5 0 (.slice (some ⟨g6, 0, none⟩) 1 1)
      have HB8 := hidden (set3i HB7.out (.slice (some ⟨g6, 0, none⟩) 1 1)).1
      have HBX8 := hidden ((hk8.block _ (lt_of_block HBX7.out) (by omega)).trans HBX7.out)
      have HE8 := hidden ((hk8.block _ (lt_of_block HE7.out) (by omega)).trans HE7.out)
      have HK8 : Hid (Keeps (fun k => k = rb) w (w7.setCell ⟨b5, 0, none⟩ (.slice (some ⟨g6, 0, none⟩) 1 1))) := hidden (HK7.out.setCell (.inr (by show w.heap.size ≤ b5; omega)) _)
      have HCX8 := hidden (HCX7.out.keep hk8 (by omega) (fun k e e2 => by have := HVL.out k e; omega))
      have HL8 := hidden (HLS.out.keep hk8 (fun k e => by omega))
      clear hk8 HB7 HBX7 HE7 HK7 HCX7 HLS b0 b1 b2 bf
      generalize w7.setCell ⟨b5, 0, none⟩ (.slice (some ⟨g6, 0, none⟩) 1 1) = w8 at *
      have HZ9 := hidden HCX8.out.zero
      have hk9 := setCells_keeps a zeroL o w8
      have HB9 := hidden ((hk9.block _ (lt_of_block HB8.out) (by omega)).trans HB8.out)
      have HBX9 := hidden ((hk9.block _ (lt_of_block HBX8.out) (by omega)).trans HBX8.out)
      have HE9 := hidden ((hk9.block _ (lt_of_block HE8.out) (by omega)).trans HE8.out)
      have HK9 := hidden ((HK8.out.mono (S' := fun k => k = a ∨ k = rb) (fun k _ h => Or.inr h)).trans (hk9.mono (fun k _ h => Or.inl h)))
      have HL9 := hidden (HL8.out.keep hk9 (fun k e => by omega))
      obtain ⟨c0, c1, c2, c3, c4, c5, c6, c7, c8, cf⟩ := HCX8.out.cells
      clear hk9 HB8 HBX8 HE8 HK8 HCX8 HL8
      rw [zeroW_eq] at HZ9 HB9 HBX9 HE9 HK9 HL9
      have hsc := fun w p m => store_cxa w p m
      go_upto_region 7 with fail
      change Code.wp _ _ _ _ (zeroW w8 a o)
      clear hsc c0 c1 c2 c3 c4 c5 c6 c7 c8 cf
      generalize zeroW w8 a o = w9 at *
      obtain ⟨b0, b1, b2, bf⟩ := cells3i HB9.out
      have HBXw := HBX9
      have HP := hidden (OutP.right (w := w) (w1 := w9) (rb := rb) (v := v) (v' := .slice none 0 0) (oc := none) (es := [⟨4, i, []⟩]) HK9.out hal (HL9.out.mono (by omega)) (Evs.ofBlk HE9.out hg4a) HZ9.out (fun c e => by cases e) (fun k e => by simp [Value.ownBlock] at e) HVL.out)
      clear HBX9 HE9 HK9 HL9 HZ9 HB9
      obtain ⟨x0, x1, x2, xf⟩ := cells3i HBXw.out
      have hy := putO_at (.slice (some ⟨g6, 0, none⟩) 1 1) (.slice (some ⟨g4, 0, none⟩) 1 1) false HBXw.out
      unfold putO at HP hy
      go_wp2_with fail
      generalize ((w9.setCell ⟨w.heap.size, 0, none⟩ (.slice (some ⟨g6, 0, none⟩) 1 1)).setCell ⟨w.heap.size, 1, none⟩ (.slice (some ⟨g4, 0, none⟩) 1 1)).setCell ⟨w.heap.size, 2, none⟩ (.bool false) = wz at HP hy ⊢
      obtain ⟨y0, y1, y2, yf⟩ := cells3i hy
      refine bodyPost_ret (v := .agg #[.slice (some ⟨g6, 0, none⟩) 1 1, .slice (some ⟨g4, 0, none⟩) 1 1, .bool false]) (by simp [results, Try.results59, go_sem, y0, y1, y2]) rfl HP.out
    · rw [if_pos rfl]
      go_enter Try.func59, Try.ntmps59
      go_wp2_with fail
      generalize w.alloc (.cells #[.slice none 0 0, .slice none 0 0, .bool false] 65) = w0 at *
      refine (HW.out _ HR1.out).mono ?_
      rintro e w3 ⟨rfl, hk3⟩
      have HBXw := hidden ((hk3.block _ (lt_of_block HBX1.out) (fun h => h)).trans HBX1.out)
      have HKw := hidden (HK1.out.trans (hk3.mono (S' := fun k => k = rb) (fun k _ h => h.elim)))
      have HCX3 := hidden (HCX1.out.still hk3)
      have HS3 := hidden (Nat.le_trans HS1.out hk3.size)
      clear hk3 HW HR1 HK1 HBX1 HCX1 HS1
      obtain ⟨c0, c1, c2, c3, c4, c5, c6, c7, c8, cf⟩ := HCX3.out.cells
      go_wp2_with fail
      refine (tell_c 4 w3 HCX3.out).mono ?_
      rintro e w4 ⟨rfl, rfl⟩
      have HE4 := hidden (heap_alloc_new w3 (.cells #[.int .i64 4, .int .i64 i, .slice none 0 0] 51))
      have hk4 : Keeps (fun _ => False) w3 (w3.alloc (.cells #[.int .i64 4, .int .i64 i, .slice none 0 0] 51)) := (Keeps.refl _ _).alloc _
      have HBX4 := hidden ((hk4.block _ (lt_of_block HBXw.out) (fun h => h)).trans HBXw.out)
      have HK4 := hidden (HKw.out.trans (hk4.mono (S' := fun k => k = rb) (fun k _ h => h.elim)))
      have HCX4 := hidden (HCX3.out.still hk4)
      obtain ⟨g4, hg4⟩ : ∃ g4, g4 = w3.heap.size := ⟨_, rfl⟩
      have hg4a : w.heap.size + 1 ≤ g4 := by rw [hg4]; exact HS3.out
      rw [← hg4] at HE4 ⊢
      clear hg4 hk4 HBXw HKw HCX3 HS3 c0 c1 c2 c3 c4 c5 c6 c7 c8 cf
      generalize w3.alloc (.cells #[.int .i64 4, .int .i64 i, .slice none 0 0] 51) = w4 at *
      have hk5 : Keeps (fun _ => False) w4 (w4.alloc (.cells #[.slice none 0 0, .slice (some ⟨g4, 0, none⟩) 1 1, .bool false] 65)) := (Keeps.refl _ _).alloc _
      have HB5 := hidden (heap_alloc_new w4 (.cells #[.slice none 0 0, .slice (some ⟨g4, 0, none⟩) 1 1, .bool false] 65))
      have HBX5 := hidden ((hk5.block _ (lt_of_block HBX4.out) (fun h => h)).trans HBX4.out)
      have HK5 := hidden (HK4.out.trans (hk5.mono (S' := fun k => k = rb) (fun k _ h => h.elim)))
      have HCX5 := hidden (HCX4.out.still hk5)
      have HE5 := hidden ((hk5.block _ (lt_of_block HE4.out) (fun h => h)).trans HE4.out)
      obtain ⟨b5, hb5⟩ : ∃ b5, b5 = w4.heap.size := ⟨_, rfl⟩
      have hg4b : g4 < b5 := by rw [hb5]; exact lt_of_block HE4.out
      have hb5l : b5 < (w4.alloc (.cells #[.slice none 0 0, .slice (some ⟨g4, 0, none⟩) 1 1, .bool false] 65)).heap.size := by rw [hb5]; simp
      rw [← hb5] at HB5
      obtain ⟨c0, c1, c2, c3, c4, c5, c6, c7, c8, cf⟩ := HCX5.out.cells
      rw [hcl] at c3
      clear hk5 HBX4 HK4 HCX4 HE4
      go_upto_if 17 with fail
      rw [← hb5]
      clear hb5
      generalize w4.alloc (.cells #[.slice none 0 0, .slice (some ⟨g4, 0, none⟩) 1 1, .bool false] 65) = w5 at *
      have HB8 := HB5
      have HBX8 := HBX5
      have HE8 := HE5
      have HK8 := HK5
      have HCX8 := HCX5
      have HL8 := hidden (Lst.nil' w5.heap.size w5)
      clear HB5 HBX5 HE5 HK5 HCX5 c0 c1 c2 c3 c4 c5 c6 c7 c8 cf
      go_upto_region 6 with fail
      have HZ9 := hidden HCX8.out.zero
      have hk9 := setCells_keeps a zeroL o w5
      have HB9 := hidden ((hk9.block _ (lt_of_block HB8.out) (by omega)).trans HB8.out)
      have HBX9 := hidden ((hk9.block _ (lt_of_block HBX8.out) (by omega)).trans HBX8.out)
      have HE9 := hidden ((hk9.block _ (lt_of_block HE8.out) (by omega)).trans HE8.out)
      have HK9 := hidden ((HK8.out.mono (S' := fun k => k = a ∨ k = rb) (fun k _ h => Or.inr h)).trans (hk9.mono (fun k _ h => Or.inl h)))
      have HL9 := hidden (HL8.out.keep hk9 (fun k e => by omega))
      obtain ⟨c0, c1, c2, c3, c4, c5, c6, c7, c8, cf⟩ := HCX8.out.cells
      clear hk9 HB8 HBX8 HE8 HK8 HCX8 HL8
      rw [zeroW_eq] at HZ9 HB9 HBX9 HE9 HK9 HL9
      have hsc := fun w p m => store_cxa w p m
      go_upto_region 7 with fail
      change Code.wp _ _ _ _ (zeroW w5 a o)
      clear hsc c0 c1 c2 c3 c4 c5 c6 c7 c8 cf
      generalize zeroW w5 a o = w9 at *
      obtain ⟨b0, b1, b2, bf⟩ := cells3i HB9.out
      have HBXw := HBX9
      have HP := hidden (OutP.right (w := w) (w1 := w9) (rb := rb) (v := v) (v' := .slice none 0 0) (oc := none) (es := [⟨4, i, []⟩]) HK9.out hal (HL9.out.mono (by omega)) (Evs.ofBlk HE9.out hg4a) HZ9.out (fun c e => by cases e) (fun k e => by simp [Value.ownBlock] at e) HVL.out)
      clear HBX9 HE9 HK9 HL9 HZ9 HB9
      obtain ⟨x0, x1, x2, xf⟩ := cells3i HBXw.out
      have hy := putO_at (.slice none 0 0) (.slice (some ⟨g4, 0, none⟩) 1 1) false HBXw.out
      unfold putO at HP hy
      go_wp2_with fail
      generalize ((w9.setCell ⟨w.heap.size, 0, none⟩ (.slice none 0 0)).setCell ⟨w.heap.size, 1, none⟩ (.slice (some ⟨g4, 0, none⟩) 1 1)).setCell ⟨w.heap.size, 2, none⟩ (.bool false) = wz at HP hy ⊢
      obtain ⟨y0, y1, y2, yf⟩ := cells3i hy
      refine bodyPost_ret (v := .agg #[.slice none 0 0, .slice (some ⟨g4, 0, none⟩) 1 1, .bool false]) (by simp [results, Try.results59, go_sem, y0, y1, y2]) rfl HP.out
end Go.Proofs.Ytnimdbjbkoggdaa
