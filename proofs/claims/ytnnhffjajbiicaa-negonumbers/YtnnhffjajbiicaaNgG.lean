/- Lists in memory; what the law's helpers short, in and same do. -/
import Derived.Test.YtnnhffjajbiicaaNgE
import Derived.Test.YtnnhffjajbiicaaQrH
namespace Go.Proofs.Ytnnhffjajbiicaa
open Go Go.RowKit

/-- The cells of a Lists: the cookie, ten lists, and whether one follows. -/
def lcells (ck : Value) (nm : List Value) (fo : Bool) : List Value := ck :: (nm ++ [.bool fo])
/-- In w they read as a cookie and ten lists. -/
structure LRd (w : World) (ck : Value) (nm : List Value) (bs : List UInt8) (ls : List (List ByteArray)) : Prop where
  ck : BSl w ck bs
  nl : nm.length = 10
  ll : ls.length = 10
  nm : ∀ i, i < 10 → SSl w (nm.getD i undef) (ls.getD i [])

theorem LRd.keep {S : Nat → Prop} {w w' : World} {ck : Value} {nm : List Value} {bs : List UInt8} {ls : List (List ByteArray)} (h : LRd w ck nm bs ls) (hk : Keeps S w w') (hc : ∀ k, ck.ownBlock = some k → ¬ S k) (hn : ∀ i, i < 10 → ∀ k, (nm.getD i undef).ownBlock = some k → ¬ S k) : LRd w' ck nm bs ls :=
  ⟨h.ck.keep hk hc, h.nl, h.ll, fun i hi => (h.nm i hi).keep hk (hn i hi)⟩
theorem LRd.fresh {w w' : World} {ck : Value} {nm : List Value} {bs : List UInt8} {ls : List (List ByteArray)} (h : LRd w ck nm bs ls) (hb : Below w.heap.size w w') : LRd w' ck nm bs ls :=
  h.keep (S := fun _ => False) (Keeps.ofFresh hb) (fun _ _ h => h) (fun _ _ _ _ h => h)
theorem LRd.still {w w' : World} {ck : Value} {nm : List Value} {bs : List UInt8} {ls : List (List ByteArray)} (h : LRd w ck nm bs ls) (hb : Still w w') : LRd w' ck nm bs ls :=
  h.keep hb (fun _ _ h => h) (fun _ _ _ _ h => h)

theorem lcells_len {ck : Value} {nm : List Value} {fo : Bool} (h : nm.length = 10) : (lcells ck nm fo).length = 12 := by simp [lcells, h]
theorem lcells_at {ck : Value} {nm : List Value} {fo : Bool} (h : nm.length = 10) {i : Nat} (hi : i < 10) : (lcells ck nm fo)[1 + i]? = some (nm.getD i undef) := by
  unfold lcells
  rw [Nat.add_comm, List.getElem?_cons_succ, List.getElem?_append_left (by omega), List.getD_eq_getElem?_getD, List.getElem?_eq_getElem (by omega)]
  rfl
theorem lcells_end {ck : Value} {nm : List Value} {fo : Bool} (h : nm.length = 10) : (lcells ck nm fo)[11]? = some (.bool fo) := by
  unfold lcells
  rw [List.getElem?_cons_succ, List.getElem?_append_right (by omega), h]
  rfl
theorem lcells_ck (ck u : Value) (nm : List Value) (fo : Bool) : (lcells ck nm fo).set 0 u = lcells u nm fo := rfl
theorem lcells_set {ck : Value} {nm : List Value} {fo : Bool} (h : nm.length = 10) {i : Nat} (hi : i < 10) (u : Value) : (lcells ck nm fo).set (1 + i) u = lcells ck (nm.set i u) fo := by
  unfold lcells
  rw [Nat.add_comm, List.set_cons_succ, List.set_append_left _ _ (by omega)]
theorem lcells_fo {ck : Value} {nm : List Value} {fo : Bool} (h : nm.length = 10) (f : Bool) : (lcells ck nm fo).set 11 (.bool f) = lcells ck nm f := by
  unfold lcells
  rw [List.set_cons_succ, List.set_append_right _ _ (by omega), h]
  rfl

/-- A box that holds a Lists (of the type t). -/
def LBox (w : World) (B : Nat) (t : TypeId) (cs : List Value) : Prop := w.heap[B]? = some (.cells cs.toArray t (0, 0))
theorem LBox.cell {w : World} {B : Nat} {t : TypeId} {cs : List Value} (h : LBox w B t cs) {i : Nat} {v : Value} (hv : cs[i]? = some v) : w.cell? ⟨B, i, none⟩ = some v := by
  rw [cell_row h]; exact hv
theorem LBox.free {w : World} {B : Nat} {t : TypeId} {cs : List Value} (h : LBox w B t cs) : ∀ j, w.frozen? ⟨B, j, none⟩ = false := frozen_row h
theorem LBox.lt {w : World} {B : Nat} {t : TypeId} {cs : List Value} (h : LBox w B t cs) : B < w.heap.size := lt_of_block h
theorem LBox.set {w : World} {B : Nat} {t : TypeId} {cs : List Value} (h : LBox w B t cs) (i : Nat) (u : Value) : LBox (w.setCell ⟨B, i, none⟩ u) B t (cs.set i u) := by
  unfold LBox
  rw [heap_setCell_same _ _ _ _ _ _ h]
  simp
theorem LBox.keep {S : Nat → Prop} {w w' : World} {B : Nat} {t : TypeId} {cs : List Value} (h : LBox w B t cs) (hk : Keeps S w w') (hn : ¬ S B) : LBox w' B t cs := (hk.block B h.lt hn).trans h
theorem LBox.fresh {w w' : World} {B : Nat} {t : TypeId} {cs : List Value} (h : LBox w B t cs) (hb : Below w.heap.size w w') : LBox w' B t cs := h.keep (Keeps.ofFresh (S := fun _ => False) hb) (fun h => h)
theorem LBox.still {w w' : World} {B : Nat} {t : TypeId} {cs : List Value} (h : LBox w B t cs) (hb : Still w w') : LBox w' B t cs := h.keep hb (fun h => h)

theorem LBox.other {w : World} {B C : Nat} {t : TypeId} {cs : List Value} (h : LBox w B t cs) (hn : C ≠ B) (i : Nat) (u : Value) : LBox (w.setCell ⟨C, i, none⟩ u) B t cs :=
  (Below.heap_setCell w ⟨C, i, none⟩ u B (fun e => hn e.symm)).trans h
theorem LBox.new (w : World) (t : TypeId) (cs : List Value) : LBox (w.alloc (.cells cs.toArray t)) w.heap.size t cs := heap_alloc_new w _
theorem LBox.alloc {w : World} {B : Nat} {t : TypeId} {cs : List Value} (h : LBox w B t cs) (o : Obj) : LBox (w.alloc o) B t cs := (Below.heap_alloc w o B h.lt).trans h
theorem box_two (w : World) (t u : TypeId) (cs zs : List Value) : LBox ((w.alloc (.cells cs.toArray t)).alloc (.cells zs.toArray u)) w.heap.size t cs ∧ LBox ((w.alloc (.cells cs.toArray t)).alloc (.cells zs.toArray u)) (w.heap.size + 1) u zs ∧ Below w.heap.size w ((w.alloc (.cells cs.toArray t)).alloc (.cells zs.toArray u)) ∧ ((w.alloc (.cells cs.toArray t)).alloc (.cells zs.toArray u)).heap.size = w.heap.size + 2 := by
  refine ⟨(LBox.new w t cs).alloc _, ?_, ((Below.refl _ w).alloc (Nat.le_refl _) _).alloc (by simp) _, by simp⟩
  have := LBox.new (w.alloc (.cells cs.toArray t)) u zs
  have e : (w.alloc (.cells cs.toArray t)).heap.size = w.heap.size + 1 := by simp
  rw [e] at this
  exact this
theorem keeps_set (w : World) (B i : Nat) (u : Value) : Keeps (fun j => j = B) w (w.setCell ⟨B, i, none⟩ u) := Keeps.setCell (S := fun j => j = B) (Keeps.refl _ w) (p := ⟨B, i, none⟩) (Or.inl rfl) u
theorem keeps_row (w : World) (B : Nat) (cs : Array Value) : Keeps (fun j => j = B) w (w.setRow B cs) :=
  ⟨rfl, rfl, rfl, by simp, fun k _ hn => setRow_other w B k cs hn⟩
theorem LBox.row {w : World} {B : Nat} {t : TypeId} {cs : List Value} (h : LBox w B t cs) (ds : List Value) : LBox (w.setRow B ds.toArray) B t ds := setRow_heap w B _ _ t (0, 0) h
/-- A Lists of nothing. -/
def noL : List Value := lcells (.slice none 0 0) (List.replicate 10 (.slice none 0 0)) false

/-- The whole of a box, by value. -/
theorem wpList_loadAgg {P : Program} {ops : Array Oper} {rest : List Oper} {o : Oper} {a : Act} {w : World} {Q : Exit → Act → World → Prop} (hgd : o.guard = none) (ty : TypeId) (x : Operand) (ho : o.op = .load ty x)
    (g : Nat) (cs : Array Value) (t : TypeId) (fr : Nat × Nat) {fs : Array Field} (hx : a.eval x = .pointer (some ⟨g, 0, none⟩)) (hg : w.heap[g]? = some (.cells cs t fr))
    (hu : P.underlying ty = some (.struct fs)) (hi : (P.info? ty).map (·.size) = some cs.size)
    (h : wpList P ops Q rest (a.put o.dst (.agg cs)) w) : wpList P ops Q (o :: rest) a w :=
  wpList_plain hgd fun _ hK => by
    unfold Oper.wp execOp
    simp only [ho, Instr.loadAt, Sem.run_bind, hx, Instr.sureAddr, Sem.run_pure, Result.andThen, run_loadVar_row w g t ty cs fr _ hg hu rfl hi]
    exact hK _ _ h
theorem results_agg1 {fn : Func} {p : Tmp} {ty : TypeId} (h : fn.results = #[.cell p ty]) (tmps : Array Value) (P : Program) (w : World) (g : Nat) (cs : Array Value) (t : TypeId) (fr : Nat × Nat) {fs : Array Field} (hp : tmps.getD p undef = .pointer (some ⟨g, 0, none⟩)) (hg : w.heap[g]? = some (.cells cs t fr))
    (hu : P.underlying ty = some (.struct fs)) (hi : (P.info? ty).map (·.size) = some cs.size) :
    (results fn tmps).run P w = .ok (.agg cs) w := by
  have hp' : tmps[p]?.getD undef = .pointer (some ⟨g, 0, none⟩) := by rw [← hp]; simp
  simp only [results, h]
  simp [hp', asAddr, run_loadVar_row w g t ty cs fr _ hg hu rfl hi]

theorem sizeL : (Try.prog.info? 38).map (·.size) = some 12 := by kernel_rfl
theorem sizeR : (Try.prog.info? 43).map (·.size) = some 12 := by kernel_rfl
theorem one_bsl {w : World} {v : Value} {xs : List UInt8} (h : BSl w v xs) : v.oneCell' = true := by obtain ⟨_, _, rfl, _⟩ := h; rfl
theorem one_ssl {w : World} {v : Value} {ss : List ByteArray} (h : SSl w v ss) : v.oneCell' = true := by obtain ⟨_, _, rfl, _⟩ := h; rfl
theorem LRd.one {w : World} {ck : Value} {nm : List Value} {bs : List UInt8} {ls : List (List ByteArray)} {fo : Bool} (h : LRd w ck nm bs ls) : (lcells ck nm fo).toArray.all (·.oneCell') = true := by
  rw [List.all_toArray, List.all_eq_true]
  intro x hx
  simp only [lcells, List.mem_cons, List.mem_append, List.not_mem_nil, or_false] at hx
  rcases hx with rfl | hx | rfl
  · exact one_bsl h.ck
  · obtain ⟨i, hi, rfl⟩ := List.mem_iff_getElem.1 hx
    have := one_ssl (h.nm i (by have := h.nl; omega))
    rwa [List.getD_eq_getElem?_getD, List.getElem?_eq_getElem hi] at this
  · rfl

/-- The first i of ten lists are laid anew: they lie from block B on. -/
structure Fill (w : World) (B : Nat) (nm : List Value) (R : Nat → List ByteArray) (i : Nat) : Prop where
  nl : nm.length = 10
  done : ∀ j, j < i → SSl w (nm.getD j undef) (R j) ∧ ∀ k, (nm.getD j undef).ownBlock = some k → B ≤ k
theorem getD_set_eq {nm : List Value} {i : Nat} (h : i < nm.length) (v : Value) : (nm.set i v).getD i undef = v := by
  rw [List.getD_eq_getElem?_getD, List.getElem?_set_self h]; rfl
theorem getD_set_ne {nm : List Value} {i j : Nat} (h : i ≠ j) (v : Value) : (nm.set i v).getD j undef = nm.getD j undef := by
  rw [List.getD_eq_getElem?_getD, List.getElem?_set_ne h, ← List.getD_eq_getElem?_getD]
theorem Fill.zero {w : World} {B : Nat} {nm : List Value} {R : Nat → List ByteArray} (h : nm.length = 10) : Fill w B nm R 0 := ⟨h, fun j hj => by omega⟩
theorem Fill.keep {S : Nat → Prop} {w w' : World} {B i : Nat} {nm : List Value} {R : Nat → List ByteArray} (h : Fill w B nm R i) (hk : Keeps S w w') (hS : ∀ k, S k → k < B) : Fill w' B nm R i :=
  ⟨h.nl, fun j hj => ⟨(h.done j hj).1.keep hk (fun k e hs => by have := (h.done j hj).2 k e; have := hS k hs; omega), (h.done j hj).2⟩⟩
theorem Fill.next {w : World} {B i : Nat} {nm : List Value} {R : Nat → List ByteArray} (h : Fill w B nm R i) (hi : i < 10) {v : Value} (hv : SSl w v (R i)) (ho : ∀ k, v.ownBlock = some k → B ≤ k) : Fill w B (nm.set i v) R (i + 1) := by
  refine ⟨by simpa using h.nl, fun j hj => ?_⟩
  by_cases e : i = j
  · subst e
    rw [getD_set_eq (by have := h.nl; omega)]
    exact ⟨hv, ho⟩
  · rw [getD_set_ne e]
    exact h.done j (by omega)

set_option maxHeartbeats 400000 in
theorem cut_s (m : Nat) (hm : m ≤ 1000000) (ao : Option Addr) (n cap : Nat) (h1 : n ≤ cap) (w : World) :
    Calls Try.prog 22 #[.slice ao n cap, .int .i64 m] w fun e w' => e = .returned (.slice ao (min n m) cap) ∧ w' = w := by
  by_cases h : m < n
  · have h3 : (m : Int) < (n : Int) := by omega
    have h4 : (m : Int) ≤ (cap : Int) := by omega
    have e : min n m = m := by omega
    rw [e]
    go_enter Try.func22, Try.ntmps22
    go_wp2
    go_ret
    exact ⟨rfl, rfl⟩
  · have h3 : ¬ (m : Int) < (n : Int) := by omega
    have e : min n m = n := by omega
    rw [e]
    go_enter Try.func22, Try.ntmps22
    go_wp2
    go_ret
    exact ⟨rfl, rfl⟩
theorem BSl.cutS {w : World} {ao : Option Addr} {cap : Nat} {bs : List UInt8} (h : BSl w (.slice ao bs.length cap) bs) (m : Nat) : BSl w (.slice ao (min bs.length m) cap) (bs.take m) := by
  by_cases hm : m ≤ bs.length
  · rw [Nat.min_eq_right hm]; exact h.head' hm
  · rw [Nat.min_eq_left (by omega), List.take_of_length_le (by omega)]; exact h

set_option maxHeartbeats 1600000 in
set_option maxRecDepth 100000 in
theorem short_c (ck : Value) (nm : List Value) (fo : Bool) (bs : List UInt8) (ls : List (List ByteArray)) (w : World) (h : LRd w ck nm bs ls) :
    Calls Try.prog 20 #[.agg (lcells ck nm fo).toArray] w fun e w' => ∃ ck' nm', e = .returned (.agg (lcells ck' nm' fo).toArray) ∧ (∀ V, BSl V ck bs → BSl V ck' (bs.take 20)) ∧ LRd w' ck' nm' (bs.take 20) (ls.map fun l => fewL l 6 66) ∧ (∀ i, i < 10 → ∀ k, (nm'.getD i undef).ownBlock = some k → w.heap.size ≤ k) ∧ Below w.heap.size w w' := by
  have HR := hidden h
  obtain ⟨hck, hnl, hll, hnm⟩ := h
  have HCK := hidden hck
  have HNM := hidden hnm
  have HLL := hidden hll
  have hc0 : (lcells ck nm fo)[0]? = some ck := rfl
  clear hnm hll
  obtain ⟨ao, cap, rfl, hc1, hc2, hcx⟩ := hck
  clear hcx
  have HCUT := hidden (HCK.out.cutS 20)
  have HCS : Hid (∀ u, (lcells (.slice ao bs.length cap) nm fo).set 0 u = lcells u nm fo) := fun u => rfl
  generalize lcells (.slice ao bs.length cap) nm fo = cs at hc0 HCS
  go_enter Try.func20, Try.ntmps20
  go_wp2_with fail
  refine (cut_s 20 (by omega) ao bs.length cap hc1 _).mono ?_
  rintro e w1 ⟨rfl, rfl⟩
  obtain ⟨hx0, hx1, hbx, hsz⟩ := box_two w 38 38 cs [.slice none 0 0, .slice none 0 0, .slice none 0 0, .slice none 0 0, .slice none 0 0, .slice none 0 0, .slice none 0 0, .slice none 0 0, .slice none 0 0, .slice none 0 0, .slice none 0 0, .bool false]
  generalize (w.alloc (.cells cs.toArray 38)).alloc (.cells #[.slice none 0 0, .slice none 0 0, .slice none 0 0, .slice none 0 0, .slice none 0 0, .slice none 0 0, .slice none 0 0, .slice none 0 0, .slice none 0 0, .slice none 0 0, .slice none 0 0, .bool false] 38) = W1 at hx0 hx1 hbx hsz ⊢
  have hcl := hx0.cell hc0
  have hfr := hx0.free
  have HX0 := hidden (hx0.set 0 (.slice ao (min bs.length 20) cap))
  rw [HCS.out] at HX0
  have HX1 : Hid (LBox (W1.setCell ⟨w.heap.size, 0, none⟩ (.slice ao (min bs.length 20) cap)) (w.heap.size + 1) 38 noL) := hx1.other (by omega) 0 _
  have HBX := hidden (hbx.setCell (p := ⟨w.heap.size, 0, none⟩) (Nat.le_refl _) (.slice ao (min bs.length 20) cap))
  have HSZ : Hid ((W1.setCell ⟨w.heap.size, 0, none⟩ (.slice ao (min bs.length 20) cap)).heap.size = w.heap.size + 2) := by show _ = _; simpa using hsz
  clear hx0 hx1 hbx hsz
  go_wp2_with fail
  go_loopw [3] (fun i wr => ∃ (k : Nat) (nm2 : List Value), k ≤ 10 ∧ i = .int .i64 k ∧ LBox wr w.heap.size 38 (lcells (.slice ao (min bs.length 20) cap) nm2 fo) ∧ LBox wr (w.heap.size + 1) 38 noL ∧ Fill wr (w.heap.size + 2) nm2 (fun j => fewL (ls.getD j []) 6 66) k ∧ (∀ j, k ≤ j → nm2.getD j undef = nm.getD j undef) ∧ Below w.heap.size w wr) (fun i _ => 10 - (intOf i).toNat)
  case atStart => exact ⟨0, nm, by omega, rfl, HX0.out, HX1.out, Fill.zero hnl, fun _ _ => rfl, HBX.out⟩
  case round =>
    clear HX0 HX1 HBX HSZ hcl hfr
    obtain ⟨k, nm2, hk, rfl, hx0, hx1, hfl, hrest, hbx⟩ := hrel
    have HX0 := hidden hx0
    have HX1 := hidden hx1
    have HFL := hidden hfl
    have HRT := hidden hrest
    have HBX := hidden hbx
    have hsz : w.heap.size + 2 ≤ wr.heap.size := hx1.lt
    clear hx0 hx1 hfl hrest hbx
    by_cases hlt : k < 10
    · have hi1 : (k : Int) < 10 := by omega
      have hcl := HX0.out.cell (lcells_at HFL.out.nl hlt)
      rw [HRT.out k (Nat.le_refl _)] at hcl
      have hsl := (HNM.out k hlt).fresh HBX.out
      generalize nm.getD k undef = v at hcl hsl
      go_wp2_with fail
      refine (few_n 6 66 (by omega) (by omega) v _ _ hsl).mono ?_
      rintro e w3 ⟨v3, rfl, ho3, hb3⟩
      obtain ⟨F, hF⟩ : ∃ F, F = fewL (ls.getD k []) 6 66 := ⟨_, rfl⟩
      rw [← hF] at ho3
      have HF := hidden hF
      clear hF
      obtain ⟨a3, c3, rfl⟩ := ownsRow_shape ho3
      have hx0 := HX0.out.fresh hb3
      have hcl3 := hx0.cell (lcells_at HFL.out.nl hlt)
      have hfr3 := hx0.free
      have hkp : Keeps (fun j => j = w.heap.size) w3 (w3.setCell ⟨w.heap.size, 1 + k, none⟩ (.slice a3 F.length c3)) := keeps_set _ _ _ _
      have HK := hidden hkp
      have HO3 := hidden ho3
      have HB3 := hidden hb3
      have HX3 := hidden hx0
      clear hkp ho3 hb3 hx0 hcl hsl
      generalize nm2.getD k undef = u at hcl3
      go_wp2
      go_roundw
      case rel =>
        have hs3 : SSl w3 (.slice a3 F.length c3) F := SSl.ofRow HO3.out
        have hlt3 := HO3.out.lt
        have hb3 := HB3.out
        refine ⟨k + 1, nm2.set k (.slice a3 F.length c3), by omega, by go_num, ?_, ?_, ?_, ?_, ?_⟩
        · have := HX3.out.set (1 + k) (.slice a3 F.length c3)
          rwa [lcells_set HFL.out.nl hlt] at this
        · exact (HX1.out.fresh hb3).other (by omega) _ _
        · have h1 : Fill w3 (w.heap.size + 2) nm2 (fun j => fewL (ls.getD j []) 6 66) k := HFL.out.keep (Keeps.ofFresh (S := fun _ => False) hb3) (fun _ e => e.elim)
          have h2 := h1.next hlt (v := .slice a3 F.length c3) (by rw [HF.out] at hs3 ⊢; exact hs3) (fun j hj => Nat.le_trans hsz (hlt3 j hj).1)
          exact h2.keep HK.out (fun j e => by omega)
        · intro j hj
          rw [getD_set_ne (by omega)]
          exact HRT.out j (by omega)
        · exact (HBX.out.trans (hb3.mono HBX.out.size)).setCell (p := ⟨w.heap.size, 1 + k, none⟩) (Nat.le_refl _) _
      case measure => simp [intOf]; omega
    · have hi1 : ¬ (k : Int) < 10 := by omega
      obtain rfl : k = 10 := by omega
      have hrd : LRd wr (.slice ao (min bs.length 20) cap) nm2 (bs.take 20) (ls.map fun l => fewL l 6 66) := by
        refine ⟨HCUT.out.fresh HBX.out, HFL.out.nl, by simp [HLL.out], fun i hi => ?_⟩
        have h1 := (HFL.out.done i hi).1
        have e : (ls.map fun l => fewL l 6 66).getD i [] = fewL (ls.getD i []) 6 66 := by
          rw [List.getD_eq_getElem?_getD, List.getElem?_map, List.getD_eq_getElem?_getD, List.getElem?_eq_getElem (by have := HLL.out; omega)]
          rfl
        rw [e]
        exact h1
      have HRD := hidden hrd
      have hone := hrd.one (fo := fo)
      have hln := lcells_len (ck := .slice ao (min bs.length 20) cap) (fo := fo) hrd.nl
      clear hrd
      generalize hCC : lcells (.slice ao (min bs.length 20) cap) nm2 fo = CC at HX0 hone hln
      have HCC := hidden hCC
      clear hCC
      have HSL : Hid ((Try.prog.info? 38).map (·.size) = some CC.toArray.size) := by show _ = _; rw [sizeL]; simp [hln]
      have HNO : Hid ((noL.toArray).size = CC.toArray.size) := by show _ = _; rw [List.size_toArray, List.size_toArray, hln]; rfl
      go_wp2_with (first
        | (refine wpList_loadAgg rfl 38 (.tmp 1) rfl w.heap.size CC.toArray 38 (0, 0) rfl HX0.out Try.underlying38 HSL.out ?_)
        | (refine wpList_store_row rfl 38 (.tmp 2) (.tmp 20) rfl (w.heap.size + 1) CC.toArray rfl rfl 38 _ HX1.out HSL.out HNO.out hone ?_))
      have hbr : Below w.heap.size w (wr.setRow (w.heap.size + 1) CC.toArray) := below_setRow HBX.out (by omega) _
      refine bodyPost_ret (results_agg1 rfl _ _ _ (w.heap.size + 1) CC.toArray 38 (0, 0) rfl (HX1.out.row CC) Try.underlying38 HSL.out) rfl ?_
      refine ⟨_, nm2, by rw [HCC.out], fun V hV => hV.cutS 20, ⟨HCUT.out.fresh hbr, HRD.out.nl, HRD.out.ll, fun i hi => (HRD.out.nm i hi).keep (keeps_row wr (w.heap.size + 1) CC.toArray) (fun j hj e => ?_)⟩, fun i hi j hj => ?_, hbr⟩
      · have := (HFL.out.done i hi).2 j hj
        omega
      · have := (HFL.out.done i hi).2 j hj
        omega
end Go.Proofs.Ytnnhffjajbiicaa
