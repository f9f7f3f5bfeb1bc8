/- The law 'region_ord', with conversions that only read, and slicing, among what may change places. -/
import Derived.Test.YtdgapijgdbhlfaaDoorOrdB
namespace Go.Proofs.YtdgapijgdbhlfaaDoor
open Go

section
variable {P : Program} {ops : Array Oper} {md : Region.Mode} {N : Exit → Act → World → Prop} {C : List (TypeId × TypeId)}

theorem pureS_asAddr (v : Value) : PureS P (asAddr v) := by
  unfold asAddr
  split
  · exact pureS_pure _
  · exact pureS_nilDeref
  · exact pureS_halt _
theorem pureS_sliceBound (x : Value) (y : Nat) (c : BoundsCode) : PureS P (Instr.sliceBound x y c) := by
  unfold Instr.sliceBound
  refine pureS_bind (pureS_asIntOf x) fun ki => ?_
  obtain ⟨k, i⟩ := ki
  simp only []
  split
  · exact pureS_pure _
  · exact pureS_bounds _ _ _ _
theorem pureS_sliceBounds (b : Bool) (len cap : Nat) (low high max : Option Value) : PureS P (Instr.sliceBounds b len cap low high max) := by
  unfold Instr.sliceBounds
  cases max <;> cases high <;> cases low <;> simp only [] <;> (repeat' first | exact pureS_pure _ | exact pureS_halt _ | exact pureS_sliceBound _ _ _ | refine pureS_bind ?_ fun _ => ?_)
theorem pureS_slice (t : TypeId) (x : Value) (low high max : Option Value) : PureS P (Instr.slice t x low high max) := by
  unfold Instr.slice
  refine pureS_bind (pureS_underlying t) fun d => ?_
  split
  · split
    · exact pureS_bind (pureS_halt _) fun _ => pureS_bind (pureS_sliceBounds _ _ _ _ _ _) fun r => by split; exact pureS_pure _
    · exact pureS_bind (pureS_sliceBounds _ _ _ _ _ _) fun r => pureS_pure _
  · exact pureS_bind (pureS_sliceBounds _ _ _ _ _ _) fun r => by split; exact pureS_bind (pureS_sizeOf _) fun _ => pureS_pure _
  · refine pureS_bind (pureS_asAddr _) fun a => pureS_bind (pureS_underlying _) fun d2 => ?_
    split
    · exact pureS_bind (pureS_sliceBounds _ _ _ _ _ _) fun r => by split; exact pureS_bind (pureS_sizeOf _) fun _ => pureS_pure _
    · exact pureS_halt _
  · exact pureS_halt _
theorem pureS_sliceAt (t : TypeId) (x : Value) (low high max : Option Value) : PureS P (Instr.sliceAt t x low high max) := by
  unfold Instr.sliceAt
  refine pureS_bind (pureS_underlying t) fun d => ?_
  split
  · exact pureS_bind (pureS_sureAddr _) fun a => pureS_bind (pureS_sliceBounds _ _ _ _ _ _) fun r => by split; exact pureS_bind (pureS_sizeOf _) fun _ => pureS_pure _
  · exact pureS_slice _ _ _ _ _
theorem quietS_forIn {α β : Type} (f : α → β → Sem (ForInStep β)) (hf : ∀ x b, QuietS P (f x b)) : ∀ (l : List α) (b : β), QuietS P (forIn l b f)
  | [], b => by rw [List.forIn_nil]; exact (pureS_pure _).quiet
  | x :: l, b => by
    rw [List.forIn_cons]
    refine quietS_bind (hf x b) fun r => ?_
    split
    · exact (pureS_pure _).quiet
    · exact quietS_forIn f hf l _
theorem quietS_loadCells (a : Addr) (n : Nat) : QuietS P (loadCells a n) := by
  unfold loadCells
  first | exact quietS_loadCellsFrom a n 0 #[] | exact quietS_loadCellsFrom a _ _ _
theorem quietS_bytesToString (v : Value) : QuietS P (Conv.bytesToString v) := by
  unfold Conv.bytesToString
  split
  · exact (pureS_pure _).quiet
  · refine quietS_bind (quietS_loadCells _ _) fun cs => ?_
    rw [← Array.forIn_toList]
    refine quietS_bind (quietS_forIn _ (fun x b => ?_) _ _) fun r => (pureS_pure _).quiet
    split
    · exact (pureS_pure _).quiet
    · exact (pureS_halt _).quiet
  · exact (pureS_halt _).quiet
/-- A byte slice as a string: memory is only read. -/
theorem quietS_bytes {s d e : TypeId} (hs : P.underlying s = some (.slice e)) (he : P.underlying e = some (.int .u8)) (hd : P.underlying d = some .string) (v : Value) : QuietS P (convert s d v) := by
  intro w a w1 h
  cases v
  case string x => simp [convert, run_underlying hs, run_underlying hd] at h; exact h.2.symm
  case int k n => simp [convert, run_underlying hs, run_underlying hd, Conv.intToString] at h; exact h.2.symm
  all_goals
    simp [convert, run_underlying hs, run_underlying hd, run_underlying he] at h
    exact quietS_bytesToString _ w a w1 h
/-- 0: looks at no memory; 1: only reads; 2: all else. -/
def opKindC (C : List (TypeId × TypeId)) : Op → Nat
  | .convert s d _ => if C.contains (s, d) = true then 1 else 2
  | .slice _ _ _ _ _ => 0
  | o => opKind o
theorem pureOp_kindC {o : Oper} (h : opKindC C o.op = 0) : PureOp P o := by
  obtain ⟨dst, op, type, pos, after, guard⟩ := o
  by_cases hk : opKind op = 0
  · exact pureOp_kind hk
  · cases op <;> simp [opKindC, opKind] at h hk
    case slice t x l hi m => exact pureOp_of (fun ρ => Instr.sliceAt t (ρ x) (l.map ρ) (hi.map ρ) (m.map ρ)) (fun ρ => pureS_sliceAt _ _ _ _ _) fun ρ => rfl
    case convert s d x => split at h <;> simp at h
theorem quietOp_kindC (hC : ∀ s d, C.contains (s, d) = true → ∀ v, QuietS P (convert s d v)) {o : Oper} (h : opKindC C o.op ≤ 1) : QuietOp P o := by
  by_cases h0 : opKindC C o.op = 0
  · exact (pureOp_kindC h0).quiet
  · by_cases hk : opKind o.op ≤ 1
    · exact quietOp_kind hk
    · obtain ⟨dst, op, type, pos, after, guard⟩ := o
      cases op <;> simp [opKindC, opKind] at h hk h0
      case convert s d x =>
        have hc : C.contains (s, d) = true := by
          by_cases hc : C.contains (s, d) = true
          · exact hc
          · simp at hc; simp [hc] at h
        exact quietOp_of (fun ρ => convert s d (ρ x)) (fun ρ => hC s d hc _) fun ρ => rfl

def commOkC (C : List (TypeId × TypeId)) (ops : Array Oper) (k j : Nat) : Bool :=
  match ops[k]?, ops[j]? with
  | some ok, some oj => ok.apart ops oj && (opKindC C ok.op == 0 || (decide (opKindC C ok.op ≤ 1) && decide (opKindC C oj.op ≤ 1)))
  | _, _ => false
theorem comm_ofC {k j : Nat} (hC : ∀ s d, C.contains (s, d) = true → ∀ v, QuietS P (convert s d v)) (hc : commOkC C ops k j = true) (hsel : Region.noSelect ops = true) (hN : Strict N)
    {K : Act → World → Prop} {a : Act} {w : World} (h : wpOp P ops N k (wpOp P ops N j K) a w) : wpOp P ops N j (wpOp P ops N k K) a w := by
  unfold commOkC at hc
  split at hc
  · rename_i ok oj hk hj
    simp only [Bool.and_eq_true, Bool.or_eq_true, beq_iff_eq, decide_eq_true_eq] at hc
    rcases hc.2 with h0 | ⟨h1, h2⟩
    · exact comm_pure hk hj (pureOp_kindC h0) hc.1 hsel hN h
    · exact comm_quiet hk hj (quietOp_kindC hC h1) (quietOp_kindC hC h2) hc.1 hsel hN h
  · cases hc

/-- j, brought to the front of those that it may change places with. -/
theorem to_frontC (hC : ∀ s d, C.contains (s, d) = true → ∀ v, QuietS P (convert s d v)) (hsel : Region.noSelect ops = true) (hN : Strict N) {j : Nat} {post : List Nat} : ∀ (pre : List Nat), (∀ k ∈ pre, commOkC C ops k j = true) → ∀ (a : Act) (w : World),
    wpOps P ops N (pre ++ j :: post) a w → wpOp P ops N j (wpOps P ops N (pre ++ post)) a w
  | [], _, a, w, h => by rw [List.nil_append, wpOps_cons] at h; exact h
  | k :: pre, hc, a, w, h => by
    rw [List.cons_append, wpOps_cons] at h
    have h1 := wpOp_mono (fun a' w' h' => to_frontC hC hsel hN pre (fun x hx => hc x (List.mem_cons_of_mem _ hx)) a' w' h') h
    have h2 := comm_ofC hC (hc k (List.mem_cons_self)) hsel hN h1
    refine wpOp_mono (fun a' w' h' => ?_) h2
    rw [List.cons_append, wpOps_cons]
    exact h'

def pairOkC (C : List (TypeId × TypeId)) (md : Region.Mode) (ops : Array Oper) (ms : List Nat) (k j : Nat) : Bool := k != j && (commOkC C ops k j || (ms.getD j 0).testBit k) && !edgeTo md ops k j
def okPairsC (C : List (TypeId × TypeId)) (md : Region.Mode) (ops : Array Oper) (ms : List Nat) : List Nat → Bool
  | [] => true
  | k :: rest => rest.all (pairOkC C md ops ms k) && okPairsC C md ops ms rest
def okOrdC (C : List (TypeId × TypeId)) (md : Region.Mode) (ops : Array Oper) (ord : List Nat) : Bool :=
  Region.noSelect ops && ord.all (fun i => decide (i < ops.size)) && (List.range ops.size).all ord.contains && ord.length == ops.size &&
  (List.range ops.size).all (fun k => (afterOf ops k).all fun e => !Region.binds md e || (decide (e.on < ops.size) && e.on != k)) &&
  okPairsC C md ops (masks md ops ops.size) ord
theorem okPairs_specC {ms : List Nat} : ∀ {ord : List Nat}, okPairsC C md ops ms ord = true → ord.Pairwise fun k j => pairOkC C md ops ms k j = true
  | [], _ => List.Pairwise.nil
  | k :: rest, h => by
    simp only [okPairsC, Bool.and_eq_true, List.all_eq_true] at h
    exact List.Pairwise.cons h.1 (okPairs_specC h.2)

theorem wpAny_ordC (hC : ∀ s d, C.contains (s, d) = true → ∀ v, QuietS P (convert s d v)) (hsel : Region.noSelect ops = true) (hN : Strict N)
    (hself : ∀ k o, ops[k]? = some o → ∀ e ∈ o.after, Region.binds md e = true → e.on < ops.size ∧ e.on ≠ k) :
    ∀ (fuel : Nat) (listed : Array Bool) (rem : List Nat) (a : Act) (w : World), rem.length = fuel → listed.size = ops.size → (∀ i ∈ rem, i < ops.size) →
      (∀ i, i < ops.size → (listed.getD i false = false ↔ i ∈ rem)) → rem.Pairwise (fun k j => pairOkC C md ops (masks md ops ops.size) k j = true) →
      (∀ m o, ops[m]? = some o → listed.getD m false = true → ∀ e ∈ o.after, Region.binds md e = true → listed.getD e.on false = true) →
      wpOps P ops N rem a w → wpAny P md ops N fuel listed a w := by
  intro fuel
  induction fuel with
  | zero =>
    intro listed rem a w hl hsz hlt hiff hpw hdown h
    obtain rfl : rem = [] := List.eq_nil_of_length_eq_zero hl
    refine ⟨List.eq_nil_iff_forall_not_mem.2 fun j hj => ?_, h⟩
    obtain ⟨h0, o, ho, _⟩ := mem_ready.1 hj
    have hjlt := (Array.getElem?_eq_some_iff.1 ho).1
    rw [getD_size hsz hjlt] at h0
    cases (hiff j hjlt).1 h0
  | succ fuel ih =>
    intro listed rem a w hl hsz hlt hiff hpw hdown h
    refine ⟨fun h0 => ?_, fun j hj => ?_⟩
    · cases rem with
      | nil => simp at hl
      | cons i rest =>
        exfalso
        have hi := hlt i List.mem_cons_self
        have hin : i ∈ Region.ready md ops listed := by
          refine mem_ready.2 ⟨by rw [getD_size hsz hi]; exact (hiff i hi).2 List.mem_cons_self, ops[i], Array.getElem?_eq_getElem hi, fun e he hb => ?_⟩
          obtain ⟨h1, h2⟩ := hself i _ (Array.getElem?_eq_getElem hi) e he hb
          cases hx : listed.getD e.on false with
          | true => rfl
          | false =>
            rcases List.mem_cons.1 ((hiff e.on h1).1 hx) with h3 | h3
            · exact absurd h3 h2
            · have h4 := (List.pairwise_cons.1 hpw).1 e.on h3
              simp only [pairOkC, Bool.and_eq_true, Bool.not_eq_true'] at h4
              have h5 : edgeTo md ops i e.on = true := by
                unfold edgeTo afterOf
                rw [Array.getElem?_eq_getElem hi]
                exact List.any_eq_true.2 ⟨e, by simpa using he, by simp [hb]⟩
              rw [h4.2] at h5
              cases h5
        rw [h0] at hin
        cases hin
    · obtain ⟨h0, o, ho, hall⟩ := mem_ready.1 hj
      have hjlt := (Array.getElem?_eq_some_iff.1 ho).1
      rw [getD_size hsz hjlt] at h0
      obtain ⟨pre, post, rfl⟩ := List.append_of_mem ((hiff j hjlt).1 h0)
      obtain ⟨hp1, hp2, hp3⟩ := List.pairwise_append.1 hpw
      have hne : ∀ k ∈ pre ++ post, k ≠ j := by
        intro k hk
        rcases List.mem_append.1 hk with hk | hk
        · have := hp3 k hk j List.mem_cons_self
          simp only [pairOkC, Bool.and_eq_true, bne_iff_ne] at this
          exact this.1.1
        · have := (List.pairwise_cons.1 hp2).1 k hk
          simp only [pairOkC, Bool.and_eq_true, bne_iff_ne] at this
          exact fun e => this.1.1 e.symm
      have hcomm : ∀ k ∈ pre, commOkC C ops k j = true := by
        intro k hk
        have h1 := hp3 k hk j List.mem_cons_self
        simp only [pairOkC, Bool.and_eq_true, Bool.or_eq_true] at h1
        rcases h1.1.2 with h2 | h2
        · exact h2
        · exfalso
          have hklt := hlt k (List.mem_append_left _ hk)
          have hku := (hiff k hklt).2 (List.mem_append_left _ hk)
          rw [masks_at hjlt] at h2
          obtain ⟨e, he, hb1, he2, h3⟩ := maskOf_bit h2
          unfold afterOf at he
          rw [ho] at he
          have he' : e ∈ o.after := by simpa using he
          have h4 := hall e he' hb1
          rcases h3 with rfl | h3
          · rw [hku] at h4; cases h4
          · exact waits_not (n := j) hdown hku e.on he2 h3 h4
      refine wpOp_mono (fun a' w' h' => ih (listed.setIfInBounds j true) (pre ++ post) a' w' (by simp at hl ⊢; omega) (by simpa using hsz) (fun i hi => hlt i ?_) (fun i hi => ?_) ?_ ?_ h') (to_frontC hC hsel hN pre hcomm a w h)
      · rcases List.mem_append.1 hi with hi | hi
        · exact List.mem_append_left _ hi
        · exact List.mem_append_right _ (List.mem_cons_of_mem _ hi)
      · by_cases hij : i = j
        · subst hij
          constructor
          · intro h1
            have : i < listed.size := by omega
            simp [this] at h1
          · intro h1
            exact absurd rfl (hne i h1)
        · rw [getD_set_ne false (fun e => hij e.symm), hiff i hi]
          simp [hij]
      · exact hpw.sublist (List.Sublist.append_left (List.sublist_cons_self _ _) _)
      · intro m om hm hml e he hb
        by_cases hmj : m = j
        · subst hmj
          rw [ho] at hm
          cases hm
          exact getD_set_true (hall e he hb)
        · rw [getD_set_ne false (fun e => hmj e.symm)] at hml
          exact getD_set_true (hdown m om hm hml e he hb)

/-- A region that draws its order, walked once in the order 'ord'. -/
theorem region_ordC {id : Nat} {Q : Exit → Act → World → Prop} {a : Act} {w : World} (C : List (TypeId × TypeId)) (hC : ∀ s d, C.contains (s, d) = true → ∀ v, QuietS P (convert s d v)) (ord : List Nat) (hc : okOrdC C .any ops ord = true) (hm : P.follows .mixedOrders = true)
    (h : ∀ N : Exit → Act → World → Prop, (∀ a w, Q .normal a w → N .normal a w) → wpList P ops N (ord.filterMap (ops[·]?)) a w.drew) : (Code.region id ops true).wp P Q a w := by
  simp only [okOrdC, Bool.and_eq_true, List.all_eq_true, decide_eq_true_eq, beq_iff_eq, List.mem_range, List.contains_eq_mem] at hc
  obtain ⟨⟨⟨⟨⟨h1, h2⟩, h3⟩, h4⟩, h5⟩, h6⟩ := hc
  refine Code.wp_mono (Q := only (Q .normal)) (fun e a w hq => by cases e <;> first | exact hq | exact (hq : False).elim) (wp_region_any hm ?_)
  refine wpAny_ordC hC h1 (strict_only _) (fun k o ho e he hb => ?_) ops.size _ ord a _ h4 (by simp) h2 (fun i hi => ?_) (okPairs_specC h6) (fun m o ho hl => ?_) ?_
  · have hk := (Array.getElem?_eq_some_iff.1 ho).1
    have := h5 k hk e (by unfold afterOf; rw [ho]; simpa using he)
    simp [hb] at this
    exact this
  · simp [hi]
    exact h3 i hi
  · have hk := (Array.getElem?_eq_some_iff.1 ho).1
    simp [hk] at hl
  · rw [wpOps_filterMap ord h2]
    exact h (only (Q .normal)) (fun _ _ h => h)
end
end Go.Proofs.YtdgapijgdbhlfaaDoor
