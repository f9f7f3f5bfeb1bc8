/- The law: a region that draws its order, walked once in a given order. -/
import Derived.Test.YthkaibkmpenclaaDoorOrd
namespace Go.Proofs.YthkaibkmpenclaaDoor
open Go

section
variable {P : Program} {ops : Array Oper} {md : Region.Mode} {N : Exit → Act → World → Prop}

/-- A post that bears no panic and nothing outgrown. -/
def Strict (N : Exit → Act → World → Prop) : Prop := (∀ c a w, ¬ N (.panic c) a w) ∧ ¬ LetsOut N
theorem strict_only (K : Act → World → Prop) : Strict (only K) := ⟨fun _ _ _ h => h, fun h => only_lets h⟩

theorem yields_of_wpOp {k : Nat} {o : Oper} (hk : ops[k]? = some o) (hp : PureOp P o) (hN : Strict N) {K : Act → World → Prop} {a : Act} {w : World} (h : wpOp P ops N k K a w) : ∃ v, Yields P ops o v a ∧ K (a.put o.dst v) w := by
  unfold wpOp at h
  simp only [hk] at h
  split at h
  · rename_i hw
    rcases h with h | ⟨_, h⟩
    · unfold Oper.wp at h
      cases hr : (execOp a.eval o).run P w with
      | ok n w1 =>
        obtain ⟨v, rfl, rfl, h3⟩ := hp _ _ _ _ hr
        rw [hr] at h
        exact ⟨v, .inl ⟨hw, h3⟩, h⟩
      | halt x w1 =>
        rw [hr] at h
        cases x <;> simp only [Oper.upon] at h
        exact absurd h (hN.1 _ _ _)
    · exact absurd h hN.2
  · rename_i hw
    exact ⟨undef, .inr ⟨by simpa using hw, rfl⟩, h⟩
theorem yieldsIf_of_wpOp {k : Nat} {o : Oper} (hk : ops[k]? = some o) (hp : QuietOp P o) (hN : Strict N) {K : Act → World → Prop} {a : Act} {w : World} (h : wpOp P ops N k K a w) : ∃ v, YieldsIf P ops (fun x => x = w) o v a ∧ K (a.put o.dst v) w := by
  unfold wpOp at h
  simp only [hk] at h
  split at h
  · rename_i hw
    rcases h with h | ⟨_, h⟩
    · unfold Oper.wp at h
      cases hr : (execOp a.eval o).run P w with
      | ok n w1 =>
        obtain ⟨v, rfl, rfl⟩ := hp _ _ _ _ hr
        have hr' := hr
        rw [hr] at h
        exact ⟨v, .inl ⟨hw, fun w' e => by rw [e]; exact hr'⟩, h⟩
      | halt x w1 =>
        rw [hr] at h
        cases x <;> simp only [Oper.upon] at h
        exact absurd h (hN.1 _ _ _)
    · exact absurd h hN.2
  · rename_i hw
    exact ⟨undef, .inr ⟨by simpa using hw, rfl⟩, h⟩
theorem same_of_quiet {j : Nat} {o : Oper} (hj : ops[j]? = some o) (hq : QuietOp P o) {K : Act → World → Prop} {a : Act} {w : World} (h : wpOp P ops N j K a w) : wpOp P ops N j (fun a' w' => w' = w ∧ K a' w') a w := by
  unfold wpOp at *
  simp only [hj] at *
  split
  · rename_i hw
    simp only [hw, if_true] at h
    refine h.imp (fun h => ?_) id
    unfold Oper.wp at *
    cases hr : (execOp a.eval o).run P w with
    | ok n w1 =>
      obtain ⟨v, rfl, rfl⟩ := hq _ _ _ _ hr
      rw [hr] at h
      exact ⟨rfl, h⟩
    | halt x w1 => rw [hr] at h; cases x <;> simp only [Oper.upon] at h ⊢ <;> exact h
  · rename_i hw
    simp only [hw] at h
    exact ⟨trivial, h⟩

theorem comm_pure {k j : Nat} {ok oj : Oper} (hk : ops[k]? = some ok) (hj : ops[j]? = some oj) (hp : PureOp P ok) (hap : ok.apart ops oj = true) (hsel : Region.noSelect ops = true) (hN : Strict N)
    {K : Act → World → Prop} {a : Act} {w : World} (h : wpOp P ops N k (wpOp P ops N j K) a w) : wpOp P ops N j (wpOp P ops N k K) a w := by
  obtain ⟨v, hy, h1⟩ := yields_of_wpOp hk hp hN h
  have h2 := wpOp_put hj hap (fun cs b => Region.noSelect_spec hsel k ok cs b hk) (fun cs b => Region.noSelect_spec hsel j oj cs b hj) (fun c a w hh => absurd hh (hN.1 _ _ _)) hy h1
  exact wpOp_mono (fun a' w' h3 => h3.1.wpOp hk h3.2) h2
theorem comm_quiet {k j : Nat} {ok oj : Oper} (hk : ops[k]? = some ok) (hj : ops[j]? = some oj) (hp : QuietOp P ok) (hq : QuietOp P oj) (hap : ok.apart ops oj = true) (hsel : Region.noSelect ops = true) (hN : Strict N)
    {K : Act → World → Prop} {a : Act} {w : World} (h : wpOp P ops N k (wpOp P ops N j K) a w) : wpOp P ops N j (wpOp P ops N k K) a w := by
  obtain ⟨v, hy, h1⟩ := yieldsIf_of_wpOp hk hp hN h
  have h2 := wpOp_putIf hj hap (fun cs b => Region.noSelect_spec hsel k ok cs b hk) (fun cs b => Region.noSelect_spec hsel j oj cs b hj) (fun c a w hh => absurd hh (hN.1 _ _ _)) hy h1
  exact wpOp_mono (fun a' w' h3 => h3.2.1.wpOp hk h3.1 h3.2.2) (same_of_quiet hj hq h2)

def commOk (ops : Array Oper) (k j : Nat) : Bool :=
  match ops[k]?, ops[j]? with
  | some ok, some oj => ok.apart ops oj && (opKind ok.op == 0 || (decide (opKind ok.op ≤ 1) && decide (opKind oj.op ≤ 1)))
  | _, _ => false
theorem comm_of {k j : Nat} (hc : commOk ops k j = true) (hsel : Region.noSelect ops = true) (hN : Strict N)
    {K : Act → World → Prop} {a : Act} {w : World} (h : wpOp P ops N k (wpOp P ops N j K) a w) : wpOp P ops N j (wpOp P ops N k K) a w := by
  unfold commOk at hc
  split at hc
  · rename_i ok oj hk hj
    simp only [Bool.and_eq_true, Bool.or_eq_true, beq_iff_eq, decide_eq_true_eq] at hc
    rcases hc.2 with h0 | ⟨h1, h2⟩
    · exact comm_pure hk hj (pureOp_kind h0) hc.1 hsel hN h
    · exact comm_quiet hk hj (quietOp_kind h1) (quietOp_kind h2) hc.1 hsel hN h
  · cases hc

/-- j, brought to the front of those that it may change places with. -/
theorem to_front (hsel : Region.noSelect ops = true) (hN : Strict N) {j : Nat} {post : List Nat} : ∀ (pre : List Nat), (∀ k ∈ pre, commOk ops k j = true) → ∀ (a : Act) (w : World),
    wpOps P ops N (pre ++ j :: post) a w → wpOp P ops N j (wpOps P ops N (pre ++ post)) a w
  | [], _, a, w, h => by rw [List.nil_append, wpOps_cons] at h; exact h
  | k :: pre, hc, a, w, h => by
    rw [List.cons_append, wpOps_cons] at h
    have h1 := wpOp_mono (fun a' w' h' => to_front hsel hN pre (fun x hx => hc x (List.mem_cons_of_mem _ hx)) a' w' h') h
    have h2 := comm_of (hc k (List.mem_cons_self)) hsel hN h1
    refine wpOp_mono (fun a' w' h' => ?_) h2
    rw [List.cons_append, wpOps_cons]
    exact h'

/-! Whom an operation waits for, by way of others too: a mask of bits. -/
def maskOf (md : Region.Mode) (l : List Nat) (n : Nat) (es : List Edge) : Nat :=
  es.foldr (fun e s => if (Region.binds md e && decide (e.on < n)) = true then (2 ^ e.on ||| l.getD e.on 0) ||| s else s) 0
theorem maskOf_bit {l : List Nat} {n k : Nat} {es : List Edge} (h : (maskOf md l n es).testBit k = true) : ∃ e ∈ es, Region.binds md e = true ∧ e.on < n ∧ (e.on = k ∨ (l.getD e.on 0).testBit k = true) := by
  induction es with
  | nil => simp [maskOf] at h
  | cons e es ih =>
    unfold maskOf at h ih
    rw [List.foldr_cons] at h
    split at h
    · rename_i hb
      simp only [Bool.and_eq_true, decide_eq_true_eq] at hb
      rw [Nat.testBit_or, Nat.testBit_or, Bool.or_eq_true, Bool.or_eq_true, Nat.testBit_two_pow] at h
      rcases h with (h | h) | h
      · exact ⟨e, List.mem_cons_self, hb.1, hb.2, .inl (by simpa using h)⟩
      · exact ⟨e, List.mem_cons_self, hb.1, hb.2, .inr h⟩
      · obtain ⟨e', he', h'⟩ := ih h
        exact ⟨e', List.mem_cons_of_mem _ he', h'⟩
    · obtain ⟨e', he', h'⟩ := ih h
      exact ⟨e', List.mem_cons_of_mem _ he', h'⟩
def afterOf (ops : Array Oper) (n : Nat) : List Edge := match ops[n]? with | some o => o.after.toList | none => []
def masks (md : Region.Mode) (ops : Array Oper) : Nat → List Nat
  | 0 => []
  | n + 1 => masks md ops n ++ [maskOf md (masks md ops n) n (afterOf ops n)]
theorem masks_length : ∀ n, (masks md ops n).length = n
  | 0 => rfl
  | n + 1 => by simp [masks, masks_length n]
theorem masks_at {n j : Nat} (h : j < n) : (masks md ops n).getD j 0 = maskOf md (masks md ops j) j (afterOf ops j) := by
  induction n with
  | zero => omega
  | succ n ih =>
    by_cases hj : j = n
    · subst hj
      simp [masks, masks_length]
    · have hlt : j < n := by omega
      rw [← ih hlt]
      simp only [masks, List.getD_eq_getElem?_getD]
      rw [List.getElem?_append_left (by rw [masks_length]; exact hlt)]

/-- Whoever waits for one that has not come up has not come up. -/
theorem waits_not {listed : Array Bool} {k n : Nat} (hdown : ∀ m o, ops[m]? = some o → listed.getD m false = true → ∀ e ∈ o.after, Region.binds md e = true → listed.getD e.on false = true)
    (hk : listed.getD k false = false) : ∀ j, j < n → ((masks md ops n).getD j 0).testBit k = true → listed.getD j false = true → False := by
  intro j
  induction j using Nat.strongRecOn with
  | ind j ih =>
    intro hj hb hl
    rw [masks_at hj] at hb
    obtain ⟨e, he, hb1, hlt, h⟩ := maskOf_bit hb
    unfold afterOf at he
    split at he
    · rename_i o ho
      have he' : e ∈ o.after := by simpa using he
      have h1 := hdown j o ho hl e he' hb1
      rcases h with rfl | h
      · rw [hk] at h1; cases h1
      · exact ih e.on hlt (by omega) (by rw [masks_at (by omega)]; rw [masks_at hlt] at h; exact h) h1
    · cases he

def edgeTo (md : Region.Mode) (ops : Array Oper) (k j : Nat) : Bool := (afterOf ops k).any fun e => Region.binds md e && e.on == j
def pairOk (md : Region.Mode) (ops : Array Oper) (ms : List Nat) (k j : Nat) : Bool := k != j && (commOk ops k j || (ms.getD j 0).testBit k) && !edgeTo md ops k j
def okPairs (md : Region.Mode) (ops : Array Oper) (ms : List Nat) : List Nat → Bool
  | [] => true
  | k :: rest => rest.all (pairOk md ops ms k) && okPairs md ops ms rest
def okOrd (md : Region.Mode) (ops : Array Oper) (ord : List Nat) : Bool :=
  Region.noSelect ops && ord.all (fun i => decide (i < ops.size)) && (List.range ops.size).all ord.contains && ord.length == ops.size &&
  (List.range ops.size).all (fun k => (afterOf ops k).all fun e => !Region.binds md e || (decide (e.on < ops.size) && e.on != k)) &&
  okPairs md ops (masks md ops ops.size) ord
theorem okPairs_spec {ms : List Nat} : ∀ {ord : List Nat}, okPairs md ops ms ord = true → ord.Pairwise fun k j => pairOk md ops ms k j = true
  | [], _ => List.Pairwise.nil
  | k :: rest, h => by
    simp only [okPairs, Bool.and_eq_true, List.all_eq_true] at h
    exact List.Pairwise.cons h.1 (okPairs_spec h.2)

theorem getD_size {listed : Array Bool} {i n : Nat} (hs : listed.size = n) (hi : i < n) : listed.getD i true = listed.getD i false := by
  have : i < listed.size := by omega
  simp [this]

theorem wpAny_ord (hsel : Region.noSelect ops = true) (hN : Strict N)
    (hself : ∀ k o, ops[k]? = some o → ∀ e ∈ o.after, Region.binds md e = true → e.on < ops.size ∧ e.on ≠ k) :
    ∀ (fuel : Nat) (listed : Array Bool) (rem : List Nat) (a : Act) (w : World), rem.length = fuel → listed.size = ops.size → (∀ i ∈ rem, i < ops.size) →
      (∀ i, i < ops.size → (listed.getD i false = false ↔ i ∈ rem)) → rem.Pairwise (fun k j => pairOk md ops (masks md ops ops.size) k j = true) →
      (∀ m o, ops[m]? = some o → listed.getD m false = true → ∀ e ∈ o.after, Region.binds md e = true → listed.getD e.on false = true) →
      wpOps P ops N rem a w → wpAny P md ops N fuel listed a w := by
  intro fuel
  induction fuel with
  | zero =>
    intro listed rem a w hl hsz hlt hiff hpw hdown h
    obtain rfl : rem = [] := List.eq_nil_of_length_eq_zero hl
    refine ⟨List.eq_nil_iff_forall_not_mem.2 fun j hj => ?_, h⟩
    obtain ⟨h0, o, ho, _⟩ := mem_ready.1 hj
    have hjlt := (Array.getElem?_eq_some_iff.1 ho).1
    rw [getD_size hsz hjlt] at h0
    cases (hiff j hjlt).1 h0
  | succ fuel ih =>
    intro listed rem a w hl hsz hlt hiff hpw hdown h
    refine ⟨fun h0 => ?_, fun j hj => ?_⟩
    · cases rem with
      | nil => simp at hl
      | cons i rest =>
        exfalso
        have hi := hlt i List.mem_cons_self
        have hin : i ∈ Region.ready md ops listed := by
          refine mem_ready.2 ⟨by rw [getD_size hsz hi]; exact (hiff i hi).2 List.mem_cons_self, ops[i], Array.getElem?_eq_getElem hi, fun e he hb => ?_⟩
          obtain ⟨h1, h2⟩ := hself i _ (Array.getElem?_eq_getElem hi) e he hb
          cases hx : listed.getD e.on false with
          | true => rfl
          | false =>
            rcases List.mem_cons.1 ((hiff e.on h1).1 hx) with h3 | h3
            · exact absurd h3 h2
            · have h4 := (List.pairwise_cons.1 hpw).1 e.on h3
              simp only [pairOk, Bool.and_eq_true, Bool.not_eq_true'] at h4
              have h5 : edgeTo md ops i e.on = true := by
                unfold edgeTo afterOf
                rw [Array.getElem?_eq_getElem hi]
                exact List.any_eq_true.2 ⟨e, by simpa using he, by simp [hb]⟩
              rw [h4.2] at h5
              cases h5
        rw [h0] at hin
        cases hin
    · obtain ⟨h0, o, ho, hall⟩ := mem_ready.1 hj
      have hjlt := (Array.getElem?_eq_some_iff.1 ho).1
      rw [getD_size hsz hjlt] at h0
      obtain ⟨pre, post, rfl⟩ := List.append_of_mem ((hiff j hjlt).1 h0)
      obtain ⟨hp1, hp2, hp3⟩ := List.pairwise_append.1 hpw
      have hne : ∀ k ∈ pre ++ post, k ≠ j := by
        intro k hk
        rcases List.mem_append.1 hk with hk | hk
        · have := hp3 k hk j List.mem_cons_self
          simp only [pairOk, Bool.and_eq_true, bne_iff_ne] at this
          exact this.1.1
        · have := (List.pairwise_cons.1 hp2).1 k hk
          simp only [pairOk, Bool.and_eq_true, bne_iff_ne] at this
          exact fun e => this.1.1 e.symm
      have hcomm : ∀ k ∈ pre, commOk ops k j = true := by
        intro k hk
        have h1 := hp3 k hk j List.mem_cons_self
        simp only [pairOk, Bool.and_eq_true, Bool.or_eq_true] at h1
        rcases h1.1.2 with h2 | h2
        · exact h2
        · exfalso
          have hklt := hlt k (List.mem_append_left _ hk)
          have hku := (hiff k hklt).2 (List.mem_append_left _ hk)
          rw [masks_at hjlt] at h2
          obtain ⟨e, he, hb1, he2, h3⟩ := maskOf_bit h2
          unfold afterOf at he
          rw [ho] at he
          have he' : e ∈ o.after := by simpa using he
          have h4 := hall e he' hb1
          rcases h3 with rfl | h3
          · rw [hku] at h4; cases h4
          · exact waits_not (n := j) hdown hku e.on he2 h3 h4
      refine wpOp_mono (fun a' w' h' => ih (listed.setIfInBounds j true) (pre ++ post) a' w' (by simp at hl ⊢; omega) (by simpa using hsz) (fun i hi => hlt i ?_) (fun i hi => ?_) ?_ ?_ h') (to_front hsel hN pre hcomm a w h)
      · rcases List.mem_append.1 hi with hi | hi
        · exact List.mem_append_left _ hi
        · exact List.mem_append_right _ (List.mem_cons_of_mem _ hi)
      · by_cases hij : i = j
        · subst hij
          constructor
          · intro h1
            have : i < listed.size := by omega
            simp [this] at h1
          · intro h1
            exact absurd rfl (hne i h1)
        · rw [getD_set_ne false (fun e => hij e.symm), hiff i hi]
          simp [hij]
      · exact hpw.sublist (List.Sublist.append_left (List.sublist_cons_self _ _) _)
      · intro m om hm hml e he hb
        by_cases hmj : m = j
        · subst hmj
          rw [ho] at hm
          cases hm
          exact getD_set_true (hall e he hb)
        · rw [getD_set_ne false (fun e => hmj e.symm)] at hml
          exact getD_set_true (hdown m om hm hml e he hb)

theorem wpOps_filterMap : ∀ (ord : List Nat), (∀ i ∈ ord, i < ops.size) → wpOps P ops N ord = wpList P ops N (ord.filterMap (ops[·]?))
  | [], _ => by funext a w; simp [wpOps, wpList]
  | i :: rest, h => by
    have hi := h i List.mem_cons_self
    funext a w
    rw [List.filterMap_cons, Array.getElem?_eq_getElem hi]
    simp only [wpOps, wpList, Array.getElem?_eq_getElem hi, wpOps_filterMap rest (fun x hx => h x (List.mem_cons_of_mem _ hx))]

/-- A region that draws its order, walked once in the order 'ord'. -/
theorem region_ord {id : Nat} {Q : Exit → Act → World → Prop} {a : Act} {w : World} (ord : List Nat) (hc : okOrd .any ops ord = true) (hm : P.follows .mixedOrders = true)
    (h : ∀ N : Exit → Act → World → Prop, (∀ a w, Q .normal a w → N .normal a w) → wpList P ops N (ord.filterMap (ops[·]?)) a w.drew) : (Code.region id ops true).wp P Q a w := by
  simp only [okOrd, Bool.and_eq_true, List.all_eq_true, decide_eq_true_eq, beq_iff_eq, List.mem_range, List.contains_eq_mem] at hc
  obtain ⟨⟨⟨⟨⟨h1, h2⟩, h3⟩, h4⟩, h5⟩, h6⟩ := hc
  refine Code.wp_mono (Q := only (Q .normal)) (fun e a w hq => by cases e <;> first | exact hq | exact (hq : False).elim) (wp_region_any hm ?_)
  refine wpAny_ord h1 (strict_only _) (fun k o ho e he hb => ?_) ops.size _ ord a _ h4 (by simp) h2 (fun i hi => ?_) (okPairs_spec h6) (fun m o ho hl => ?_) ?_
  · have hk := (Array.getElem?_eq_some_iff.1 ho).1
    have := h5 k hk e (by unfold afterOf; rw [ho]; simpa using he)
    simp [hb] at this
    exact this
  · simp [hi]
    exact h3 i hi
  · have hk := (Array.getElem?_eq_some_iff.1 ho).1
    simp [hk] at hl
  · rw [wpOps_filterMap ord h2]
    exact h (only (Q .normal)) (fun _ _ h => h)
end
end Go.Proofs.YthkaibkmpenclaaDoor
