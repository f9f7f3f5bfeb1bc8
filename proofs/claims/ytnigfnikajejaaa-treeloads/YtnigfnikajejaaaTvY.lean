/- Load, in memory: the state of a load; a thing's bytes. -/
import Derived.Test.YtnigfnikajejaaaTvX
import Derived.Maps.AppendAt
import Derived.Test.YtnigfnikajejaaaKpW
import Derived.Test.YtnigfnikajejaaaWrE
import Derived.OrdersHeld
import Derived.Tactics
import Derived.OpenShut
import Derived.Laws.Pointers
import Derived.Laws.Small
import Derived.Deep.CutRange
namespace Go.Proofs.Ytnigfnikajejaaa
open Go Go.RowKit

/-- A load under way: the tree so far, the reader. -/
structure LS (w : World) (R : Nat → Role) (a ar : Nat) (g : Option Nat) (bs : List UInt8) (nx : Nat) (L : List Th) (B : Nat → Nat) (dv hv : Nat → Value) (tv : Value) (s : Ld) : Prop where
  tx : TXb w R a ⟨L, nx⟩ B dv hv tv
  rd : WR w ar g bs s.p s.y
  ra : R ar = .no
  rg : bs ≠ [] → ∀ k, g = some k → R k = .no
  inc : Inc L
  ids : ∀ i, i ∈ s.ids ↔ ∃ z ∈ L, z.id = i
  nod : s.ids.Nodup
  len : L.length = s.ids.length
  cnt : L.length ≤ 200
  sz : sizeT L = s.z
  bytes : s.z ≤ 1048576
  kids : ∀ y ∈ L, ∀ e ∈ y.h, ∃ z ∈ L, z.id = e.2
section
variable {w w' : World} {R R' : Nat → Role} {a ar : Nat} {g : Option Nat} {bs : List UInt8} {nx : Nat} {L : List Th} {B : Nat → Nat} {dv hv : Nat → Value} {tv : Value} {s : Ld}
theorem LS.took {p : Nat} {y : Int} (h : LS w R a ar g bs nx L B dv hv tv s) (ht : Took ar g bs p y w w') : LS w' R a ar g bs nx L B dv hv tv ⟨p, y, s.ids, s.z⟩ :=
  ⟨h.tx.keep ht.keeps fun k hk e => hk (by rw [e]; exact h.ra), ht.state, h.ra, h.rg, h.inc, h.ids, h.nod, h.len, h.cnt, h.sz, h.bytes, h.kids⟩
theorem LS.still (h : LS w R a ar g bs nx L B dv hv tv s) (hk : Keeps (fun _ => False) w w') : LS w' R a ar g bs nx L B dv hv tv s :=
  ⟨h.tx.still hk, h.rd.same hk, h.ra, h.rg, h.inc, h.ids, h.nod, h.len, h.cnt, h.sz, h.bytes, h.kids⟩
theorem LS.fresh (h : LS w R a ar g bs nx L B dv hv tv s) (hb : Below w.heap.size w w') : LS w' R a ar g bs nx L B dv hv tv s := h.still (Keeps.ofFresh hb)
/-- The reader stays where the tree turns. -/
theorem LS.reader {T : Nat → Prop} (h : LS w R a ar g bs nx L B dv hv tv s) (hk : Keeps T w w') (hT : ∀ k, k < w.heap.size → T k → R k ≠ .no) (hR : ∀ k, k < w.heap.size → R' k = R k) :
    WR w' ar g bs s.p s.y ∧ R' ar = .no ∧ (bs ≠ [] → ∀ k, g = some k → R' k = .no) := by
  have hlt := h.rd.lt
  have hg : bs ≠ [] → ∀ k, g = some k → k < w.heap.size := fun hb k e => by
    rcases Nat.lt_or_ge k w.heap.size with h1 | h1
    · exact h1
    · exact absurd rfl (h.rd.apartB h1 hb k e)
  exact ⟨h.rd.keepE hk (fun e => hT _ hlt e h.ra) (fun hb k e e2 => hT k (hg hb k e) e2 (h.rg hb k e)), by rw [hR _ hlt]; exact h.ra, fun hb k e => by rw [hR k (hg hb k e)]; exact h.rg hb k e⟩
theorem setT_same {l : List Th} (hi : Inc l) {x : Th} (hx : x ∈ l) {f : Th → Th} (hf : f x = x) : setT l x.id f = l := by
  unfold setT
  conv => rhs; rw [← List.map_id l]
  apply List.map_congr_left
  intro y hy
  split
  · next e =>
    have : y = x := hi.uniq hy hx e
    rw [this, hf]; rfl
  · rfl
def setD (d : List UInt8) (x : Th) : Th := { x with d := d }
def setH (h : HL) (x : Th) : Th := { x with h := h }
theorem ids_setT {l : List Th} {i : Nat} {f : Th → Th} (hf : ∀ x, (f x).id = x.id) (j : Nat) : (∃ z ∈ setT l i f, z.id = j) ↔ ∃ z ∈ l, z.id = j := by
  constructor
  · rintro ⟨z, hz, rfl⟩
    obtain ⟨u, hu, rfl⟩ := mem_setT.1 hz
    exact ⟨u, hu, by split; exact (hf u).symm; rfl⟩
  · rintro ⟨z, hz, rfl⟩
    exact ⟨_, mem_setT.2 ⟨z, hz, rfl⟩, by split; exact hf z; rfl⟩
/-- What loadData leaves. -/
def DPost (a ar : Nat) (g : Option Nat) (bs : List UInt8) (nx : Nat) (R : Nat → Role) (L : List Th) (B : Nat → Nat) (tv : Value) (i : Nat) (r : Option (Hd × Ld)) (w : World) (e : Ending) (w' : World) : Prop := match r with
  | none => e = .returned (.bool false) ∧ MvR ar R R w w'
  | some (y, s') => e = .returned (.bool true) ∧ ∃ R' dv' hv', LS w' R' a ar g bs nx (setT L i (setD y.d)) B dv' hv' tv s' ∧ MvR ar R R' w w'
set_option maxHeartbeats 4000000 in
set_option maxRecDepth 100000 in
theorem loadData_c (h : LS w R a ar g bs nx L B dv hv tv s) {x : Th} (hx : x ∈ L) (hd : x.d = []) :
    Calls Try.prog 69 #[.pointer (some ⟨a, 0, none⟩), .pointer (some ⟨B x.id, 0, none⟩), .pointer (some ⟨ar, 0, none⟩)] w (DPost a ar g bs nx R L B tv x.id (dataO bs ⟨x.id, x.dir, x.a, []⟩ s) w) := by
  have HL := hidden h
  have HX := hidden hx
  have hT := h.tx.th x hx
  have c1 := hT.c1
  have c3 := hT.ca.2.1
  have hzs := h.sz
  have hzb := h.bytes
  have HR : Hid (dataO bs ⟨x.id, x.dir, x.a, []⟩ s = if x.dir then (if x.a.s = 0 then some (⟨x.id, x.dir, x.a, []⟩, s) else none)
    else if 1048576 < x.a.s ∨ 1048576 < s.z + x.a.s then none
    else some (⟨x.id, x.dir, x.a, (tk bs s.p s.y x.a.s).1⟩, ⟨(tk bs s.p s.y x.a.s).2.1, (tk bs s.p s.y x.a.s).2.2, s.ids, s.z + (tk bs s.p s.y x.a.s).1.length⟩)) := rfl
  generalize dataO bs ⟨x.id, x.dir, x.a, []⟩ s = rr at HR ⊢
  cases hdx : x.dir with
  | true =>
    have hr := HR.out
    rw [hdx] at c1 hr
    simp only [if_true] at hr
    by_cases h0 : x.a.s = 0
    · rw [if_pos h0] at hr
      have h0i : ((x.a.s : Int) == 0) = true := by simp [h0]
      subst hr
      have HF : Hid (∃ R' dv' hv', LS w R' a ar g bs nx (setT L x.id (setD [])) B dv' hv' tv s ∧ MvR ar R R' w w) := ⟨R, dv, hv, by rw [setT_same HL.out.inc HX.out (f := setD []) (by unfold setD; rw [← hd])]; exact HL.out, MvR.refl _ _ _⟩
      clear h hT HR h0 hd
      go_enter Try.func69, Try.ntmps69
      go_wp2_with fail
      go_ret
      exact ⟨rfl, HF.out⟩
    · rw [if_neg h0] at hr
      have h0i : ((x.a.s : Int) == 0) = false := by rw [beq_eq_false_iff_ne]; omega
      subst hr
      clear h hT HR h0 hd
      go_enter Try.func69, Try.ntmps69
      go_wp2_with fail
      go_ret
      exact ⟨rfl, MvR.refl _ _ _⟩
  | false =>
    have hr := HR.out
    rw [hdx] at c1 hr
    simp only [Bool.false_eq_true, if_false] at hr
    have HM := hidden (mayHave_c HL.out.tx HX.out (by rw [show sizeT (⟨L, nx⟩ : Tr).ths = s.z from hzs]; exact hzb) (by rw [hd]; exact Nat.zero_le _) x.a.s)
    by_cases hrm : 1048576 < x.a.s ∨ 1048576 < s.z + x.a.s
    · rw [if_pos hrm] at hr
      subst hr
      have hne : hasRoom ⟨L, nx⟩ x x.a.s ≠ 0 := by
        unfold hasRoom
        rw [show sizeT (⟨L, nx⟩ : Tr).ths = s.z from hzs, hd]
        split
        · omega
        · rw [if_pos (by simp; omega)]; omega
      have hre : (((hasRoom ⟨L, nx⟩ x x.a.s : Nat) : Int) != 0) = true := by simp; exact hne
      generalize hasRoom ⟨L, nx⟩ x x.a.s = rm at hre HM
      clear h hT HR hd hrm hne
      go_enter Try.func69, Try.ntmps69
      go_wp2_with fail
      refine HM.out.mono ?_
      rintro e w1 ⟨rfl, hk1⟩
      go_wp2_with fail
      go_ret
      exact ⟨rfl, MvR.still hk1⟩
    · rw [if_neg hrm] at hr
      have hze : hasRoom ⟨L, nx⟩ x x.a.s = 0 := by
        unfold hasRoom
        rw [show sizeT (⟨L, nx⟩ : Tr).ths = s.z from hzs, hd, if_neg (by omega), if_neg (by simp; omega)]
      rw [hze] at HM
      have hsb : x.a.s ≤ 1048576 := by omega
      have hss : s.z + x.a.s ≤ 1048576 := by omega
      have hcv : IntKind.i64.wrap (x.a.s : Int) = (x.a.s : Int) := by rw [IntKind.wrap_i64]; omega
      obtain ⟨sz, hsz⟩ : ∃ sz, sz = x.a.s := ⟨_, rfl⟩
      rw [← hsz] at hr hcv hsb HM c3 hss
      have HSS := hidden hss
      clear hss
      have hlt := tk_len bs s.p s.y sz
      have HRW := hidden (fun (W : World) (hW : WR W ar g bs s.p s.y) => raw_h (sz : Int) (by omega) (by omega) W hW)
      rw [Int.toNat_natCast] at HRW
      generalize tk bs s.p s.y sz = t at hr hlt HRW
      have HRR := hidden hr
      clear h hT HR hrm hze hsz hr
      go_enter Try.func69, Try.ntmps69
      go_wp2_with fail
      refine HM.out.mono ?_
      rintro e w1 ⟨rfl, hk1⟩
      have HL1 := hidden (HL.out.still hk1)
      have HK1 := hidden hk1
      have c1' := HL1.out.rd
      clear hk1
      go_wp2_with fail
      refine (HRW.out w1 HL1.out.rd).mono ?_
      rintro e w2 ⟨v2, rfl, hH2, hfr2, ht2⟩
      obtain ⟨ao2, cp2, rfl⟩ := hH2.len
      have HL2 := hidden (HL1.out.took ht2)
      have HH2 := hidden hH2
      have HFR := hidden hfr2
      have HT2 := hidden ht2
      have hTX2 := HL2.out.tx.th x HX.out
      have f2 := hTX2.fz
      have d9 := hTX2.c9
      obtain ⟨dao, dcap, hdv⟩ := (HL2.out.tx.dat x HX.out).len
      rw [hdv] at d9
      have hab : a ≠ B x.id := fun e => by
        have h1 := HL.out.tx.ra
        rw [e, HL.out.tx.rth x HX.out] at h1; cases h1
      have hrb : B x.id ≠ ar := fun e => by
        have h1 := HL.out.ra
        rw [← e, HL.out.tx.rth x HX.out] at h1; cases h1
      have hra : a ≠ ar := fun e => by
        have h1 := HL.out.ra
        rw [← e, HL.out.tx.ra] at h1; cases h1
      have htl : t.1.length ≤ 1048576 := by omega
      clear hH2 hfr2 ht2 hdv
      go_wp2_with fail
      -- behind the store of the bytes
      obtain ⟨w3, hw3⟩ : ∃ W, W = w2.setCell ⟨B x.id, 9, none⟩ (.slice ao2 t.1.length cp2) := ⟨_, rfl⟩
      rw [← hw3]
      have hk23 : Keeps (fun k => k = B x.id) w2 w3 := by rw [hw3]; exact keeps_set _ _ _ _
      have hT3 : ThB w3 (setD t.1 x) (B x.id) (.slice ao2 t.1.length cp2) (hv x.id) := by rw [hw3]; exact hTX2.setD _ _
      have htp3 : w3.heap[a]? = some (.cells #[tv, .int .i64 nx, .int .i64 (sizeT L)] 65 (0, 0)) := top_keep HL2.out.tx.top hk23 hab
      obtain ⟨_, _, c32, cf3⟩ := cells3 htp3
      have c39 := hT3.c9
      have hadd : IntKind.i64.wrap ((sizeT L : Int) + (t.1.length : Int)) = (sizeT L : Int) + (t.1.length : Int) := by rw [IntKind.wrap_i64]; omega
      have HT3 := hidden hT3
      have HTP3 := hidden htp3
      have HK23 := hidden hk23
      clear hk23 hT3 htp3 hw3 f2 d9 hTX2 c1' c3 c1
      go_region
      go_wp2_with fail
      go_ret
      have hrr := HRR.out
      subst hrr
      obtain ⟨w4, hw4⟩ : ∃ W, W = (w3.setCell ⟨a, 2, none⟩ (.int .i64 ((s.z : Int) + (t.1.length : Int)))).drew := ⟨_, rfl⟩
      rw [← hw4]
      have hks : Keeps (fun k => k = a) w3 w4 := by rw [hw4]; exact (keeps_set _ _ _ _).drew
      have hk24 : Keeps (fun k => k = B x.id ∨ k = a) w2 w4 := (HK23.out.mono fun k _ h => .inl h).trans (hks.mono fun k _ h => .inr h)
      have hk14 : Keeps (fun k => k = ar ∨ k = B x.id ∨ k = a) w1 w4 := (HT2.out.keeps.mono fun k _ h => .inl h).trans (hk24.mono fun k _ h => .inr h)
      have hss : sizeT (setT L x.id (setD t.1)) = s.z + t.1.length := by
        have := setT_size_at HL.out.inc HX.out (setD t.1)
        rw [hd, show (setD t.1 x).d = t.1 from rfl, hzs] at this
        simpa using this
      have htp4 : w4.heap[a]? = some (.cells #[tv, .int .i64 nx, .int .i64 (sizeT (setT L x.id (setD t.1)))] 65 (0, 0)) := by
        rw [hss, hw4, show ((s.z + t.1.length : Nat) : Int) = (s.z : Int) + (t.1.length : Int) by omega]
        exact top2 HTP3.out _
      have hT4 : ThB w4 (setD t.1 x) (B x.id) (.slice ao2 t.1.length cp2) (hv x.id) := HT3.out.keep hks hab.symm
      have hnb : ∀ k, (Value.slice ao2 t.1.length cp2).ownBlock = some k → ¬ (k = B x.id ∨ k = a) := fun k e h => by
        have h1 := HFR.out k e
        rcases h with h | h
        · have := (HL1.out.tx.th x HX.out).lt; omega
        · have := lt_of_block HL1.out.tx.top; omega
      have hH4 : Held w4 (.slice ao2 t.1.length cp2) t.1 := HH2.out.keep hk24 hnb
      obtain ⟨R', h1, h2⟩ := HL1.out.tx.oneN HL.out.inc HX.out (setD t.1) (fun _ => rfl) (dv' := .slice ao2 t.1.length cp2) (hv' := hv x.id) hk14 (fun k _ h => by
          rcases h with h | h | h
          · rw [h]; exact .inr (.inr (.inr (.inr HL.out.ra)))
          · rw [h]; exact .inl (HL.out.tx.rth x HX.out)
          · rw [h]; exact .inr (.inr (.inr (.inl HL.out.tx.ra)))) htp4 hT4 hH4 ((HL1.out.tx.hel x HX.out).keep hk14 fun k e h => by
          have hr := HL1.out.tx.rhel x HX.out k e
          rcases h with h | h | h
          · rw [h, HL.out.ra] at hr; cases hr
          · rw [h, HL.out.tx.rth x HX.out] at hr; cases hr
          · rw [h, HL.out.tx.ra] at hr; cases hr) (fun k e => .inr (HFR.out k e)) (fun k e => .inl ⟨(HL1.out.tx.hel x HX.out).lt k e, HL1.out.tx.rhel x HX.out k e⟩) (fun k h1 _ h3 => by have := (HL1.out.tx.hel x HX.out).lt k h3; omega)
      obtain ⟨_, r1, r2⟩ := HL1.out.reader (R' := R') (Keeps.refl (fun _ => False) w1) (fun _ _ h => h.elim) h2
      refine ⟨rfl, R', _, _, ⟨h1, ?_, r1, r2, setT_inc HL.out.inc _ _ (fun _ => rfl), fun i => (HL.out.ids i).trans (ids_setT (l := L) (i := x.id) (f := setD t.1) (fun _ => rfl) i).symm, HL.out.nod, by rw [setT_length]; exact HL.out.len, by rw [setT_length]; exact HL.out.cnt, hss, by have := HSS.out; show s.z + t.1.length ≤ _; omega, ?_⟩, (MvR.still HK1.out).trans ⟨h2, hk14.mono fun k _ h => ?_⟩⟩
      · refine HL2.out.rd.keepE hk24 (fun h => ?_) (fun hb k e h => ?_)
        · rcases h with h | h
          · exact hrb h.symm
          · exact hra h.symm
        · have hr := HL.out.rg hb k e
          rcases h with h | h
          · rw [h, HL.out.tx.rth x HX.out] at hr; cases hr
          · rw [h, HL.out.tx.ra] at hr; cases hr
      · intro y hy e he
        obtain ⟨u, hu, rfl⟩ := mem_setT.1 hy
        have : e ∈ u.h := by split at he <;> exact he
        exact (ids_setT (l := L) (i := x.id) (f := setD t.1) (fun _ => rfl) e.2).2 (HL.out.kids u hu e this)
      · rcases h with h | h | h
        · exact .inl h
        · exact .inr (by rw [h, HL.out.tx.rth x HX.out]; intro e; cases e)
        · exact .inr (by rw [h, HL.out.tx.ra]; intro e; cases e)
end

def Fo.app : Fo → Fo → Fo
  | .nil, f => f
  | .cons n x k r, f => .cons n x k (r.app f)
theorem Fo.app_heads : ∀ (a b : Fo), (a.app b).heads = a.heads ++ b.heads
  | .nil, _ => rfl
  | .cons n x k r, b => by rw [Fo.app, Fo.heads, Fo.heads, r.app_heads b]; rfl
theorem Fo.app_ths : ∀ (a b : Fo) (z : Th), z ∈ (a.app b).ths ↔ z ∈ a.ths ∨ z ∈ b.ths
  | .nil, _, z => by simp [Fo.app, Fo.ths]
  | .cons n x k r, b, z => by
    rw [Fo.app, Fo.ths, Fo.ths, List.mem_cons, List.mem_cons, List.mem_append, List.mem_append, r.app_ths b z]
    constructor
    · rintro (h | h | h | h)
      · exact .inl (.inl h)
      · exact .inl (.inr (.inl h))
      · exact .inl (.inr (.inr h))
      · exact .inr h
    · rintro ((h | h | h) | h)
      · exact .inl h
      · exact .inr (.inl h)
      · exact .inr (.inr (.inl h))
      · exact .inr (.inr (.inr h))
theorem Fo.app_app : ∀ (a b c : Fo), (a.app b).app c = a.app (b.app c)
  | .nil, _, _ => rfl
  | .cons n x k r, b, c => by rw [Fo.app, Fo.app, Fo.app, r.app_app b c]
theorem Fo.app_nil : ∀ a : Fo, a.app .nil = a
  | .nil => rfl
  | .cons n x k r => by rw [Fo.app, r.app_nil]
/-- How many it holds, and they. -/
def heldO (bs : List UInt8) (nx F : Nat) (dir : Bool) (s : Ld) : Option (Fo × Ld) :=
  if dir = false then (if val (tk bs s.p s.y 4).1 = 0 then some (.nil, ⟨(tk bs s.p s.y 4).2.1, (tk bs s.p s.y 4).2.2, s.ids, s.z⟩) else none)
  else kidsO (loadO bs nx F) bs (val (tk bs s.p s.y 4).1) ⟨#[]⟩ ⟨(tk bs s.p s.y 4).2.1, (tk bs s.p s.y 4).2.2, s.ids, s.z⟩
theorem loadO_eq (bs : List UInt8) (nx F : Nat) (s : Ld) : loadO bs nx (F + 1) s = match headO bs nx s with
    | none => none
    | some (x, s1) => match dataO bs x s1 with
      | none => none
      | some (x, s2) => match heldO bs nx F x.dir s2 with
        | none => none
        | some (k, s3) => some (x, k, s3) := by
  rw [loadO]
  cases headO bs nx s with
  | none => rfl
  | some q =>
    obtain ⟨x, s1⟩ := q
    simp only
    cases dataO bs x s1 with
    | none => rfl
    | some q =>
      obtain ⟨x, s2⟩ := q
      simp only
      unfold heldO
      cases x.dir with
      | false =>
        simp only [if_true]
        by_cases h : val (tk bs s2.p s2.y 4).1 = 0
        · rw [if_pos h, if_pos h]
        · rw [if_neg h, if_neg h]
      | true =>
        rw [if_neg (by simp), if_neg (by simp)]
        cases kidsO (loadO bs nx F) bs (val (tk bs s2.p s2.y 4).1) ⟨#[]⟩ ⟨(tk bs s2.p s2.y 4).2.1, (tk bs s2.p s2.y 4).2.2, s2.ids, s2.z⟩ <;> rfl

/-- What load leaves. -/
def LPost (a ar : Nat) (g : Option Nat) (bs : List UInt8) (nx : Nat) (R : Nat → Role) (L : List Th) (B : Nat → Nat) (r : Option (Hd × Fo × Ld)) (w : World) (e : Ending) (w' : World) : Prop := match r with
  | none => e = .returned (.tuple #[.pointer none, .bool false]) ∧ ∃ R', MvR ar R R' w w'
  | some (x, k, s') => ∃ R' L' B' dv' hv' tv', e = .returned (.tuple #[.pointer (some ⟨B' x.id, 0, none⟩), .bool true]) ∧ LS w' R' a ar g bs nx L' B' dv' hv' tv' s' ∧ MvR ar R R' w w' ∧
      (∀ z, z ∈ L' ↔ z ∈ L ∨ z = thH x k ∨ z ∈ k.ths) ∧ ∀ z ∈ L, B' z.id = B z.id
/-- What loadHeld leaves. -/
def HPost (a ar : Nat) (g : Option Nat) (bs : List UInt8) (nx : Nat) (R : Nat → Role) (L : List Th) (B : Nat → Nat) (x : Th) (r : Option (Fo × Ld)) (w : World) (e : Ending) (w' : World) : Prop := match r with
  | none => e = .returned (.bool false) ∧ ∃ R', MvR ar R R' w w'
  | some (k, s') => e = .returned (.bool true) ∧ ∃ R' L' B' dv' hv' tv', LS w' R' a ar g bs nx L' B' dv' hv' tv' s' ∧ MvR ar R R' w w' ∧
      (∀ z, z ∈ L' ↔ (z ∈ L ∧ z.id ≠ x.id) ∨ z = setH k.heads x ∨ z ∈ k.ths) ∧ ∀ z ∈ L, B' z.id = B z.id
def LoadOk (a ar : Nat) (g : Option Nat) (bs : List UInt8) (nx F : Nat) : Prop := ∀ (w : World) (R : Nat → Role) (L : List Th) (B : Nat → Nat) (dv hv : Nat → Value) (tv : Value) (s : Ld), LS w R a ar g bs nx L B dv hv tv s → 201 ≤ F + s.ids.length →
  Calls Try.prog 47 #[.pointer (some ⟨a, 0, none⟩), .pointer (some ⟨ar, 0, none⟩)] w (LPost a ar g bs nx R L B (loadO bs nx F s) w)

theorem name_le {a b : Nm} (h : nlt b a = true) : (Op.bytesLess a.toList b.toList || a.toList == b.toList) = false := by
  rw [ByteArray.toList_eq, ByteArray.toList_eq]
  have h1 : Op.bytesLess a.data.toList b.data.toList = false := nlt_asymm h
  have h2 : (a.data.toList == b.data.toList) = false := by
    rw [beq_eq_false_iff_ne]
    intro e
    exact nlt_ne h (ByteArray.ext (Array.toList_inj.1 e)).symm
  rw [h1, h2]; rfl
theorem name_gt {a b : Nm} (h : nlt b a = false) : (Op.bytesLess a.toList b.toList || a.toList == b.toList) = true := by
  rw [ByteArray.toList_eq, ByteArray.toList_eq]
  by_cases e : b = a
  · subst e; simp
  · have h1 : Op.bytesLess a.data.toList b.data.toList = true := nlt_ge h e
    rw [h1]; rfl

section
variable {w w' : World} {R R' : Nat → Role} {a ar : Nat} {g : Option Nat} {bs : List UInt8} {nx : Nat} {L : List Th} {B : Nat → Nat} {dv hv : Nat → Value} {tv : Value} {s : Ld}
/-- One entry more behind what a directory holds. -/
theorem LS.entry (h : LS w R a ar g bs nx L B dv hv tv s) {x : Th} (hx : x ∈ L) {n : Nm} {j : Nat} (hj : ∃ z ∈ L, z.id = j) (hl : x.h.length ≤ 1000) :
    ∃ v' w1, (Builtin.append_ #[71, 71] 71 #[hv x.id, .slice (some ⟨w.heap.size, 0, none⟩) 1 1]).run Try.prog (w.alloc (.cells #[.string n, .pointer (some ⟨B j, 0, none⟩)] 83)) = .ok v' w1 ∧
      (∃ ao n c, v' = .slice ao n c) ∧ w1.frozen? ⟨B x.id, 10, none⟩ = false ∧ (∃ u, w1.cell? ⟨B x.id, 10, none⟩ = some u) ∧ ∃ R' hv', LS (w1.setCell ⟨B x.id, 10, none⟩ v') R' a ar g bs nx (setT L x.id (setH (x.h ++ [(n, j)]))) B (upd dv x.id (dv x.id)) hv' tv s ∧ MvR ar R R' w (w1.setCell ⟨B x.id, 10, none⟩ v') := by
  obtain ⟨i0, hi, hz0, hz1, hz2⟩ := info_parts Try.infoEnt
  have hrow := h.tx.hel x hx
  have ho : (w.alloc (.cells #[.string n, .pointer (some ⟨B j, 0, none⟩)] 83)).ownsRow 0 83 2 (hv x.id) x.h.length (ecells B x.h) := World.ownsRow.alloc hrow _
  obtain ⟨v', w1, hr, hown, hg, _, hat⟩ := run_append_own_at (P := Try.prog) (w.alloc (.cells #[.string n, .pointer (some ⟨B j, 0, none⟩)] 83)) 0 71 71 83 i0 _ 2 24 Try.underlying71 hi hz0 hz1 hz2 rfl (by omega) _ _ _ ho ⟨w.heap.size, 0, none⟩ 1 1 [.string n, .pointer (some ⟨B j, 0, none⟩)] rfl (World.news_of_block (t := 83) (fr := (0, 0)) (heap_alloc_new w _)) (fun u hu => by
    rcases List.mem_cons.1 hu with rfl | hu
    · rfl
    · rw [List.mem_singleton.1 hu]; rfl) (by unfold maxLen; omega) (by omega) (Nat.zero_le _)
  have hka : Keeps (fun _ => False) w (w.alloc (.cells #[.string n, .pointer (some ⟨B j, 0, none⟩)] 83)) := (Keeps.refl _ _).alloc _
  have hk1 : Keeps (fun k => (hv x.id).ownBlock = some k) w w1 := (hka.mono fun _ _ h => h.elim).trans (Keeps.ofGrown hg fun _ e => e)
  have hxr := h.tx.rth x hx
  have hvb : (hv x.id).ownBlock ≠ some (B x.id) := fun e => by
    have h1 := h.tx.rhel x hx _ e
    rw [hxr] at h1; cases h1
  have hva : (hv x.id).ownBlock ≠ some a := fun e => by
    have h1 := h.tx.rhel x hx _ e
    rw [h.tx.ra] at h1; cases h1
  have hth1 := (h.tx.th x hx).keep hk1 hvb
  refine ⟨v', w1, hr, ownsRow_shape hown |>.elim fun ao h => h.elim fun c h => ⟨ao, _, c, h⟩, hth1.fz 10, ⟨_, hth1.c10⟩, ?_⟩
  have hks := keeps_set w1 (B x.id) 10 v'
  have hk2 : Keeps (fun k => k = B x.id ∨ (hv x.id).ownBlock = some k) w (w1.setCell ⟨B x.id, 10, none⟩ v') := (hk1.mono fun _ _ h => .inr h).trans (hks.mono fun _ _ h => .inl h)
  have hnew : ∀ k, v'.ownBlock = some k → (k < w.heap.size ∧ R k = .hel x.id) ∨ w.heap.size ≤ k := fun k e => by
    rcases hat with h1 | h1
    · rw [h1] at e; exact .inl ⟨h.tx.hel x hx |>.lt k e, h.tx.rhel x hx k e⟩
    · rw [h1] at e; cases e; simp
  have hvb2 : ∀ k, v'.ownBlock = some k → ¬ k = B x.id := fun k e e2 => by
    rcases hnew k e with ⟨_, h1⟩ | h1
    · rw [e2, hxr] at h1; cases h1
    · have := (h.tx.th x hx).lt; omega
  have hec : ecells B (x.h ++ [(n, j)]) = ecells B x.h ++ [.string n, .pointer (some ⟨B j, 0, none⟩)] := by rw [ecells_append]; rfl
  have hE : ERow (w1.setCell ⟨B x.id, 10, none⟩ v') B v' (x.h ++ [(n, j)]) := by
    unfold ERow
    rw [hec, List.length_append]
    exact hks.row hown hvb2
  obtain ⟨R', h1, h2⟩ := h.tx.one h.inc hx (setH (x.h ++ [(n, j)])) (fun _ => rfl) (dv' := dv x.id) (hv' := v') hk2 (fun k _ e => by
      rcases e with e | e
      · rw [e]; exact .inl hxr
      · exact .inr (.inl (h.tx.rhel x hx k e))) (by
      rw [setT_size (f := setH (x.h ++ [(n, j)])) fun _ => rfl]
      refine top_keep h.tx.top hk2 fun e => ?_
      rcases e with e | e
      · have h1 := h.tx.ra; rw [e, hxr] at h1; cases h1
      · exact hva e) (hth1.setH _ _) ((h.tx.dat x hx).keep hk2 fun k e e2 => by
        have h1 := h.tx.rdat x hx k e
        rcases e2 with e2 | e2
        · rw [e2, hxr] at h1; cases h1
        · rw [h.tx.rhel x hx k e2] at h1; cases h1) hE (fun k e => .inl ⟨(h.tx.dat x hx).lt k e, h.tx.rdat x hx k e⟩) hnew (fun k h1 h2 _ => by have := (h.tx.dat x hx).lt k h2; omega)
  obtain ⟨r0, r1, r2⟩ := h.reader (R' := R') hk2 (fun k _ e => by
      rcases e with e | e
      · rw [e, hxr]; intro e; cases e
      · rw [h.tx.rhel x hx k e]; intro e; cases e) h2
  refine ⟨R', _, ⟨h1, r0, r1, r2, setT_inc h.inc _ _ (fun _ => rfl), fun i => (h.ids i).trans (ids_setT (l := L) (i := x.id) (f := setH (x.h ++ [(n, j)])) (fun _ => rfl) i).symm, h.nod, by rw [setT_length]; exact h.len, by rw [setT_length]; exact h.cnt, by rw [setT_size (f := setH (x.h ++ [(n, j)])) fun _ => rfl]; exact h.sz, h.bytes, ?_⟩, ⟨h2, hk2.mono fun k _ e => ?_⟩⟩
  · intro y hy e he
    obtain ⟨u, hu, rfl⟩ := mem_setT.1 hy
    refine (ids_setT (l := L) (i := x.id) (f := setH (x.h ++ [(n, j)])) (fun _ => rfl) e.2).2 ?_
    split at he
    · rcases List.mem_append.1 (show e ∈ x.h ++ [(n, j)] from he) with he | he
      · exact h.kids x hx e he
      · rw [List.mem_singleton.1 he]; exact hj
    · exact h.kids u hu e he
  · rcases e with e | e
    · exact .inr (by rw [e, hxr]; intro e; cases e)
    · exact .inr (by rw [h.tx.rhel x hx k e]; intro e; cases e)

set_option maxHeartbeats 8000000 in
set_option maxRecDepth 100000 in
theorem loadHeld_c {F : Nat} (IH : LoadOk a ar g bs nx F) (h : LS w R a ar g bs nx L B dv hv tv s) {x : Th} (hx : x ∈ L) (hxh : x.h = []) (hF : 201 ≤ F + s.ids.length) :
    Calls Try.prog 70 #[.pointer (some ⟨a, 0, none⟩), .pointer (some ⟨B x.id, 0, none⟩), .pointer (some ⟨ar, 0, none⟩)] w (HPost a ar g bs nx R L B x (heldO bs nx F x.dir s) w) := by
  have HL := hidden h
  have HX := hidden hx
  have HXH := hidden hxh
  have HIH := hidden IH
  have c1 := (h.tx.th x hx).c1
  have HU := hidden (u32_r w h.rd)
  have HR : Hid (heldO bs nx F x.dir s = if x.dir = false then (if val (tk bs s.p s.y 4).1 = 0 then some (.nil, ⟨(tk bs s.p s.y 4).2.1, (tk bs s.p s.y 4).2.2, s.ids, s.z⟩) else none)
    else kidsO (loadO bs nx F) bs (val (tk bs s.p s.y 4).1) ⟨#[]⟩ ⟨(tk bs s.p s.y 4).2.1, (tk bs s.p s.y 4).2.2, s.ids, s.z⟩) := rfl
  generalize heldO bs nx F x.dir s = rr at HR ⊢
  have hvl : val (tk bs s.p s.y 4).1 ≤ 4294967295 := f_lt bs s.p s.y
  generalize tk bs s.p s.y 4 = t at HR HU hvl
  obtain ⟨c, hc⟩ : ∃ c, c = val t.1 := ⟨_, rfl⟩
  rw [← hc] at HR HU hvl
  have HFI := hidden hF
  clear h hx hxh IH hc hF
  go_enter Try.func70, Try.ntmps70
  go_wp2_with fail
  refine HU.out.mono ?_
  rintro e w1 ⟨rfl, ht1⟩
  have HL1 := hidden (HL.out.took ht1)
  have HM1 : Hid (MvR ar R R w w1) := MvR.took ht1.keeps
  have c1' := (HL1.out.tx.th x HX.out).c1
  clear ht1 c1
  cases hdx : x.dir with
  | false =>
    rw [hdx] at c1'
    have hr := HR.out
    rw [if_pos hdx] at hr
    by_cases hc0 : c = 0
    · rw [if_pos hc0] at hr
      subst hr
      have hci : ((c : Int) == 0) = true := by rw [hc0]; rfl
      clear HR hc0
      go_wp2_with fail
      go_ret
      refine ⟨rfl, R, L, B, dv, hv, tv, HL1.out, HM1.out, fun z => ?_, fun _ _ => rfl⟩
      have hsx : setH [] x = x := by unfold setH; rw [← HXH.out]
      constructor
      · intro hz
        by_cases e : z.id = x.id
        · exact .inr (.inl (by rw [HL1.out.inc.uniq hz HX.out e]; exact hsx.symm))
        · exact .inl ⟨hz, e⟩
      · rintro (⟨hz, _⟩ | hz | hz)
        · exact hz
        · rw [hz, show setH (Fo.heads .nil) x = x from hsx]; exact HX.out
        · cases hz
    · rw [if_neg hc0] at hr
      subst hr
      have hci : ((c : Int) == 0) = false := by rw [beq_eq_false_iff_ne]; omega
      clear HR hc0
      go_wp2_with fail
      go_ret
      exact ⟨rfl, R, HM1.out⟩
  | true =>
    rw [hdx] at c1'
    have hr := HR.out
    rw [if_neg (by rw [hdx]; simp)] at hr
    have HRR := hidden hr
    clear hr HR
    go_wp2_with fail
    go_loopw [8, 22] (fun bf cc wr => ∃ (j : Nat) (b1 : Nm) (R1 : Nat → Role) (L1 : List Th) (B1 : Nat → Nat) (dv1 hv1 : Nat → Value) (tv1 : Value) (s1 : Ld) (acc : Fo), bf = .string b1 ∧ cc = .int .u32 j ∧ j ≤ c ∧ LS wr R1 a ar g bs nx L1 B1 dv1 hv1 tv1 s1 ∧ MvR ar R R1 w wr ∧
      (∀ z, z ∈ L1 ↔ (z ∈ L ∧ z.id ≠ x.id) ∨ z = setH acc.heads x ∨ z ∈ acc.ths) ∧ (∀ z ∈ acc.ths, z.id ≠ x.id) ∧ (∀ z ∈ L, B1 z.id = B z.id) ∧ acc.heads.length + 1 ≤ L1.length ∧ 201 ≤ F + s1.ids.length ∧ rr = (kidsO (loadO bs nx F) bs (c - j) b1 s1).map (fun q => (acc.app q.1, q.2))) (fun _ cc _ => c - (intOf cc).toNat)
    case atStart =>
      refine ⟨0, ⟨#[]⟩, R, L, B, dv, hv, tv, _, .nil, rfl, rfl, Nat.zero_le _, HL1.out, HM1.out, fun z => ?_, (fun z hz => by cases hz), fun _ _ => rfl, ?_, HFI.out, ?_⟩
      · have hsx : setH [] x = x := by unfold setH; rw [← HXH.out]
        constructor
        · intro hz
          by_cases e : z.id = x.id
          · exact .inr (.inl (by rw [HL1.out.inc.uniq hz HX.out e]; exact hsx.symm))
          · exact .inl ⟨hz, e⟩
        · rintro (⟨hz, _⟩ | hz | hz)
          · exact hz
          · rw [hz, show setH (Fo.heads .nil) x = x from hsx]; exact HX.out
          · cases hz
      · have := List.length_pos_of_mem HX.out
        show 0 + 1 ≤ _
        omega
      · rw [HRR.out, Nat.sub_zero]
        cases kidsO (loadO bs nx F) bs c ⟨#[]⟩ ⟨t.2.1, t.2.2, s.ids, s.z⟩ with
        | none => rfl
        | some q => rfl
    case round =>
      obtain ⟨j, b1, R1, L1, B1, dv1, hv1, tv1, s1, acc, rfl, rfl, hjc, hLr, hMr, hmem, hacc, hB1, hlen, hF1, hrr⟩ := hrel
      have HLr := hidden hLr
      have HMr := hidden hMr
      have HMEM := hidden hmem
      have HACC := hidden hacc
      have HB1 := hidden hB1
      have HLEN := hidden hlen
      have HF1 := hidden hF1
      have HRJ := hidden hrr
      clear hLr hMr hmem hacc hB1 hlen hF1 hrr
      by_cases hlt : j < c
      · have hi1 : (j : Int) < (c : Int) := by omega
        have HTX := hidden (fun (W : World) (hW : WR W ar g bs s1.p s1.y) => textS_r 30 (by omega) (by omega) W hW)
        have HK : Hid (kidsO (loadO bs nx F) bs (c - j) b1 s1 = if rightP (tx bs s1.p s1.y 30).1 = false ∨ nlt b1 (tb (tx bs s1.p s1.y 30).1) = false then none
          else match loadO bs nx F ⟨(tx bs s1.p s1.y 30).2.1, (tx bs s1.p s1.y 30).2.2, s1.ids, s1.z⟩ with
            | none => none
            | some (y, k, s2) => match kidsO (loadO bs nx F) bs (c - (j + 1)) (tb (tx bs s1.p s1.y 30).1) s2 with
              | none => none
              | some (r, s3) => some (.cons (tb (tx bs s1.p s1.y 30).1) y k r, s3)) := by
          show _ = _
          rw [show c - j = (c - (j + 1)) + 1 by omega]
          rfl
        generalize tx bs s1.p s1.y 30 = u at HTX HK
        go_wp2_with fail
        refine (HTX.out wr HLr.out.rd).mono ?_
        rintro e w2 ⟨rfl, ht2⟩
        have HL2 := hidden (HLr.out.took ht2)
        have HM2 : Hid (MvR ar R R1 w w2) := HMr.out.trans (MvR.took ht2.keeps)
        clear ht2
        have HRP := hidden (pright_c (tb u.1) w2)
        rw [tb_list] at HRP
        rw [show (⟨u.1.toArray⟩ : ByteArray) = tb u.1 from rfl]
        obtain ⟨nm, hnm⟩ : ∃ nm, nm = tb u.1 := ⟨_, rfl⟩
        rw [← hnm] at HRP HK ⊢
        clear hnm
        go_wp2_with fail
        refine HRP.out.mono ?_
        rintro e wq ⟨rfl, hq⟩; obtain rfl := hq.symm; clear hq
        cases hrp : rightP u.1 with
        | false =>
          have hn : rr = none := by rw [HRJ.out, HK.out, if_pos (.inl hrp)]; rfl
          subst hn
          go_wp2_with fail
          go_ret
          exact ⟨rfl, R1, HM2.out⟩
        | true =>
          cases hlt2 : nlt b1 nm with
          | false =>
            have hn : rr = none := by rw [HRJ.out, HK.out, if_pos (.inr hlt2)]; rfl
            subst hn
            have hcmp := name_gt hlt2
            clear hlt2
            go_wp2_with fail
            go_ret
            exact ⟨rfl, R1, HM2.out⟩
          | true =>
            have hcmp := name_le hlt2
            have hk := HK.out
            rw [if_neg (by rw [hrp, hlt2]; simp)] at hk
            have HK2 := hidden hk
            clear hlt2 hk HK hrp
            go_wp2_with fail
            refine (HIH.out w2 R1 L1 B1 dv1 hv1 tv1 _ HL2.out HF1.out).mono ?_
            intro e w3 hL3
            cases hld : loadO bs nx F ⟨u.2.1, u.2.2, s1.ids, s1.z⟩ with
            | none =>
              rw [hld] at hL3
              have hn : rr = none := by rw [HRJ.out, HK2.out, hld]; rfl
              subst hn
              obtain ⟨rfl, R3, hm3⟩ := hL3
              go_wp2_with fail
              go_ret
              exact ⟨rfl, R3, HM2.out.trans hm3⟩
            | some q =>
              obtain ⟨y, k, s2⟩ := q
              rw [hld] at hL3
              obtain ⟨R3, L3, B3, dv3, hv3, tv3, rfl, hS3, hm3, hmem3, hB3⟩ := hL3
              have hrd := load_read F _ _ _ _ hld
              have hids : s2.ids = k.push (y.id :: s1.ids) := hrd.ids
              have hnd := hS3.nod
              rw [hids] at hnd
              have hnd2 := ((k.push_perm (y.id :: s1.ids)).nodup_iff).1 hnd
              have hx1 : setH acc.heads x ∈ L1 := (HMEM.out _).2 (.inr (.inl rfl))
              have hxs : x.id ∈ s1.ids := (HLr.out.ids x.id).2 ⟨_, hx1, rfl⟩
              rw [nodup_mid, List.nodup_cons] at hnd2
              obtain ⟨hnd3, hnd4⟩ := hnd2
              have hyx : y.id ≠ x.id := fun e => hnd3 (by rw [e]; exact List.mem_append_right _ hxs)
              have hkx : ∀ i ∈ k.ids, i ≠ x.id := fun i hi e => (List.nodup_append.1 hnd4).2.2 i hi x.id hxs e
              have hlen3 : L3.length = k.ids.length + (L1.length + 1) := by
                rw [hS3.len, hids, (k.push_perm _).length_eq, List.length_append, List.length_cons, HLr.out.len]
              have hx3 : setH acc.heads x ∈ L3 := (hmem3 _).2 (.inl hx1)
              have hBx : B3 x.id = B x.id := by
                have h1 := hB3 _ hx1
                rw [show (setH acc.heads x).id = x.id from rfl] at h1
                rw [h1]
                exact HB1.out x HX.out
              have hhl : acc.heads.length ≤ 1000 := by have := HLEN.out; have := HLr.out.cnt; omega
              obtain ⟨v', w4, hrun, ⟨vo, vn, vc, rfl⟩, hfz, ⟨u0, hc10⟩, R4, hv4, hS4, hm4⟩ := hS3.entry hx3 (n := nm) (j := y.id) ⟨thH y k, (hmem3 _).2 (.inr (.inl rfl)), rfl⟩ hhl
              rw [show (setH acc.heads x).id = x.id from rfl] at hrun hfz hc10 hS4 hm4
              rw [show (setH acc.heads x).h = acc.heads from rfl] at hS4
              have c10 := (hS3.tx.th _ hx3).c10
              rw [show (setH acc.heads x).id = x.id from rfl] at c10
              obtain ⟨hao, hcap, hhv, _⟩ := (hS3.tx.hel _ hx3).shape
              rw [show (setH acc.heads x).id = x.id from rfl, show (setH acc.heads x).h = acc.heads from rfl] at hhv
              rw [hhv] at c10 hrun
              rw [hBx] at hfz hc10 hS4 hm4 c10
              have HS4 := hidden hS4
              have HM4 : Hid (MvR ar R R4 w (w4.setCell ⟨B x.id, 10, none⟩ (.slice vo vn vc))) := (HM2.out.trans hm3).trans hm4
              have HREL : Hid ((∀ z, z ∈ setT L3 x.id (setH (acc.heads ++ [(nm, y.id)])) ↔ (z ∈ L ∧ z.id ≠ x.id) ∨ z = setH (acc.app (.cons nm y k .nil)).heads x ∨ z ∈ (acc.app (.cons nm y k .nil)).ths) ∧ (∀ z ∈ (acc.app (.cons nm y k .nil)).ths, z.id ≠ x.id) ∧ (∀ z ∈ L, B3 z.id = B z.id) ∧ (acc.app (.cons nm y k .nil)).heads.length + 1 ≤ (setT L3 x.id (setH (acc.heads ++ [(nm, y.id)]))).length ∧ 201 ≤ F + s2.ids.length ∧ rr = (kidsO (loadO bs nx F) bs (c - (j + 1)) nm s2).map (fun q => ((acc.app (.cons nm y k .nil)).app q.1, q.2))) := by
                have hh : (acc.app (.cons nm y k .nil)).heads = acc.heads ++ [(nm, y.id)] := by rw [Fo.app_heads]; rfl
                have ht : ∀ z, z ∈ (acc.app (.cons nm y k .nil)).ths ↔ z ∈ acc.ths ∨ z = thH y k ∨ z ∈ k.ths := fun z => by
                  rw [Fo.app_ths, Fo.ths, List.mem_cons, List.mem_append]
                  simp [Fo.ths]
                have hidk : ∀ z ∈ k.ths, z.id ≠ x.id := fun z hz => hkx _ (Fo.id_mem hz)
                refine ⟨fun z => ?_, fun z hz => ?_, fun z hz => ?_, ?_, ?_, ?_⟩
                · rw [hh, ht, mem_setT]
                  constructor
                  · rintro ⟨u, hu, rfl⟩
                    by_cases e : u.id = x.id
                    · rw [if_pos e]
                      have : u = setH acc.heads x := hS3.inc.uniq hu hx3 e
                      rw [this]
                      exact .inr (.inl rfl)
                    · rw [if_neg e]
                      rcases (hmem3 u).1 hu with h1 | h1 | h1
                      · rcases (HMEM.out u).1 h1 with h2 | h2 | h2
                        · exact .inl h2
                        · exact absurd (by rw [h2]; rfl) e
                        · exact .inr (.inr (.inl h2))
                      · exact .inr (.inr (.inr (.inl h1)))
                      · exact .inr (.inr (.inr (.inr h1)))
                  · rintro (⟨h1, h2⟩ | h1 | h1 | h1 | h1)
                    · exact ⟨z, (hmem3 z).2 (.inl ((HMEM.out z).2 (.inl ⟨h1, h2⟩))), by rw [if_neg h2]⟩
                    · exact ⟨_, hx3, by rw [if_pos (show (setH acc.heads x).id = x.id from rfl), h1]; rfl⟩
                    · exact ⟨z, (hmem3 z).2 (.inl ((HMEM.out z).2 (.inr (.inr h1)))), by rw [if_neg (HACC.out z h1)]⟩
                    · exact ⟨z, (hmem3 z).2 (.inr (.inl h1)), by rw [if_neg (by rw [h1]; exact hyx)]⟩
                    · exact ⟨z, (hmem3 z).2 (.inr (.inr h1)), by rw [if_neg (hidk z h1)]⟩
                · rcases (ht z).1 hz with h1 | h1 | h1
                  · exact HACC.out z h1
                  · rw [h1]; exact hyx
                  · exact hidk z h1
                · rw [← HB1.out z hz]
                  by_cases e : z.id = x.id
                  · rw [e, hBx]; exact (HB1.out x HX.out).symm
                  · exact hB3 z ((HMEM.out z).2 (.inl ⟨hz, e⟩))
                · rw [hh, setT_length, List.length_append, hlen3]
                  have := HLEN.out
                  simp only [List.length_cons, List.length_nil]
                  omega
                · have := HF1.out
                  rw [hids, (k.push_perm _).length_eq, List.length_append, List.length_cons]
                  omega
                · rw [HRJ.out, HK2.out, hld]
                  simp only
                  cases kidsO (loadO bs nx F) bs (c - (j + 1)) nm s2 with
                  | none => rfl
                  | some q =>
                    obtain ⟨r, s3⟩ := q
                    simp only [Option.map_some]
                    rw [Fo.app_app]
                    rfl
              clear hS4 hm4 hmem3 hB3 hm3 hld hrd hids hnd hnd3 hnd4 hyx hkx hlen3 hx3 hx1 hxs hS3
              go_wp2_with (at_builtin; refine wpList_append_run _ rfl (.tmp 46) (.tmp 50) 71 71 rfl _ _ rfl rfl hrun ?_)
              go_roundw
              case rel =>
                obtain ⟨q1, q2, q3, q4, q5, q6⟩ := HREL.out
                exact ⟨j + 1, nm, R4, _, B3, _, hv4, tv3, s2, acc.app (.cons nm y k .nil), rfl, by go_num, hlt, HS4.out, HM4.out, q1, q2, q3, q4, q5, q6⟩
              case measure => simp [intOf]; omega
      · obtain rfl : j = c := by omega
        have hi1 : ¬ ((j : Nat) : Int) < (j : Int) := by omega
        have hn : rr = some (acc, s1) := by
          rw [HRJ.out, Nat.sub_self]
          show some (acc.app .nil, s1) = _
          rw [Fo.app_nil]
        subst hn
        go_wp2_with fail
        go_ret
        exact ⟨rfl, R1, L1, B1, dv1, hv1, tv1, HLr.out, HMr.out, HMEM.out, HB1.out⟩
end

theorem data_same {bs : List UInt8} {x y : Hd} {s s' : Ld} (h : dataO bs x s = some (y, s')) : y.id = x.id ∧ y.dir = x.dir ∧ y.a = x.a ∧ s'.ids = s.ids := by
  unfold dataO at h
  split at h
  · split at h
    · obtain ⟨rfl, rfl⟩ := Prod.mk.inj (Option.some.inj h)
      exact ⟨rfl, rfl, rfl, rfl⟩
    · cases h
  · split at h
    · cases h
    · obtain ⟨rfl, rfl⟩ := Prod.mk.inj (Option.some.inj h)
      exact ⟨rfl, rfl, rfl, rfl⟩
section
variable {w w' : World} {R R' : Nat → Role} {a ar : Nat} {g : Option Nat} {bs : List UInt8} {nx : Nat} {L : List Th} {B : Nat → Nat} {dv hv : Nat → Value} {tv : Value} {s : Ld}
theorem findT_ids (h : LS w R a ar g bs nx L B dv hv tv s) (i : Nat) : (findT L (i : Int)).isSome = true ↔ i ∈ s.ids := by
  rw [h.ids i]
  constructor
  · intro e
    obtain ⟨x, hx⟩ := Option.isSome_iff_exists.1 e
    obtain ⟨h1, h2⟩ := (findT_some h.inc _ _).1 hx
    exact ⟨x, h1, by omega⟩
  · rintro ⟨x, hx, e⟩
    rw [findT_nat h.inc hx e]; rfl
/-- A thing was remembered. -/
theorem LS.put (h : LS w R a ar g bs nx L B dv hv tv s) {x : Th} (hni : x.id ∉ s.ids) (hc : s.ids.length < 200) (hxd : x.d = []) (hxh : x.h = []) {b : Nat} (hb0 : w.heap.size ≤ b) {w4 : World} {p : Nat} {y : Int} (hr4 : WR w4 ar g bs p y) (hk4 : Keeps (fun k => k = ar) w w4) (hb4 : ThB w4 x b (.slice none 0 0) (.slice none 0 0)) {tv' : Value}
    (htop : w'.heap[a]? = some (.cells #[tv', .int .i64 nx, .int .i64 (sizeT L)] 65 (0, 0)))
    (hrow : w'.ownsRow 0 61 1 tv' (L.length + 1) ((tcells B L).take (posT L x.id) ++ [.pointer (some ⟨b, 0, none⟩)] ++ (tcells B L).drop (posT L x.id)))
    (hk : Keeps (fun k => k = a ∨ tv.ownBlock = some k) w4 w') (hat : tv'.ownBlock = tv.ownBlock ∨ ∀ k, tv'.ownBlock = some k → w4.heap.size ≤ k) :
    ∃ R', LS w' R' a ar g bs nx (insT L x) (upd B x.id b) (upd dv x.id (.slice none 0 0)) (upd hv x.id (.slice none 0 0)) tv' ⟨p, y, x.id :: s.ids, s.z⟩ ∧ MvR ar R R' w w' := by
  have hnl : ∀ z ∈ L, z.id ≠ x.id := fun z hz e => hni ((h.ids x.id).2 ⟨z, hz, e⟩)
  have hTk : Keeps (fun k => k = ar ∨ k = a ∨ tv.ownBlock = some k) w w' := (hk4.mono fun k _ h => .inl h).trans (hk.mono fun k _ h => .inr h)
  have hrr : ∀ k, tv.ownBlock = some k → R k = .row := h.tx.rrow
  have hcs : tcells (upd B x.id b) (insT L x) = (tcells B L).take (posT L x.id) ++ [.pointer (some ⟨b, 0, none⟩)] ++ (tcells B L).drop (posT L x.id) := by
    rw [tcells_insT, upd_self]
    have : tcells (upd B x.id b) L = tcells B L := by
      unfold tcells
      exact List.map_congr_left fun z hz => by rw [upd_ne _ _ (hnl z hz)]
    rw [this]
  have hsz4 := hk4.size
  have hlb : b < w4.heap.size := hb4.lt
  have hba : b ≠ a := fun e => by have := lt_of_block h.tx.top; omega
  have hbr : tv.ownBlock ≠ some b := fun e => by have := (World.ownsRow.lt h.tx.row b e).2; omega
  obtain ⟨R', h1, h2⟩ := h.tx.put (x := x) hnl (fun z hz e he e2 => by obtain ⟨u, hu, hu2⟩ := h.kids z hz e he; exact hnl u hu (by rw [hu2, e2])) hxd hxh (h := b) hb0 (L := insT L x) (tv' := tv') (fun z hz => (mem_insT L x z).1 hz) (insT_size L x hxd) hTk (fun k _ e => by
      rcases e with e | e | e
      · rw [e]; exact .inr (.inr h.ra)
      · rw [e]; exact .inr (.inl h.tx.ra)
      · exact .inl (hrr k e)) htop (hb4.keep hk (fun e => e.elim hba hbr)) (by rw [hcs, insT_length]; exact hrow) (fun k e => by
      rcases hat with e2 | e2
      · rw [e2] at e; exact .inl ⟨(World.ownsRow.lt h.tx.row k e).2, hrr k e⟩
      · have := e2 k e
        exact .inr ⟨by omega, by omega⟩)
  obtain ⟨_, r1, r2⟩ := h.reader (R' := R') (Keeps.refl (fun _ => False) w) (fun _ _ h => h.elim) h2
  have hgl : bs ≠ [] → ∀ k, g = some k → k < w.heap.size := fun hb k e => by
    rcases Nat.lt_or_ge k w.heap.size with h1 | h1
    · exact h1
    · exact absurd rfl (h.rd.apartB h1 hb k e)
  refine ⟨R', ⟨h1, ?_, r1, r2, insT_inc h.inc hnl, fun i => ?_, List.nodup_cons.2 ⟨hni, h.nod⟩, ?_, ?_, ?_, h.bytes, ?_⟩, ⟨h2, hTk.mono fun k _ e => ?_⟩⟩
  · refine hr4.keepE hk (fun e => ?_) (fun hb k e e2 => ?_)
    · rcases e with e | e
      · have := h.ra; rw [e, h.tx.ra] at this; cases this
      · have := h.ra; rw [hrr _ e] at this; cases this
    · have h3 := h.rg hb k e
      rcases e2 with e2 | e2
      · rw [e2, h.tx.ra] at h3; cases h3
      · rw [hrr _ e2] at h3; cases h3
  · show i ∈ x.id :: s.ids ↔ _
    rw [List.mem_cons, h.ids i]
    constructor
    · rintro (e | ⟨z, hz, e⟩)
      · exact ⟨x, (mem_insT L x x).2 (.inr rfl), e.symm⟩
      · exact ⟨z, (mem_insT L x z).2 (.inl hz), e⟩
    · rintro ⟨z, hz, e⟩
      rcases (mem_insT L x z).1 hz with hz | rfl
      · exact .inr ⟨z, hz, e⟩
      · exact .inl e.symm
  · rw [insT_length]; show L.length + 1 = (x.id :: s.ids).length; rw [List.length_cons, h.len]
  · rw [insT_length, h.len]; omega
  · rw [insT_size L x hxd]; exact h.sz
  · intro z hz e he
    rcases (mem_insT L x z).1 hz with hz | rfl
    · obtain ⟨u, hu, e2⟩ := h.kids z hz e he
      exact ⟨u, (mem_insT L x u).2 (.inl hu), e2⟩
    · rw [hxh] at he; cases he
  · rcases e with e | e | e
    · exact .inl e
    · exact .inr (by rw [e, h.tx.ra]; intro e; cases e)
    · exact .inr (by rw [hrr k e]; intro e; cases e)

set_option maxHeartbeats 8000000 in
set_option maxRecDepth 100000 in
theorem load_ok (hnx : nx ≤ 4611686018427387904) : ∀ F, LoadOk a ar g bs nx F := by
  intro F
  induction F with
  | zero =>
    intro w R L B dv hv tv s h hF
    have h1 := h.len
    have h2 := h.cnt
    omega
  | succ F ih =>
    intro w R L B dv hv tv s h hF
    have HL := hidden h
    have HIH := hidden ih
    have HFI := hidden hF
    have HR : Hid (headO bs nx s = if nx ≤ val (tk bs s.p s.y 8).1 ∨ 1 < val (ldK bs s).1 ∨ (ldG bs s).1.f ≠ 15 then none
      else if val (tk bs s.p s.y 8).1 ∈ s.ids ∨ 200 ≤ s.ids.length then none
      else some (⟨val (tk bs s.p s.y 8).1, decide (val (ldK bs s).1 = 1), (ldG bs s).1, []⟩, ⟨(ldG bs s).2.1, (ldG bs s).2.2, val (tk bs s.p s.y 8).1 :: s.ids, s.z⟩)) := rfl
    have HRR := hidden (loadO_eq bs nx F s)
    generalize loadO bs nx (F + 1) s = rr at HRR ⊢
    have HU := hidden (u64_r w h.rd)
    have HY : Hid (∀ W, WR W ar g bs (tk bs s.p s.y 8).2.1 (tk bs s.p s.y 8).2.2 → _) := fun W hW => byte_r W hW
    rw [show tk bs (tk bs s.p s.y 8).2.1 (tk bs s.p s.y 8).2.2 1 = ldK bs s from rfl] at HY
    have HG : Hid (∀ W, WR W ar g bs (ldK bs s).2.1 (ldK bs s).2.2 → _) := fun W hW => get_c W hW
    rw [show getA bs (ldK bs s).2.1 (ldK bs s).2.2 = ldG bs s from rfl] at HG
    clear h ih hF
    go_enter Try.func47, Try.ntmps47
    go_wp2_with fail
    refine HU.out.mono ?_
    rintro e w1 ⟨rfl, ht1⟩
    have HL1 := hidden (HL.out.took ht1)
    have HK1 := hidden ht1.keeps
    clear ht1
    go_wp2_with fail
    refine (HY.out w1 HL1.out.rd).mono ?_
    rintro e w2 ⟨rfl, ht2⟩
    have HL2 := hidden (HL1.out.took ht2)
    have HK2 : Hid (Keeps (fun k => k = ar) w w2) := HK1.out.trans ht2.keeps
    clear ht2
    obtain ⟨v, hv0⟩ : ∃ v, v = val (tk bs s.p s.y 8).1 := ⟨_, rfl⟩
    obtain ⟨kd, hkd⟩ : ∃ kd, kd = val (ldK bs s).1 := ⟨_, rfl⟩
    rw [← hv0, ← hkd] at HR ⊢
    obtain ⟨iv, hiv⟩ : ∃ iv : Int, wrap64 (v : Int) = iv := ⟨_, rfl⟩
    have HIV := hidden hiv
    have hnw : IntKind.u64.wrap (nx : Int) = (nx : Int) := by simp [IntKind.wrap, IntKind.bits, IntKind.signed]; omega
    clear hv0 hkd
    go_wp2_with fail
    refine (HG.out w2 HL2.out.rd).mono ?_
    rintro e w3 ⟨rfl, ht3⟩
    have HL3 := hidden (HL2.out.took ht3)
    have HK3 : Hid (Keeps (fun k => k = ar) w w3) := HK2.out.trans ht3.keeps
    clear ht3
    obtain ⟨A, hA⟩ : ∃ A, A = (ldG bs s).1 := ⟨_, rfl⟩
    rw [← hA] at HR ⊢
    rw [show A.v = .agg #[.int .u32 A.f, .int .u64 A.s, .int .u32 A.u, .int .u32 A.g, .int .u32 A.m, .int .u32 A.a, .int .u32 A.t] from rfl]
    have HA := hidden hA
    clear hA
    go_upto_region 3 with fail
    have hblk := heap_alloc_new w3 (.cells #[.int .i64 iv, .bool ((kd : Int) == 1), .int .u32 A.f, .int .u64 A.s, .int .u32 A.u, .int .u32 A.g, .int .u32 A.m, .int .u32 A.a, .int .u32 A.t, .slice none 0 0, .slice none 0 0] 73)
    have hkA := (Keeps.refl (fun _ => False) w3).alloc (.cells #[.int .i64 iv, .bool ((kd : Int) == 1), .int .u32 A.f, .int .u64 A.s, .int .u32 A.u, .int .u32 A.g, .int .u32 A.m, .int .u32 A.a, .int .u32 A.t, .slice none 0 0, .slice none 0 0] 73)
    have HL4 := hidden (HL3.out.still hkA)
    have hg0 := lt_of_block hblk
    have hgw := HK3.out.size
    have hno : R w3.heap.size = .no := by
      by_cases e : R w3.heap.size = .no
      · exact e
      · have := HL3.out.tx.lim _ e; omega
    have HK4 : Hid (Keeps (fun k => k = ar) w (w3.alloc (.cells #[.int .i64 iv, .bool ((kd : Int) == 1), .int .u32 A.f, .int .u64 A.s, .int .u32 A.u, .int .u32 A.g, .int .u32 A.m, .int .u32 A.a, .int .u32 A.t, .slice none 0 0, .slice none 0 0] 73))) := HK3.out.alloc _
    generalize w3.alloc (.cells #[.int .i64 iv, .bool ((kd : Int) == 1), .int .u32 A.f, .int .u64 A.s, .int .u32 A.u, .int .u32 A.g, .int .u32 A.m, .int .u32 A.a, .int .u32 A.t, .slice none 0 0, .slice none 0 0] 73) = w4 at hblk hkA HL4 hg0 HK4 ⊢
    generalize w3.heap.size = h0 at hblk hg0 hgw hno ⊢
    have hnx1 := HL4.out.tx.t1
    have hf2 : w4.cell? ⟨h0, 2, none⟩ = some (.int .u32 A.f) := by simp [World.cell?, hblk]
    have HM4 : Hid (MvR ar R R w w4) := MvR.took HK4.out
    clear hkA
    by_cases hb1 : nx ≤ v
    · have hi1 : (nx : Int) ≤ (v : Int) := by omega
      have hn : rr = none := by rw [HRR.out, HR.out, if_pos (.inl hb1)]
      subst hn
      clear hiv
      go_wp2_with fail
      go_ret2
      exact ⟨rfl, R, HM4.out⟩
    · have hi1 : ¬ (nx : Int) ≤ (v : Int) := by omega
      by_cases hb2 : 1 < kd
      · have hi2 : (1 : Int) < (kd : Int) := by omega
        have hn : rr = none := by rw [HRR.out, HR.out, if_pos (.inr (.inl hb2))]
        subst hn
        clear hiv
        go_wp2_with fail
        go_ret2
        exact ⟨rfl, R, HM4.out⟩
      · have hi2 : ¬ (1 : Int) < (kd : Int) := by omega
        by_cases hb3 : A.f = 15
        · have hi3 : ((A.f : Int) != 15) = false := by simp; omega
          have hr1 := HR.out
          rw [if_neg (by rintro (h | h | h); exact hb1 h; exact hb2 h; exact h hb3)] at hr1
          have HR1 := hidden hr1
          have hive : iv = (v : Int) := by rw [← HIV.out]; unfold wrap64; omega
          clear hiv hr1 hb3
          subst hive
          obtain ⟨x0, hx0⟩ : ∃ x0 : Th, x0 = ⟨v, decide (kd = 1), A, [], []⟩ := ⟨_, rfl⟩
          have hid0 : x0.id = v := by rw [hx0]
          have hb4 : ThB w4 x0 h0 (.slice none 0 0) (.slice none 0 0) := by
            have e : ((kd : Int) == 1) = decide (kd = 1) := by rw [Bool.eq_iff_iff]; simp; omega
            rw [e] at hblk
            rw [hx0]
            exact hblk
          have HB4 := hidden hb4
          have HREM := hidden (remember_c HL4.out.tx HL4.out.inc HL4.out.cnt hb4 hno)
          have HX0 := hidden hx0
          have HID0 := hidden hid0
          have hcond : ((findT (⟨L, nx⟩ : Tr).ths (x0.id : Int)).isSome = true ∨ 200 ≤ (⟨L, nx⟩ : Tr).ths.length) ↔ (v ∈ s.ids ∨ 200 ≤ s.ids.length) := by
            rw [hid0, findT_ids HL.out v, show (⟨L, nx⟩ : Tr).ths.length = s.ids.length from HL.out.len]
          clear hb4 hx0 hblk hid0
          go_wp2_with fail
          refine HREM.out.mono ?_
          intro e w5 h5
          by_cases hc2 : v ∈ s.ids ∨ 200 ≤ s.ids.length
          · rw [if_pos (hcond.2 hc2)] at h5
            obtain ⟨rfl, hb5⟩ := h5
            have hn : rr = none := by rw [HRR.out, HR1.out, if_pos hc2]
            subst hn
            clear hcond hc2
            go_wp2_with fail
            go_ret2
            exact ⟨rfl, R, HM4.out.trans (MvR.fresh hb5)⟩
          · rw [if_neg (fun h => hc2 (hcond.1 h))] at h5
            obtain ⟨rfl, tv', htop5, hrow5, hk5, hat5⟩ := h5
            have hr2 := HR1.out
            rw [if_neg hc2] at hr2
            obtain ⟨R5, hS5, hm5⟩ := HL.out.put (x := x0) (by rw [HID0.out]; exact fun h => hc2 (.inl h)) (by omega) (by rw [HX0.out]) (by rw [HX0.out]) hgw HL4.out.rd HK4.out HB4.out htop5 hrow5 hk5 hat5
            rw [HID0.out] at hS5
            have HS5 := hidden hS5
            have HM5 := hidden hm5
            have HR2 := hidden hr2
            have HNI := hidden (fun h => hc2 (.inl h) : v ∉ s.ids)
            have hx05 : x0 ∈ insT L x0 := (mem_insT L x0 x0).2 (.inr rfl)
            have HX05 := hidden hx05
            have hB5 : upd B v h0 x0.id = h0 := by rw [HID0.out, upd_self]
            have HD5 := hidden (loadData_c hS5 hx05 (by rw [HX0.out]))
            rw [hB5, HID0.out] at HD5
            clear hcond hc2 htop5 hrow5 hk5 hat5 hr2 hS5 hm5 hx05
            go_wp2_with fail
            refine HD5.out.mono ?_
            intro e w6 h6
            have hxd : x0.dir = decide (kd = 1) := by rw [HX0.out]
            have hxa : x0.a = A := by rw [HX0.out]
            rw [hxd, hxa] at h6
            have HXD := hidden hxd
            have HXA := hidden hxa
            clear hxd hxa
            cases hdat : dataO bs ⟨v, decide (kd = 1), A, []⟩ ⟨(ldG bs s).2.1, (ldG bs s).2.2, v :: s.ids, s.z⟩ with
            | none =>
              rw [hdat] at h6
              obtain ⟨rfl, hm6⟩ := h6
              have hn : rr = none := by rw [HRR.out, HR2.out]; simp only [hdat]
              subst hn
              clear hdat
              go_wp2_with fail
              go_ret2
              exact ⟨rfl, R5, HM5.out.trans hm6⟩
            | some q =>
              obtain ⟨y, s6⟩ := q
              rw [hdat] at h6
              obtain ⟨rfl, R6, dv6, hv6, hS6, hm6⟩ := h6
              obtain ⟨y1, y2, y3, y4⟩ := data_same hdat
              have y1 : y.id = v := y1
              have y2 : y.dir = decide (kd = 1) := y2
              have y3 : y.a = A := y3
              have y4 : s6.ids = v :: s.ids := y4
              obtain ⟨x6, hx6⟩ : ∃ x6, x6 = setD y.d x0 := ⟨_, rfl⟩
              have hx6m : x6 ∈ setT (insT L x0) v (setD y.d) := mem_setT.2 ⟨x0, HX05.out, by rw [if_pos HID0.out, hx6]⟩
              have hx6i : x6.id = v := by rw [hx6]; exact HID0.out
              have hx6h : x6.h = [] := by rw [hx6]; show x0.h = []; rw [HX0.out]
              have hx6d : x6.dir = y.dir := by rw [hx6, y2]; exact HXD.out
              have HHD := hidden (loadHeld_c HIH.out hS6 hx6m hx6h (by have := HFI.out; rw [y4, List.length_cons]; omega))
              rw [hx6i, hx6d, upd_self] at HHD
              have HD := hidden hdat
              have HX6 : Hid (x6 = setH [] (setD y.d x0) ∧ x6.id = v ∧ y.id = v ∧ (∀ k, setH k.heads x6 = thH y k) ∧ x6 ∈ setT (insT L x0) v (setD y.d)) := ⟨by rw [hx6]; unfold setH setD; rw [HX0.out], hx6i, y1, fun k => by
                rw [hx6]
                unfold setH setD thH
                rw [HID0.out, HXD.out, HXA.out, y1, y2, y3], hx6m⟩
              have HM6 := hidden (HM5.out.trans hm6)
              clear hx6 hx6m hx6i hx6h hx6d y1 y2 y3 y4 hm6 hS6 hdat
              go_wp2_with fail
              refine HHD.out.mono ?_
              intro e w7 h7
              cases hhl : heldO bs nx F y.dir s6 with
              | none =>
                rw [hhl] at h7
                obtain ⟨rfl, R7, hm7⟩ := h7
                have hn : rr = none := by rw [HRR.out, HR2.out]; simp only [HD.out, hhl]
                subst hn
                clear hhl
                go_wp2_with fail
                go_ret2
                exact ⟨rfl, R7, HM6.out.trans hm7⟩
              | some q =>
                obtain ⟨k, s7⟩ := q
                rw [hhl] at h7
                obtain ⟨rfl, R7, L7, B7, dv7, hv7, tv7, hS7, hm7, hmem7, hB7⟩ := h7
                have hn : rr = some (y, k, s7) := by rw [HRR.out, HR2.out]; simp only [HD.out, hhl]
                subst hn
                have HF : Hid (LS w7 R7 a ar g bs nx L7 B7 dv7 hv7 tv7 s7 ∧ MvR ar R R7 w w7 ∧ (∀ z, z ∈ L7 ↔ z ∈ L ∨ z = thH y k ∨ z ∈ k.ths) ∧ (∀ z ∈ L, B7 z.id = B z.id) ∧ B7 y.id = h0) := by
                  obtain ⟨e0, e1, e2, e3, e4⟩ := HX6.out
                  have hnl : ∀ z ∈ L, z.id ≠ v := fun z hz e => HNI.out ((HL.out.ids v).2 ⟨z, hz, e⟩)
                  have hin : ∀ z, (z ∈ setT (insT L x0) v (setD y.d) ∧ z.id ≠ v) ↔ z ∈ L := fun z => by
                    rw [mem_setT]
                    constructor
                    · rintro ⟨⟨u, hu, rfl⟩, hne⟩
                      by_cases e : u.id = v
                      · rw [if_pos e] at hne; exact absurd e hne
                      · rw [if_neg e]
                        rcases (mem_insT L x0 u).1 hu with h | h
                        · exact h
                        · exact absurd (by rw [h]; exact HID0.out) e
                    · intro hz
                      exact ⟨⟨z, (mem_insT L x0 z).2 (.inl hz), by rw [if_neg (hnl z hz)]⟩, hnl z hz⟩
                  refine ⟨hS7, HM6.out.trans hm7, fun z => ?_, fun z hz => ?_, ?_⟩
                  · rw [hmem7 z, e1, hin z, e3 k]
                  · rw [hB7 z ((hin z).2 hz).1, upd_ne _ _ (hnl z hz)]
                  · have := hB7 _ e4
                    rw [e1, upd_self] at this
                    rw [e2, this]
                clear hS7 hm7 hmem7 hB7 hhl
                go_wp2_with fail
                go_ret2
                obtain ⟨q1, q2, q3, q4, q5⟩ := HF.out
                exact ⟨R7, L7, B7, dv7, hv7, tv7, by rw [q5]; rfl, q1, q2, q3, q4⟩
        · have hi3 : ((A.f : Int) != 15) = true := by simp; omega
          have hn : rr = none := by rw [HRR.out, HR.out, if_pos (.inr (.inr hb3))]
          subst hn
          clear hiv hb3
          go_wp2_with fail
          go_ret2
          exact ⟨rfl, R, HM4.out⟩
end

/-- Could Make have come to that next number? -/
def reachP (nx : Nat) (ids : List Nat) : Bool := decide (ids.length < 200) || decide (nx - 1 ∈ ids)
/-- What Load takes: the next number, the root, what it holds. -/
def loadT (b : List UInt8) : Option (Nat × Hd × Fo) :=
  if 4611686018427387903 < val (tk b 0 0 8).1 then none
  else match loadO b (val (tk b 0 0 8).1) 201 ⟨(tk b 0 0 8).2.1, (tk b 0 0 8).2.2, [], 0⟩ with
    | none => none
    | some (x, k, s) => if x.id ≠ 0 ∨ x.dir = false ∨ reachP (val (tk b 0 0 8).1) s.ids = false ∨ (ends b s.p s.y).1 ≠ 0 then none else some (val (tk b 0 0 8).1, x, k)
/-- What is loaded is a tree, and saves as it was read. -/
theorem loadT_tree {b : List UInt8} {nx : Nat} {x : Hd} {k : Fo} (h : loadT b = some (nx, x, k)) {L : List Th} (inc : Inc L) (hm : ∀ z, z ∈ L ↔ z = thH x k ∨ z ∈ k.ths) :
    (∃ pa nm, Ok ⟨L, nx⟩ pa nm) ∧ savesTo ⟨L, nx⟩ b ∧ nx ≤ 4611686018427387903 ∧ (L.length < 200 ∨ ∃ z ∈ L, z.id + 1 = nx) := by
  unfold loadT at h
  split at h
  · cases h
  next hn =>
  split at h
  · cases h
  next x' k' s hl =>
  split at h
  · cases h
  next hc =>
  obtain ⟨q1, q2⟩ := Prod.mk.inj (Option.some.inj h)
  obtain ⟨q3, q4⟩ := Prod.mk.inj q2
  subst q3 q4
  have hr := load_read 201 _ _ _ _ hl
  rw [q1] at hr hn hc hl
  have hx0 : x'.id = 0 := Classical.not_not.1 fun e => hc (.inl e)
  have hxd : x'.dir = true := by cases e : x'.dir with | true => rfl | false => exact absurd (.inr (.inl e)) hc
  have hrp : reachP nx s.ids = true := by cases e : reachP nx s.ids with | true => rfl | false => exact absurd (.inr (.inr (.inl e))) hc
  have hen : (ends b s.p s.y).1 = 0 := Classical.not_not.1 fun e => hc (.inr (.inr (.inr e)))
  unfold ends at hen
  by_cases hy : s.y = 0
  · rw [if_pos hy] at hen
    have hp : b.length ≤ s.p := by
      split at hen
      · cases hen
      · omega
    obtain ⟨f1, f2, f3, f4, f5⟩ := hr.fin hy
    obtain ⟨t1, t2, t3⟩ := tk_fin f1
    have hids : s.ids = k'.push [x'.id] := hr.ids
    have hperm := k'.push_perm [x'.id]
    have hnod := hr.nod List.nodup_nil
    rw [hids] at hnod
    have hn2 : (x'.id :: k'.ids).Nodup := by
      have := (hperm.nodup_iff).1 hnod
      have := nodup_mid.1 this
      simpa using this
    have hlen : (x'.id :: k'.ids).length ≤ 200 := by
      have := hr.cnt (Nat.zero_le _)
      rw [hids, hperm.length_eq, List.length_append, List.length_singleton] at this
      rw [List.length_cons]; exact this
    have hlt : ∀ i ∈ x'.id :: k'.ids, i < nx := fun i hi => by
      rcases List.mem_cons.1 hi with rfl | hi
      · exact hr.lt.1
      · exact hr.lt.2 i hi
    have hz := hr.zle (Nat.zero_le _)
    rw [hr.z] at hz
    obtain ⟨g1, g2⟩ := Fo.tree f3 hxd hx0 f5 hn2 hlen hlt (by simpa using hz) inc hm
    refine ⟨g1, ?_, by omega, ?_⟩
    · have hb : b = be 8 nx ++ (hdrB (thH x' k') ++ k'.save) := by
        have e1 := t3.1
        rw [List.drop_zero] at e1
        have e2 := f2.1
        simp only at e2
        rw [List.drop_of_length_le hp, List.append_nil] at e2
        rw [e2, ← be_val t2, q1] at e1
        exact e1
      rw [hb]; exact g2
    · unfold reachP at hrp
      simp only [Bool.or_eq_true, decide_eq_true_eq] at hrp
      have hLl : L.length = s.ids.length := by
        have hpm : L.Perm (thH x' k' :: k'.ths) := (List.perm_ext_iff_of_nodup (nodup_of_ids inc.nodup) (nodup_of_ids (by rw [List.map_cons, k'.ths_ids]; exact hn2))).2 fun z => by rw [hm, List.mem_cons]
        rw [hpm.length_eq, hids, hperm.length_eq, List.length_append, List.length_cons, List.length_singleton]
        have := congrArg List.length k'.ths_ids
        rw [List.length_map] at this
        omega
      rcases hrp with h1 | h1
      · exact .inl (by rw [hLl]; exact h1)
      · right
        rw [hids] at h1
        have h2 := hperm.mem_iff.1 h1
        have hlt0 := hr.lt.1
        rcases List.mem_append.1 h2 with h3 | h3
        · rw [← k'.ths_ids] at h3
          obtain ⟨z, hz, e⟩ := List.mem_map.1 h3
          exact ⟨z, (hm z).2 (.inr hz), by omega⟩
        · rw [List.mem_singleton] at h3
          exact ⟨thH x' k', (hm _).2 (.inl rfl), by show x'.id + 1 = nx; omega⟩
  · rw [if_neg hy] at hen
    exact absurd hen hy

section
variable {w : World} {R : Nat → Role} {a : Nat} {nx : Nat} {L : List Th} {B : Nat → Nat} {dv hv : Nat → Value} {tv : Value}
theorem inc_last {l : List Th} (hi : Inc l) (hne : l ≠ []) : ∀ z ∈ l, z.id ≤ (l.getLast hne).id := by
  intro z hz
  obtain ⟨k, hk, rfl⟩ := List.mem_iff_getElem.1 hz
  rw [List.getLast_eq_getElem]
  rcases Nat.lt_or_ge k (l.length - 1) with h | h
  · exact Nat.le_of_lt (List.pairwise_iff_getElem.1 hi k (l.length - 1) hk (by omega) h)
  · have : k = l.length - 1 := by omega
    subst this
    exact Nat.le_refl _
set_option maxHeartbeats 2000000 in
set_option maxRecDepth 100000 in
theorem reaches_c (H : TXb w R a ⟨L, nx⟩ B dv hv tv) (hne : L ≠ []) (hlt : ∀ z ∈ L, z.id < nx) (hnx : nx ≤ 4611686018427387904) :
    Calls Try.prog 48 #[.pointer (some ⟨a, 0, none⟩)] w fun e w' => e = .returned (.bool (decide (L.length < 200) || decide (nx = (L.getLast hne).id + 1))) ∧ Keeps (fun _ => False) w w' := by
  have c0 := H.t0
  have c1 := H.t1
  have hl := List.length_pos_iff.2 hne
  obtain ⟨ao, cap, rfl, hcc, hcm, hga⟩ := H.prow.shape
  obtain ⟨g, rfl⟩ := hga hne
  obtain ⟨d0, d1⟩ := H.prow.at (L.length - 1) (by show L.length - 1 < L.length; omega)
  have hla : L[L.length - 1]'(by omega) = L.getLast hne := (List.getLast_eq_getElem hne).symm
  rw [show (⟨L, nx⟩ : Tr).ths[L.length - 1]'(by show L.length - 1 < L.length; omega) = L.getLast hne from hla] at d0 d1
  have hzl := hlt _ (List.getLast_mem hne)
  generalize L.getLast hne = z at d0 d1 hzl ⊢
  unfold maxLen at hcm
  obtain ⟨m, hm⟩ : ∃ m, L.length = m + 1 := ⟨L.length - 1, by omega⟩
  rw [show (⟨L, nx⟩ : Tr).ths.length = m + 1 from hm] at c0 hcc
  have c1 : w.cell? ⟨a, 1, none⟩ = some (.int .i64 nx) := c1
  rw [hm, Nat.add_sub_cancel] at d0
  rw [hm]
  have q1 : ((m : Int) + 1 - 1) = (m : Int) := by omega
  have hwm : IntKind.i64.wrap (m : Int) = (m : Int) := by rw [IntKind.wrap_i64]; omega
  have q2 : (m : Int) < (m : Int) + 1 := by omega
  clear H hm hla hl hlt hga
  by_cases h2 : m + 1 < 200
  · have hi : (m : Int) + 1 < 200 := by omega
    rw [decide_eq_true h2]
    go_enter Try.func48, Try.ntmps48
    go_wp2
    go_quiet (fail)
    go_wp2
    go_ret
    exact ⟨rfl, (Keeps.refl _ _).drewN nq⟩
  · have hi : ¬ (m : Int) + 1 < 200 := by omega
    rw [decide_eq_false h2]
    have hadd : IntKind.i64.wrap ((z.id : Int) + 1) = (z.id : Int) + 1 := by rw [IntKind.wrap_i64]; omega
    have hq : ((nx : Int) == (z.id : Int) + 1) = decide (nx = z.id + 1) := by rw [Bool.eq_iff_iff]; simp; omega
    generalize decide (nx = z.id + 1) = bq at hq ⊢
    go_enter Try.func48, Try.ntmps48
    go_wp2
    go_quiet (fail)
    go_wp2
    go_ret
    refine ⟨?_, (Keeps.refl _ _).drewN nq⟩
    show Ending.returned (.bool (decide ((m : Int) + 1 < 200) || bq)) = _
    rw [decide_eq_false (by omega)]

/-- What Load leaves. -/
def LoadPost (b : List UInt8) (w : World) (e : Ending) (w' : World) : Prop := match loadT b with
  | none => e = .returned (.tuple #[.pointer none, .int .i64 12]) ∧ Below w.heap.size w w'
  | some (nx, x, k) => ∃ R a S, e = .returned (.tuple #[.pointer (some ⟨a, 0, none⟩), .int .i64 0]) ∧ TS w.heap.size w' R a S ∧ Below w.heap.size w w' ∧ S.next = nx ∧ (∀ z, z ∈ S.ths ↔ z = thH x k ∨ z ∈ k.ths)
theorem MvR.below {ar base : Nat} {R R' : Nat → Role} {w w' : World} (h : MvR ar R R' w w') (hb : base ≤ w.heap.size) (hr : base ≤ ar) (hR : ∀ k, k < base → R k = .no) : Below base w w' :=
  h.keeps.below hb fun k hk => by
    rcases hk with hk | hk
    · omega
    · rcases Nat.lt_or_ge k base with hl | hl
      · exact absurd (hR k hl) hk
      · exact hl
set_option maxHeartbeats 8000000 in
set_option maxRecDepth 100000 in
theorem load_c (v : Value) (b : List UInt8) (w : World) (hv : BSl w v b) (hl : b.length ≤ 140737488355328) :
    Calls Try.prog 22 #[v] w (LoadPost b w) := by
  have HP : Hid (LoadPost b w = fun e w' => match loadT b with
    | none => e = .returned (.tuple #[.pointer none, .int .i64 12]) ∧ Below w.heap.size w w'
    | some (nx, x, k) => ∃ R a S, e = .returned (.tuple #[.pointer (some ⟨a, 0, none⟩), .int .i64 0]) ∧ TS w.heap.size w' R a S ∧ Below w.heap.size w w' ∧ S.next = nx ∧ (∀ z, z ∈ S.ths ↔ z = thH x k ∨ z ∈ k.ths)) := rfl
  have HT : Hid (loadT b = if 4611686018427387903 < val (tk b 0 0 8).1 then none
    else match loadO b (val (tk b 0 0 8).1) 201 ⟨(tk b 0 0 8).2.1, (tk b 0 0 8).2.2, [], 0⟩ with
      | none => none
      | some (x, k, s) => if x.id ≠ 0 ∨ x.dir = false ∨ reachP (val (tk b 0 0 8).1) s.ids = false ∨ (ends b s.p s.y).1 ≠ 0 then none else some (val (tk b 0 0 8).1, x, k)) := rfl
  have HTR : Hid (∀ nx x k, loadT b = some (nx, x, k) → ∀ L : List Th, Inc L → (∀ z, z ∈ L ↔ z = thH x k ∨ z ∈ k.ths) → ∃ pa nm, Ok ⟨L, nx⟩ pa nm) := fun nx x k h L inc hm => (loadT_tree h inc hm).1
  generalize hQ : LoadPost b w = Q at HP ⊢
  generalize loadT b = rr at HP HT HTR
  clear hQ
  have HV := hidden hv
  go_enter Try.func22, Try.ntmps22
  go_wp2_with fail
  refine (newReader_c v b w HV.out hl).mono ?_
  rintro e w1 ⟨ar, g, rfl, hr1, har, hg1, hb1⟩
  have HU := hidden (u64_r w1 hr1)
  generalize tk b 0 0 8 = t at HT HU
  have HR1 := hidden hr1
  have HB1 := hidden hb1
  clear hr1 hb1
  go_wp2_with fail
  refine HU.out.mono ?_
  rintro e w2 ⟨rfl, ht2⟩
  have HR2 := hidden ht2.state
  have HB2 : Hid (Below w.heap.size w w2) := HB1.out.trans (ht2.keeps.below HB1.out.size fun k h => by rw [h]; exact har)
  clear ht2
  obtain ⟨nx, hnx⟩ : ∃ nx, nx = val t.1 := ⟨_, rfl⟩
  rw [← hnx] at HT ⊢
  clear hnx
  by_cases hbig : 4611686018427387903 < nx
  · have hi : (4611686018427387903 : Int) < (nx : Int) := by omega
    have hr := HT.out
    rw [if_pos hbig] at hr
    subst hr
    clear hbig
    go_wp2_with fail
    rw [HP.out]
    exact ⟨rfl, HB2.out⟩
  · have hi : ¬ (4611686018427387903 : Int) < (nx : Int) := by omega
    have hr := HT.out
    rw [if_neg hbig] at hr
    have HT2 := hidden hr
    have hnl : nx ≤ 4611686018427387903 := by omega
    clear hbig hr
    have hcv : IntKind.i64.wrap (nx : Int) = (nx : Int) := by rw [IntKind.wrap_i64]; omega
    go_wp2_with fail
    have hr2 := HR2.out
    have hblk := heap_alloc_new w2 (.cells #[.slice none 0 0, .int .i64 nx, .int .i64 0] 65)
    have HB3 := hidden (HB2.out.alloc HB2.out.size (.cells #[.slice none 0 0, .int .i64 nx, .int .i64 0] 65))
    have hr3 : WR (w2.alloc (.cells #[.slice none 0 0, .int .i64 nx, .int .i64 0] 65)) ar g b t.2.1 t.2.2 := hr2.same ((Keeps.refl _ w2).alloc _)
    have haw := HB2.out.size
    have hara : ar ≠ w2.heap.size := by have := hr2.lt; omega
    have hga := hr2.apartB (Nat.le_refl w2.heap.size)
    generalize w2.alloc (.cells #[.slice none 0 0, .int .i64 nx, .int .i64 0] 65) = w3 at hblk HB3 hr3 ⊢
    generalize w2.heap.size = a at hblk haw hara hga ⊢
    have hla := lt_of_block hblk
    obtain ⟨R, hR⟩ : ∃ R : Nat → Role, R = fun k => if k = a then .tree else .no := ⟨_, rfl⟩
    have hRa : R a = .tree := by rw [hR]; exact if_pos rfl
    have hRn : ∀ k, k ≠ a → R k = .no := fun k h => by rw [hR]; exact if_neg h
    have hLS : LS w3 R a ar g b nx [] (fun _ => 0) (fun _ => .slice none 0 0) (fun _ => .slice none 0 0) (.slice none 0 0) ⟨t.2.1, t.2.2, [], 0⟩ := by
      refine ⟨⟨hblk, hRa, World.ownsRow_nil _ _ _ _, ?_, ?_, ?_, ?_, ?_, ?_, ?_, ?_⟩, hr3, hRn ar hara, fun hb k e => hRn k (hga hb k e), List.Pairwise.nil, ?_, List.nodup_nil, rfl, Nat.zero_le _, rfl, Nat.zero_le _, ?_⟩
      · intro k e; cases e
      · intro x hx; cases hx
      · intro x hx; cases hx
      · intro x hx; cases hx
      · intro x hx; cases hx
      · intro x hx; cases hx
      · intro x hx; cases hx
      · intro k e
        by_cases h : k = a
        · rw [h]; exact hla
        · exact absurd (hRn k h) e
      · intro i
        constructor
        · intro h; cases h
        · rintro ⟨z, hz, _⟩; cases hz
      · intro y hy; cases hy
    have HLD := hidden (load_ok (by omega) 201 w3 R [] _ _ _ _ _ hLS (Nat.le_refl _))
    have HRN : Hid (∀ k, k < w.heap.size → R k = .no) := fun k hk => hRn k (by omega)
    clear hr2 hr3 hLS hR hRa hRn hga hblk
    go_wp2_with fail
    refine HLD.out.mono ?_
    intro e w4 h4
    cases hld : loadO b nx 201 ⟨t.2.1, t.2.2, [], 0⟩ with
    | none =>
      rw [hld] at h4
      obtain ⟨rfl, R4, hm4⟩ := h4
      have hr := HT2.out
      rw [hld] at hr
      have HB4 := hidden (HB3.out.trans (hm4.below HB3.out.size har HRN.out))
      simp only at hr
      subst hr
      clear hld hm4
      go_wp2_with fail
      rw [HP.out]
      exact ⟨rfl, HB4.out⟩
    | some q =>
      obtain ⟨x, k, s'⟩ := q
      rw [hld] at h4
      obtain ⟨R4, L4, B4, dv4, hv4, tv4, rfl, hS4, hm4, hmem4, _⟩ := h4
      have HB4 := hidden (HB3.out.trans (hm4.below HB3.out.size har HRN.out))
      have hr := HT2.out
      rw [hld] at hr
      simp only at hr
      have hrd := load_read 201 _ _ _ _ hld
      have hmx : thH x k ∈ L4 := (hmem4 _).2 (.inr (.inl rfl))
      have hne : L4 ≠ [] := List.ne_nil_of_mem hmx
      have hlt4 : ∀ z ∈ L4, z.id < nx := fun z hz => by
        rcases (hmem4 z).1 hz with h | h | h
        · cases h
        · rw [h]; exact hrd.lt.1
        · exact hrd.lt.2 _ (Fo.id_mem h)
      have hrp : reachP nx s'.ids = (decide (L4.length < 200) || decide (nx = (L4.getLast hne).id + 1)) := by
        unfold reachP
        rw [hS4.len]
        congr 1
        rw [Bool.eq_iff_iff, decide_eq_true_iff, decide_eq_true_iff, hS4.ids]
        have h1 := hlt4 _ (List.getLast_mem hne)
        constructor
        · rintro ⟨z, hz, e⟩
          have h2 := inc_last hS4.inc hne z hz
          have h3 := hlt4 z hz
          omega
        · intro e
          exact ⟨_, List.getLast_mem hne, by omega⟩
      have HRC := hidden (reaches_c hS4.tx hne hlt4 (by omega))
      rw [← hrp] at HRC
      have d0 := (hS4.tx.th _ hmx).c0
      have d1 := (hS4.tx.th _ hmx).c1
      rw [show (thH x k).id = x.id from rfl] at d0 d1
      rw [show (thH x k).dir = x.dir from rfl] at d1
      have HS4 := hidden hS4
      have HM4 : Hid ((∀ z, z ∈ L4 ↔ z = thH x k ∨ z ∈ k.ths) ∧ ∀ k, k < w.heap.size → R4 k = .no) := ⟨fun z => by rw [hmem4]; simp, fun k hk => by rw [hm4.old k (by omega)]; exact HRN.out k hk⟩
      have HRR := hidden hr
      clear hrd hmem4 hm4 hS4 hld hr hlt4 hmx
      generalize reachP nx s'.ids = rc at HRR HRC
      by_cases h0 : x.id = 0
      · have h0i : ((x.id : Int) != 0) = false := by rw [h0]; rfl
        have H0 := hidden h0
        cases hdx : x.dir with
        | false =>
          have hr := HRR.out
          rw [if_pos (.inr (.inl hdx))] at hr
          subst hr
          rw [hdx] at d1
          clear h0
          go_wp2_with fail
          rw [HP.out]
          exact ⟨rfl, HB4.out⟩
        | true =>
          rw [hdx] at d1
          clear h0
          go_wp2_with fail
          refine HRC.out.mono ?_
          rintro e w5 ⟨rfl, hk5⟩
          have HS5 := hidden (HS4.out.still hk5)
          have HB5 : Hid (Below w.heap.size w w5) := HB4.out.trans (hk5.below HB4.out.size fun _ h => h.elim)
          clear hk5
          cases hrc : rc with
          | false =>
            have hr := HRR.out
            rw [if_pos (.inr (.inr (.inl hrc)))] at hr
            subst hr
            go_wp2_with fail
            rw [HP.out]
            exact ⟨rfl, HB5.out⟩
          | true =>
            have HE := hidden (end_r w5 HS5.out.rd)
            go_wp2_with fail
            refine HE.out.mono ?_
            rintro e w6 ⟨rfl, hk6⟩
            have HS6 := hidden (HS5.out.still hk6)
            have HB6 : Hid (Below w.heap.size w w6) := HB5.out.trans (hk6.below HB5.out.size fun _ h => h.elim)
            clear hk6
            obtain ⟨en, hen⟩ : ∃ en, en = (ends b s'.p s'.y).1 := ⟨_, rfl⟩
            rw [← hen] at HRR ⊢
            clear hen
            by_cases he : en = 0
            · have hei : (en != 0) = false := by rw [he]; rfl
              have hr := HRR.out
              rw [if_neg (by rw [hdx, hrc]; rintro (h | h | h | h); exact h H0.out; cases h; cases h; exact h he)] at hr
              have hok := HTR.out nx x k hr L4 HS6.out.inc HM4.out.1
              have hts : TS w.heap.size w6 R4 a ⟨L4, nx⟩ := ⟨⟨_, _, _, _, HS6.out.tx⟩, hok, HM4.out.2⟩
              have HTS := hidden hts
              subst hr
              clear he hts hok
              go_wp2_with fail
              rw [HP.out]
              exact ⟨R4, a, ⟨L4, nx⟩, rfl, HTS.out, HB6.out, rfl, HM4.out.1⟩
            · have hei : (en != 0) = true := by simp [he]
              have hr := HRR.out
              rw [if_pos (.inr (.inr (.inr he)))] at hr
              subst hr
              clear he
              go_wp2_with fail
              rw [HP.out]
              exact ⟨rfl, HB6.out⟩
      · have h0i : ((x.id : Int) != 0) = true := by simp; omega
        have hr := HRR.out
        rw [if_pos (.inl h0)] at hr
        subst hr
        clear h0
        go_wp2_with fail
        rw [HP.out]
        exact ⟨rfl, HB4.out⟩
end
open Go

section
variable {P : Program} {ops : Array Oper} {Q : Exit → Act → World → Prop}

/-- The operation, run where its operands read as ρ says, gives such a value in such a world. -/
def GivesM (P : Program) (o : Oper) (ρ : Operand → Value) (w : World) (Φ : Value → World → Prop) : Prop :=
  match (execOp ρ o).run P w with
  | .ok (.value v) w' => Φ v w'
  | .ok .skip w' => Φ undef w'
  | .ok (.enter f args) w' => Calls P f args w' fun e w'' => ∃ v, e = .returned v ∧ Φ v w''
  | _ => False
structure Gives (P : Program) (o : Oper) (ρ : Operand → Value) (w : World) (Φ : Value → World → Prop) : Prop where
  out : GivesM P o ρ w Φ
theorem Gives.value {o : Oper} {ρ : Operand → Value} {w w' : World} {v : Value} {Φ : Value → World → Prop} (hr : (execOp ρ o).run P w = .ok (.value v) w') (h : Φ v w') : Gives P o ρ w Φ := by
  refine ⟨?_⟩
  unfold GivesM
  rw [hr]
  exact h
theorem Gives.enter {o : Oper} {ρ : Operand → Value} {w w' : World} {f : FuncId} {args : Array Value} {Φ : Value → World → Prop} (hr : (execOp ρ o).run P w = .ok (.enter f args) w') (h : Calls P f args w' fun e w'' => ∃ v, e = .returned v ∧ Φ v w'') : Gives P o ρ w Φ := by
  refine ⟨?_⟩
  unfold GivesM
  rw [hr]
  exact h
theorem Gives.wp {o : Oper} {a : Act} {w : World} {Φ : Value → World → Prop} {K : Act → World → Prop} (h : Gives P o a.eval w Φ) (hK : ∀ v w', Φ v w' → K (a.put o.dst v) w') : o.wp P a w K Q := by
  have h := h.out
  unfold GivesM at h
  unfold Oper.wp
  cases hr : (execOp a.eval o).run P w with
  | ok n w1 =>
    rw [hr] at h
    cases n <;> simp only [Oper.upon] at h ⊢
    case value v => exact hK _ _ h
    case skip => exact hK _ _ h
    case enter f args => exact Calls.mono h fun e w'' ⟨v, hv, h2⟩ => by subst hv; exact hK _ _ h2
  | halt x w1 => rw [hr] at h; exact h.elim

def dstOf (ops : Array Oper) (k : Nat) : Option Tmp := (ops[k]?).bind (·.dst)
/-- The frame behind the operations that are listed. -/
def actsTo (ops : Array Oper) (a : Act) (listed : Nat → Bool) (vs : Nat → Value) : Nat → Act
  | 0 => a
  | k + 1 => if listed k then (actsTo ops a listed vs k).put (dstOf ops k) (vs k) else actsTo ops a listed vs k
theorem put_size (a : Act) (d : Option Tmp) (v : Value) : (a.put d v).tmps.size = a.tmps.size := by cases d <;> simp [Act.put]
theorem actsTo_size (a : Act) (listed : Nat → Bool) (vs : Nat → Value) (k : Nat) : (actsTo ops a listed vs k).tmps.size = a.tmps.size := by
  induction k with
  | zero => rfl
  | succ k ih =>
    unfold actsTo
    split
    · rw [put_size, ih]
    · exact ih
theorem actsTo_congr (a : Act) {l l' : Nat → Bool} {vs vs' : Nat → Value} (k : Nat) (h : ∀ j, j < k → l j = l' j ∧ vs j = vs' j) : actsTo ops a l vs k = actsTo ops a l' vs' k := by
  induction k with
  | zero => rfl
  | succ k ih =>
    unfold actsTo
    rw [(h k (by omega)).1, (h k (by omega)).2, ih (fun j hj => h j (by omega))]
def updG {α : Type} (f : Nat → α) (i : Nat) (x : α) : Nat → α := fun j => if j = i then x else f j
theorem actsTo_set (a : Act) (l : Nat → Bool) (vs : Nat → Value) (i : Nat) (v : Value) (hl : l i = false) (n : Nat) (hi : i < n)
    (hd : ∀ k, k < n → k ≠ i → ∀ d, dstOf ops i = some d → dstOf ops k ≠ some d) :
    actsTo ops a (updG l i true) (updG vs i v) n = (actsTo ops a l vs n).put (dstOf ops i) v := by
  induction n with
  | zero => omega
  | succ k ih =>
    unfold actsTo
    by_cases hk : k = i
    · subst hk
      have e : actsTo ops a (updG l k true) (updG vs k v) k = actsTo ops a l vs k := actsTo_congr a k fun j hj => by
        unfold updG
        rw [if_neg (by omega), if_neg (by omega)]
        exact ⟨rfl, rfl⟩
      rw [e, hl]
      simp [updG]
    · have h1 : updG l i true k = l k := by unfold updG; rw [if_neg hk]
      have h2 : updG vs i v k = vs k := by unfold updG; rw [if_neg hk]
      rw [h1, h2, ih (by omega) (fun j hj => hd j (by omega))]
      split
      · exact Act.put_comm _ _ _ (hd k (by omega) hk)
      · rfl
theorem eval_put_tmp (a : Act) (d : Option Tmp) (v : Value) (t : Tmp) : (a.put d v).eval (.tmp t) = if d = some t ∧ t < a.tmps.size then v else a.eval (.tmp t) := by
  cases d with
  | none => simp [Act.put]
  | some d =>
    by_cases h : d = t
    · subst h
      by_cases h2 : d < a.tmps.size
      · simp [Act.put, Act.eval, h2]
      · simp [Act.put, Act.eval, h2]
    · have : ¬ (some d = some t ∧ t < a.tmps.size) := by simp [h]
      rw [if_neg this]
      exact Act.eval_put fun d' hd' hx => by cases hd'; cases hx; exact h rfl
theorem actsTo_eval (a : Act) (l : Nat → Bool) (vs : Nat → Value) (n : Nat) (x : Operand) (h : ∀ j, j < n → ∀ t, x = .tmp t → dstOf ops j = some t → l j = true) :
    (actsTo ops a l vs n).eval x = (actsTo ops a (fun _ => true) vs n).eval x := by
  cases x with
  | tmp t =>
    induction n with
    | zero => rfl
    | succ k ih =>
      have ih' := ih (fun j hj => h j (by omega))
      unfold actsTo
      rw [if_pos rfl]
      by_cases hl : l k = true
      · rw [if_pos hl, eval_put_tmp, eval_put_tmp, actsTo_size, actsTo_size, ih']
      · rw [if_neg hl, eval_put_tmp, if_neg, ih']
        intro e
        exact hl (h k (by omega) t rfl e.1)
  | _ => rfl

/-- The operations that must come ahead of one. -/
def edgesOf (o : Oper) : List Nat := (o.after.toList.filter (Region.binds .any)).map (·.on)
/-- Does j come ahead of i, by at most so many edges? -/
def under (ops : Array Oper) : Nat → Nat → Nat → Bool
  | 0, _, _ => false
  | f + 1, i, j => match ops[i]? with
    | some o => (edgesOf o).any fun m => m == j || under ops f m j
    | none => false
def growOk (ops : Array Oper) (U : Nat) : Bool :=
  decide (U ≤ ops.size) &&
  (List.range ops.size).all (fun i => match ops[i]? with
    | some o => o.guard.isNone && (match o.op with | .select .. => false | _ => true) && (edgesOf o).all (· < i) &&
      (if i < U then
        (List.range U).all (fun j => (match dstOf ops j with
          | some d => (!(o.looksAt ops).contains d || (edgesOf o).contains j) && (j == i || o.dst != some d)
          | none => true))
       else (List.range U).all (fun j => under ops ops.size i j))
    | none => false)

structure GrowOk (ops : Array Oper) (U : Nat) : Prop where
  le : U ≤ ops.size
  guard : ∀ (i : Nat) (o : Oper), ops[i]? = some o → o.guard = none
  sel : ∀ (i : Nat) (o : Oper), ops[i]? = some o → ∀ cs b, o.op ≠ .select cs b
  down : ∀ (i : Nat) (o : Oper), ops[i]? = some o → ∀ j ∈ edgesOf o, j < i
  look : ∀ (i : Nat) (o : Oper), ops[i]? = some o → i < U → ∀ j, j < U → ∀ d, dstOf ops j = some d → d ∈ o.looksAt ops → j ∈ edgesOf o
  dst : ∀ (i : Nat) (o : Oper), ops[i]? = some o → i < U → ∀ j, j < U → j ≠ i → ∀ d, dstOf ops j = some d → o.dst ≠ some d
  late : ∀ (i : Nat) (o : Oper), ops[i]? = some o → U ≤ i → ∀ j, j < U → under ops ops.size i j = true
theorem growOk_spec {U : Nat} (h : growOk ops U = true) : GrowOk ops U := by
  unfold growOk at h
  rw [Bool.and_eq_true, decide_eq_true_eq, List.all_eq_true] at h
  obtain ⟨h0, h1⟩ := h
  have hi : ∀ (i : Nat) (o : Oper), ops[i]? = some o → i ∈ List.range ops.size := fun i o e => List.mem_range.2 (Array.getElem?_eq_some_iff.1 e).1
  have each := fun (i : Nat) (o : Oper) (e : ops[i]? = some o) => by
    have := h1 i (hi i o e)
    rw [e] at this
    simp only [Bool.and_eq_true, List.all_eq_true, decide_eq_true_eq] at this
    exact this
  refine ⟨h0, fun i o e => by simpa using (each i o e).1.1.1, fun i o e cs b hs => ?_, fun i o e j hj => (each i o e).1.2 j hj, fun i o e hU j hj d hd ho => ?_, fun i o e hU j hj hne d hd ho => ?_, fun i o e hU j hj => ?_⟩
  · have := (each i o e).1.1.2
    rw [hs] at this
    simp at this
  · have := (each i o e).2
    rw [if_pos hU, List.all_eq_true] at this
    have := this j (List.mem_range.2 hj)
    rw [hd] at this
    simp only [Bool.and_eq_true, Bool.or_eq_true, Bool.not_eq_true'] at this
    rcases this.1 with h2 | h2
    · have h3 : (o.looksAt ops).contains d = true := by simpa using ho
      rw [h3] at h2
      cases h2
    · simpa using h2
  · have := (each i o e).2
    rw [if_pos hU, List.all_eq_true] at this
    have := this j (List.mem_range.2 hj)
    rw [hd] at this
    simp only [Bool.and_eq_true, Bool.or_eq_true] at this
    rcases this.2 with h2 | h2
    · exact hne (by simpa using h2)
    · rw [ho] at h2
      simp at h2
  · have := (each i o e).2
    rw [if_neg (by omega), List.all_eq_true] at this
    exact this j (List.mem_range.2 hj)
theorem under_listed {l : Nat → Bool} (hc : ∀ (i : Nat) (o : Oper), ops[i]? = some o → l i = true → ∀ j ∈ edgesOf o, l j = true) : ∀ (f i j : Nat) (o : Oper), ops[i]? = some o → (∀ m ∈ edgesOf o, l m = true) → under ops f i j = true → l j = true
  | 0, i, j, o, _, _, h => by simp [under] at h
  | f + 1, i, j, o, ho, hm, h => by
    unfold under at h
    rw [ho] at h
    simp only [List.any_eq_true, Bool.or_eq_true, beq_iff_eq] at h
    obtain ⟨m, hme, h⟩ := h
    rcases h with rfl | h
    · exact hm m hme
    · cases hom : ops[m]? with
      | none =>
        cases f with
        | zero => simp [under] at h
        | succ f => unfold under at h; rw [hom] at h; simp at h
      | some om => exact under_listed hc f m j om hom (hc m om hom (hm m hme)) h

/-- How many of the first are listed. -/
def cntTo (l : Nat → Bool) : Nat → Nat
  | 0 => 0
  | k + 1 => cntTo l k + (if l k then 1 else 0)
theorem cntTo_le (l : Nat → Bool) (k : Nat) : cntTo l k ≤ k := by
  induction k with
  | zero => exact Nat.le_refl _
  | succ k ih => unfold cntTo; split <;> omega
theorem cntTo_updG_out (l : Nat → Bool) (i k : Nat) (h : k ≤ i) : cntTo (updG l i true) k = cntTo l k := by
  induction k with
  | zero => rfl
  | succ k ih =>
    have e : updG l i true k = l k := by unfold updG; rw [if_neg (by omega)]
    unfold cntTo
    rw [ih (by omega), e]
theorem cntTo_updG (l : Nat → Bool) (i k : Nat) (hi : i < k) (hl : l i = false) : cntTo (updG l i true) k = cntTo l k + 1 := by
  induction k with
  | zero => omega
  | succ k ih =>
    unfold cntTo
    by_cases h : k = i
    · subst h
      rw [cntTo_updG_out l k k (Nat.le_refl _), hl]
      simp [updG]
    · have e : updG l i true k = l k := by unfold updG; rw [if_neg h]
      rw [ih (by omega), e]
      omega
theorem cntTo_all (l : Nat → Bool) (k : Nat) (h : ∀ j, j < k → l j = true) : cntTo l k = k := by
  induction k with
  | zero => rfl
  | succ k ih =>
    unfold cntTo
    rw [ih (fun j hj => h j (by omega)), h k (by omega)]
    simp
theorem exists_least (l : Nat → Bool) : ∀ k, (∃ j, j < k ∧ l j = false) → ∃ i, i < k ∧ l i = false ∧ ∀ j, j < i → l j = true
  | 0, ⟨j, hj, _⟩ => by omega
  | k + 1, ⟨j, hj, hl⟩ => by
    by_cases h : ∃ j, j < k ∧ l j = false
    · obtain ⟨i, hi, h1, h2⟩ := exists_least l k h
      exact ⟨i, by omega, h1, h2⟩
    · refine ⟨j, hj, hl, fun m hm => ?_⟩
      cases hlm : l m with
      | true => rfl
      | false => exact absurd ⟨m, by omega, hlm⟩ h

/-- The first U are listed. -/
def listedU (n U : Nat) : Array Bool := (Array.range n).map fun i => decide (i < U)

theorem grow_walk {U : Nat} (hk : GrowOk ops U) (a : Act) (w0 : World) (E : World → World → Prop) (hEt : ∀ x y z, E x y → E y z → E x z)
    (F : Nat → Value → World → Prop) (hst : ∀ i v x y, E x y → F i v x → F i v y) (Sep : Nat → Value → Nat → Value → Prop)
    (hU : ∀ (i : Nat) (o : Oper), ops[i]? = some o → i < U → ∀ vs w1, E w0 w1 → (∀ j, j < U → j ∈ edgesOf o → F j (vs j) w1) → Gives P o (actsTo ops a (fun _ => true) vs U).eval w1 fun v w2 => E w1 w2 ∧ F i v w2 ∧ ∀ j u, j < U → F j u w1 → Sep j u i v)
    (hrest : ∀ vs w1, E w0 w1 → (∀ i, i < U → F i (vs i) w1) → (∀ i j, i < U → j < U → i ≠ j → Sep i (vs i) j (vs j) ∨ Sep j (vs j) i (vs i)) → wpAny P .any ops Q (ops.size - U) (listedU ops.size U) (actsTo ops a (fun _ => true) vs U) w1) :
    ∀ (fuel : Nat) (L : Array Bool) (l : Nat → Bool) (vs : Nat → Value) (w1 : World), L.size = ops.size → (∀ i, i < ops.size → L.getD i false = l i) → (∀ i, U ≤ i → l i = false) → (∀ (i : Nat) (o : Oper), ops[i]? = some o → l i = true → ∀ j ∈ edgesOf o, l j = true) →
      fuel + cntTo l U = ops.size → E w0 w1 → (∀ i, i < U → l i = true → F i (vs i) w1) → (∀ i j, i < U → j < U → i ≠ j → l i = true → l j = true → Sep i (vs i) j (vs j) ∨ Sep j (vs j) i (vs i)) →
      wpAny P .any ops Q fuel L (actsTo ops a l vs U) w1 := by
  intro fuel
  induction fuel with
  | zero =>
    intro L l vs w1 hL hl hlU hcl hf hE hF hS
    have hle := cntTo_le l U
    have hUn : U = ops.size := by have := hk.le; omega
    have hall : ∀ j, j < U → l j = true := by
      intro j hj
      cases h : l j with
      | true => rfl
      | false =>
        have h1 := cntTo_updG l j U hj h
        have h2 := cntTo_le (updG l j true) U
        omega
    have e1 : actsTo ops a l vs U = actsTo ops a (fun _ => true) vs U := actsTo_congr a U fun j hj => ⟨hall j hj, rfl⟩
    have e2 : L = listedU ops.size U := by
      apply Array.ext
      · simp [listedU, hL]
      · intro i h1 h2
        have := hl i (by omega)
        rw [hall i (by omega)] at this
        simp only [Array.getD_eq_getD_getElem?, Array.getElem?_eq_getElem h1, Option.getD_some] at this
        rw [this]
        simp [listedU]
        omega
    have := hrest vs w1 hE (fun i hi => hF i hi (hall i hi)) (fun i j hi hj hn => hS i j hi hj hn (hall i hi) (hall j hj))
    rw [e1, e2]
    rwa [show ops.size - U = 0 by omega] at this
  | succ fuel ih =>
    intro L l vs w1 hL hl hlU hcl hf hE hF hS
    have hle := cntTo_le l U
    by_cases hall : ∀ j, j < U → l j = true
    · have e1 : actsTo ops a l vs U = actsTo ops a (fun _ => true) vs U := actsTo_congr a U fun j hj => ⟨hall j hj, rfl⟩
      have e2 : L = listedU ops.size U := by
        apply Array.ext
        · simp [listedU, hL]
        · intro i h1 h2
          have := hl i (by omega)
          simp only [Array.getD_eq_getD_getElem?, Array.getElem?_eq_getElem h1, Option.getD_some] at this
          rw [this]
          by_cases hi : i < U
          · rw [hall i hi]; simp [listedU, hi]
          · rw [hlU i (by omega)]; simp [listedU, hi]
      have := hrest vs w1 hE (fun i hi => hF i hi (hall i hi)) (fun i j hi hj hn => hS i j hi hj hn (hall i hi) (hall j hj))
      have hc := cntTo_all l U hall
      rw [e1, e2]
      rwa [show ops.size - U = fuel + 1 by omega] at this
    · have hex : ∃ j, j < U ∧ l j = false := by
        refine Classical.byContradiction fun hn => hall fun j hj => ?_
        cases h : l j with
        | true => rfl
        | false => exact absurd ⟨j, hj, h⟩ hn
      have getT : ∀ i, i < ops.size → L.getD i true = l i := fun i hi => by
        rw [← hl i hi]
        simp [Array.getD_eq_getD_getElem?, Array.getElem?_eq_getElem (show i < L.size by omega)]
      refine ⟨fun h0 => ?_, fun i hi => ?_⟩
      · obtain ⟨i, hi, h1, h2⟩ := exists_least l U hex
        have hin : i < ops.size := by have := hk.le; omega
        have ho : ops[i]? = some ops[i] := Array.getElem?_eq_getElem hin
        have : i ∈ Region.ready .any ops L := mem_ready.2 ⟨by rw [getT i hin]; exact h1, ops[i], ho, fun e he hb => by
          have hd := hk.down i _ ho e.on (List.mem_map.2 ⟨e, List.mem_filter.2 ⟨by simpa using he, hb⟩, rfl⟩)
          rw [hl e.on (by omega)]
          exact h2 e.on hd⟩
        rw [h0] at this
        cases this
      · obtain ⟨h1, o, ho, h2⟩ := mem_ready.1 hi
        have hin : i < ops.size := (Array.getElem?_eq_some_iff.1 ho).1
        rw [getT i hin] at h1
        have hed : ∀ j ∈ edgesOf o, l j = true := fun j hj => by
          obtain ⟨e, he, rfl⟩ := List.mem_map.1 hj
          obtain ⟨he1, he2⟩ := List.mem_filter.1 he
          have hd := hk.down i o ho e.on hj
          rw [← hl e.on (by omega)]
          exact h2 e (by simpa using he1) he2
        have hiU : i < U := by
          refine Classical.byContradiction fun hn => ?_
          obtain ⟨j, hj, hlj⟩ := hex
          have := under_listed hcl ops.size i j o ho hed (hk.late i o ho (by omega) j hj)
          rw [this] at hlj
          cases hlj
        unfold wpOp
        rw [ho]
        simp only [Region.wanted, hk.guard i o ho, if_true]
        refine .inl ?_
        have hev : ∀ x ∈ o.op.operands, (actsTo ops a l vs U).eval x = (actsTo ops a (fun _ => true) vs U).eval x := fun x hx =>
          actsTo_eval a l vs U x fun j hj t ht hd => hed j (hk.look i o ho hiU j hj t hd (List.mem_append_left _ (List.mem_filterMap.2 ⟨.tmp t, by subst ht; simpa using hx, rfl⟩)))
        have hg := hU i o ho hiU vs w1 hE (fun j hj hje => hF j hj (hed j hje))
        have hg2 : Gives P o (actsTo ops a l vs U).eval w1 fun v w2 => E w1 w2 ∧ F i v w2 ∧ ∀ j u, j < U → F j u w1 → Sep j u i v := by
          have hg := hg.out
          refine ⟨?_⟩
          unfold GivesM at hg ⊢
          rw [execOp_congr o (hk.sel i o ho) hev]
          exact hg
        refine hg2.wp fun v w2 ⟨hE2, hF2, hS2⟩ => ?_
        have hdst : dstOf ops i = o.dst := by simp [dstOf, ho]
        rw [← hdst, ← actsTo_set a l vs i v h1 U hiU (fun k hk2 hne d hd hd2 => hk.dst i o ho hiU k hk2 hne d hd2 (by rw [← hdst]; exact hd))]
        refine ih _ (updG l i true) (updG vs i v) w2 (by simpa using hL) ?_ ?_ ?_ ?_ (hEt _ _ _ hE hE2) ?_ ?_
        · intro m hm
          unfold updG
          by_cases h : m = i
          · subst h
            rw [if_pos rfl]
            simp [Array.getD_eq_getD_getElem?, show m < L.size by omega]
          · rw [if_neg h, getD_set_ne false (Ne.symm h)]
            exact hl m hm
        · intro m hm
          unfold updG
          rw [if_neg (by omega)]
          exact hlU m hm
        · intro m om hom hlm j hj
          by_cases h : m = i
          · subst h
            rw [ho] at hom
            cases hom
            unfold updG
            split
            · rfl
            · exact hed j hj
          · unfold updG at hlm ⊢
            rw [if_neg h] at hlm
            split
            · rfl
            · exact hcl m om hom hlm j hj
        · rw [cntTo_updG l i U hiU h1]
          omega
        · intro m hm hlm
          by_cases h : m = i
          · subst h
            unfold updG
            rw [if_pos rfl]
            exact hF2
          · unfold updG at hlm ⊢
            rw [if_neg h] at hlm ⊢
            exact hst m _ _ _ hE2 (hF m hm hlm)
        · intro m j hm hj hne hlm hlj
          by_cases h : m = i
          · subst h
            have hjm : j ≠ m := Ne.symm hne
            unfold updG at hlj ⊢
            rw [if_neg hjm] at hlj ⊢
            rw [if_pos rfl]
            exact .inr (hS2 j _ hj (hF j hj hlj))
          · by_cases h' : j = i
            · subst h'
              unfold updG at hlm ⊢
              rw [if_neg h] at hlm ⊢
              rw [if_pos rfl]
              exact .inl (hS2 m _ hm (hF m hm hlm))
            · unfold updG at hlm hlj ⊢
              rw [if_neg h] at hlm ⊢
              rw [if_neg h'] at hlj ⊢
              exact hS m j hm hj hne hlm hlj

/-- THE LAW. -/
theorem region_grow {id : Nat} (U : Nat) {a : Act} {w : World} (hm : P.follows .mixedOrders = true) (hk : growOk ops U = true) (E : World → World → Prop) (hEr : E w w.drew) (hEt : ∀ x y z, E x y → E y z → E x z)
    (F : Nat → Value → World → Prop) (hst : ∀ i v x y, E x y → F i v x → F i v y) (Sep : Nat → Value → Nat → Value → Prop)
    (hU : ∀ (i : Nat) (o : Oper), ops[i]? = some o → i < U → ∀ vs w1, E w w1 → (∀ j, j < U → j ∈ edgesOf o → F j (vs j) w1) → Gives P o (actsTo ops a (fun _ => true) vs U).eval w1 fun v w2 => E w1 w2 ∧ F i v w2 ∧ ∀ j u, j < U → F j u w1 → Sep j u i v)
    (hrest : ∀ vs w1, E w w1 → (∀ i, i < U → F i (vs i) w1) → (∀ i j, i < U → j < U → i ≠ j → Sep i (vs i) j (vs j) ∨ Sep j (vs j) i (vs i)) → wpAny P .any ops Q (ops.size - U) (listedU ops.size U) (actsTo ops a (fun _ => true) vs U) w1) :
    (Code.region id ops true).wp P Q a w := by
  refine wp_region_any hm ?_
  have hg := growOk_spec hk
  have h0 : actsTo ops a (fun _ => false) (fun _ => undef) U = a := by
    have : ∀ k, actsTo ops a (fun _ => false) (fun _ => undef) k = a := by
      intro k
      induction k with
      | zero => rfl
      | succ k ih => unfold actsTo; simpa using ih
    exact this U
  have hc0 : cntTo (fun _ => false) U = 0 := by
    have : ∀ k, cntTo (fun _ => false) k = 0 := by
      intro k
      induction k with
      | zero => rfl
      | succ k ih => unfold cntTo; simpa using ih
    exact this U
  have := grow_walk (Q := Q) hg a w E hEt F hst Sep hU hrest ops.size (Array.replicate ops.size false) (fun _ => false) (fun _ => undef) w.drew (by simp) (fun i hi => by simp [hi]) (fun _ _ => rfl) (fun _ _ _ h => by cases h)
    (by omega) hEr (fun _ _ h => by cases h) (fun _ _ _ _ _ h => by cases h)
  rwa [h0] at this
end
open Go

section
variable {P : Program} {ops : Array Oper} {Q : Exit → Act → World → Prop}

/-- The operation, run or passed by, gives such a value in such a world. -/
def StepG (P : Program) (ops : Array Oper) (o : Oper) (b : Act) (w : World) (Φ : Value → World → Prop) : Prop :=
  (Region.wanted o (yielded ops b.tmps) = true → Gives P o b.eval w Φ) ∧ (Region.wanted o (yielded ops b.tmps) = false → Φ undef w)
theorem StepG.plain {o : Oper} {b : Act} {w : World} {Φ : Value → World → Prop} (hg : o.guard = none) (h : Gives P o b.eval w Φ) : StepG P ops o b w Φ :=
  ⟨fun _ => h, fun e => by simp [Region.wanted, hg] at e⟩
theorem StepG.on {o : Oper} {b : Act} {w : World} {Φ : Value → World → Prop} {g d : Nat} {x : Bool} {v : Value} (hg : o.guard = some (g, x)) (hd : dstOf ops g = some d) (ht : b.tmps[d]? = some v) (hv : v = .bool x) (h : Gives P o b.eval w Φ) : StepG P ops o b w Φ := by
  subst hv
  have hy : yielded ops b.tmps g = some x := by
    have hd' : (ops[g]?).bind (·.dst) = some d := hd
    simp [yielded, hd', ht]
  exact ⟨fun _ => h, fun e => by simp [Region.wanted, hg, hy] at e⟩
theorem StepG.off {o : Oper} {b : Act} {w : World} {Φ : Value → World → Prop} {g d : Nat} {x : Bool} {v : Value} (hg : o.guard = some (g, x)) (hd : dstOf ops g = some d) (ht : b.tmps[d]? = some v) (hv : v = .bool (!x) ∨ v = undef) (h : Φ undef w) : StepG P ops o b w Φ := by
  have hd' : (ops[g]?).bind (·.dst) = some d := hd
  refine ⟨fun e => ?_, fun _ => h⟩
  exfalso
  rcases hv with rfl | rfl
  · simp [Region.wanted, hg, yielded, hd', ht] at e
  · simp [Region.wanted, hg, yielded, hd', ht, undef] at e

def freeOk (ops : Array Oper) : Bool :=
  (List.range ops.size).all (fun i => match ops[i]? with
    | some o => (match o.op with | .select .. => false | _ => true) && (edgesOf o).all (· < i) &&
        (List.range ops.size).all (fun j => (match dstOf ops j with
          | some d => (!(o.looksAt ops).contains d || (edgesOf o).contains j) && (j == i || o.dst != some d)
          | none => true))
    | none => false)
structure FreeOk (ops : Array Oper) : Prop where
  sel : ∀ (i : Nat) (o : Oper), ops[i]? = some o → ∀ cs b, o.op ≠ .select cs b
  down : ∀ (i : Nat) (o : Oper), ops[i]? = some o → ∀ j ∈ edgesOf o, j < i
  look : ∀ (i : Nat) (o : Oper), ops[i]? = some o → ∀ j, j < ops.size → ∀ d, dstOf ops j = some d → d ∈ o.looksAt ops → j ∈ edgesOf o
  dst : ∀ (i : Nat) (o : Oper), ops[i]? = some o → ∀ j, j < ops.size → j ≠ i → ∀ d, dstOf ops j = some d → o.dst ≠ some d
theorem freeOk_spec (h : freeOk ops = true) : FreeOk ops := by
  unfold freeOk at h
  rw [List.all_eq_true] at h
  have hi : ∀ (i : Nat) (o : Oper), ops[i]? = some o → i ∈ List.range ops.size := fun i o e => List.mem_range.2 (Array.getElem?_eq_some_iff.1 e).1
  have each := fun (i : Nat) (o : Oper) (e : ops[i]? = some o) => by
    have := h i (hi i o e)
    rw [e] at this
    simp only [Bool.and_eq_true, List.all_eq_true, decide_eq_true_eq] at this
    exact this
  refine ⟨fun i o e cs b hs => ?_, fun i o e j hj => (each i o e).1.2 j hj, fun i o e j hj d hd ho => ?_, fun i o e j hj hne d hd ho => ?_⟩
  · have := (each i o e).1.1
    rw [hs] at this
    simp at this
  · have := (each i o e).2 j (List.mem_range.2 hj)
    rw [hd] at this
    simp only [Bool.and_eq_true, Bool.or_eq_true, Bool.not_eq_true'] at this
    rcases this.1 with h2 | h2
    · have h3 : (o.looksAt ops).contains d = true := by simpa using ho
      rw [h3] at h2
      cases h2
    · simpa using h2
  · have := (each i o e).2 j (List.mem_range.2 hj)
    rw [hd] at this
    simp only [Bool.and_eq_true, Bool.or_eq_true] at this
    rcases this.2 with h2 | h2
    · exact hne (by simpa using h2)
    · rw [ho] at h2
      simp at h2
theorem tmps_same {a b : Act} {d : Nat} (hs : a.tmps.size = b.tmps.size) (he : a.eval (.tmp d) = b.eval (.tmp d)) : a.tmps[d]? = b.tmps[d]? := by
  by_cases h : d < a.tmps.size
  · have h' : d < b.tmps.size := by omega
    simp [Act.eval, h, h'] at he
    rw [Array.getElem?_eq_getElem h, Array.getElem?_eq_getElem h', he]
  · rw [Array.getElem?_eq_none (by omega), Array.getElem?_eq_none (by omega)]

theorem free_walk (hk : FreeOk ops) (a : Act) (w0 : World) (E : World → World → Prop) (hEt : ∀ x y z, E x y → E y z → E x z)
    (F : Nat → Value → World → Prop) (hst : ∀ i v x y, E x y → F i v x → F i v y)
    (hU : ∀ (i : Nat) (o : Oper), ops[i]? = some o → ∀ vs w1, E w0 w1 → (∀ j, j ∈ edgesOf o → F j (vs j) w1) → StepG P ops o (actsTo ops a (fun _ => true) vs ops.size) w1 fun v w2 => E w1 w2 ∧ F i v w2)
    (hrest : ∀ vs w1, E w0 w1 → (∀ i, i < ops.size → F i (vs i) w1) → Q .normal (actsTo ops a (fun _ => true) vs ops.size) w1) :
    ∀ (fuel : Nat) (L : Array Bool) (l : Nat → Bool) (vs : Nat → Value) (w1 : World), L.size = ops.size → (∀ i, i < ops.size → L.getD i false = l i) → (∀ (i : Nat) (o : Oper), ops[i]? = some o → l i = true → ∀ j ∈ edgesOf o, l j = true) →
      fuel + cntTo l ops.size = ops.size → E w0 w1 → (∀ i, i < ops.size → l i = true → F i (vs i) w1) →
      wpAny P .any ops Q fuel L (actsTo ops a l vs ops.size) w1 := by
  have done : ∀ (l : Nat → Bool) (vs : Nat → Value) (w1 : World), (∀ j, j < ops.size → l j = true) → E w0 w1 → (∀ i, i < ops.size → l i = true → F i (vs i) w1) → Q .normal (actsTo ops a l vs ops.size) w1 := fun l vs w1 hall hE hF => by
    have e1 : actsTo ops a l vs ops.size = actsTo ops a (fun _ => true) vs ops.size := actsTo_congr a ops.size fun j hj => ⟨hall j hj, rfl⟩
    rw [e1]
    exact hrest vs w1 hE fun i hi => hF i hi (hall i hi)
  have none_ready : ∀ (L : Array Bool) (l : Nat → Bool), L.size = ops.size → (∀ i, i < ops.size → L.getD i false = l i) → Region.ready .any ops L = [] → ∀ j, j < ops.size → l j = true := fun L l hL hl h0 j hj => by
    refine Classical.byContradiction fun hn => ?_
    have hex : ∃ j, j < ops.size ∧ l j = false := ⟨j, hj, by simpa using hn⟩
    obtain ⟨i, hi, h1, h2⟩ := exists_least l ops.size hex
    have ho : ops[i]? = some ops[i] := Array.getElem?_eq_getElem hi
    have getT : ∀ i, i < ops.size → L.getD i true = l i := fun i hi => by
      rw [← hl i hi]
      simp [Array.getD_eq_getD_getElem?, Array.getElem?_eq_getElem (show i < L.size by omega)]
    have : i ∈ Region.ready .any ops L := mem_ready.2 ⟨by rw [getT i hi]; exact h1, ops[i], ho, fun e he hb => by
      have hd := hk.down i _ ho e.on (List.mem_map.2 ⟨e, List.mem_filter.2 ⟨by simpa using he, hb⟩, rfl⟩)
      rw [hl e.on (by omega)]
      exact h2 e.on hd⟩
    rw [h0] at this
    cases this
  intro fuel
  induction fuel with
  | zero =>
    intro L l vs w1 hL hl hcl hf hE hF
    have hall : ∀ j, j < ops.size → l j = true := by
      intro j hj
      cases h : l j with
      | true => rfl
      | false =>
        have h1 := cntTo_updG l j ops.size hj h
        have h2 := cntTo_le (updG l j true) ops.size
        omega
    refine ⟨?_, done l vs w1 hall hE hF⟩
    cases hr : Region.ready .any ops L with
    | nil => rfl
    | cons i r =>
      exfalso
      have hm : i ∈ Region.ready .any ops L := by rw [hr]; simp
      obtain ⟨h1, o, ho, _⟩ := mem_ready.1 hm
      have hin : i < ops.size := (Array.getElem?_eq_some_iff.1 ho).1
      have h3 := hl i hin
      rw [hall i hin] at h3
      simp only [Array.getD_eq_getD_getElem?, Array.getElem?_eq_getElem (show i < L.size by omega), Option.getD_some] at h1 h3
      rw [h1] at h3
      cases h3
  | succ fuel ih =>
    intro L l vs w1 hL hl hcl hf hE hF
    have getT : ∀ i, i < ops.size → L.getD i true = l i := fun i hi => by
      rw [← hl i hi]
      simp [Array.getD_eq_getD_getElem?, Array.getElem?_eq_getElem (show i < L.size by omega)]
    refine ⟨fun h0 => done l vs w1 (none_ready L l hL hl h0) hE hF, fun i hi => ?_⟩
    obtain ⟨h1, o, ho, h2⟩ := mem_ready.1 hi
    have hin : i < ops.size := (Array.getElem?_eq_some_iff.1 ho).1
    rw [getT i hin] at h1
    have hed : ∀ j ∈ edgesOf o, l j = true := fun j hj => by
      obtain ⟨e, he, rfl⟩ := List.mem_map.1 hj
      obtain ⟨he1, he2⟩ := List.mem_filter.1 he
      have hd := hk.down i o ho e.on hj
      rw [← hl e.on (by omega)]
      exact h2 e (by simpa using he1) he2
    have hlook : ∀ t, t ∈ o.looksAt ops → (actsTo ops a l vs ops.size).eval (.tmp t) = (actsTo ops a (fun _ => true) vs ops.size).eval (.tmp t) := fun t ht =>
      actsTo_eval a l vs ops.size (.tmp t) fun j hj t' ht' hd => hed j (hk.look i o ho j hj t' hd (by cases ht'; exact ht))
    have hev : ∀ x ∈ o.op.operands, (actsTo ops a l vs ops.size).eval x = (actsTo ops a (fun _ => true) vs ops.size).eval x := fun x hx => by
      cases x with
      | tmp t => exact hlook t (List.mem_append_left _ (List.mem_filterMap.2 ⟨.tmp t, by simpa using hx, rfl⟩))
      | _ => rfl
    have hw : Region.wanted o (yielded ops (actsTo ops a l vs ops.size).tmps) = Region.wanted o (yielded ops (actsTo ops a (fun _ => true) vs ops.size).tmps) := by
      unfold Region.wanted
      cases hg : o.guard with
      | none => rfl
      | some p =>
        obtain ⟨g, x⟩ := p
        simp only []
        have : yielded ops (actsTo ops a l vs ops.size).tmps g = yielded ops (actsTo ops a (fun _ => true) vs ops.size).tmps g := by
          unfold yielded
          cases hd : (ops[g]?).bind (·.dst) with
          | none => rfl
          | some d =>
            simp only [Option.bind_some]
            rw [tmps_same (by rw [actsTo_size, actsTo_size]) (hlook d (List.mem_append_right _ (by simp [hg, hd])))]
        rw [this]
    have hg := hU i o ho vs w1 hE (fun j hje => hF j (by have := hk.down i o ho j hje; omega) (hed j hje))
    have hdst : dstOf ops i = o.dst := by simp [dstOf, ho]
    have next : ∀ v w2, E w1 w2 → F i v w2 → wpAny P .any ops Q fuel (L.setIfInBounds i true) ((actsTo ops a l vs ops.size).put o.dst v) w2 := fun v w2 hE2 hF2 => by
      rw [← hdst, ← actsTo_set a l vs i v h1 ops.size hin (fun k hk2 hne d hd hd2 => hk.dst i o ho k hk2 hne d hd2 (by rw [← hdst]; exact hd))]
      refine ih _ (updG l i true) (updG vs i v) w2 (by simpa using hL) ?_ ?_ ?_ (hEt _ _ _ hE hE2) ?_
      · intro m hm
        unfold updG
        by_cases h : m = i
        · subst h
          rw [if_pos rfl]
          simp [Array.getD_eq_getD_getElem?, show m < L.size by omega]
        · rw [if_neg h, getD_set_ne false (Ne.symm h)]
          exact hl m hm
      · intro m om hom hlm j hj
        by_cases h : m = i
        · subst h
          rw [ho] at hom
          cases hom
          unfold updG
          split
          · rfl
          · exact hed j hj
        · unfold updG at hlm ⊢
          rw [if_neg h] at hlm
          split
          · rfl
          · exact hcl m om hom hlm j hj
      · rw [cntTo_updG l i ops.size hin h1]
        omega
      · intro m hm hlm
        by_cases h : m = i
        · subst h
          unfold updG
          rw [if_pos rfl]
          exact hF2
        · unfold updG at hlm ⊢
          rw [if_neg h] at hlm ⊢
          exact hst m _ _ _ hE2 (hF m hm hlm)
    unfold wpOp
    rw [ho]
    simp only []
    rw [hw]
    cases hwd : Region.wanted o (yielded ops (actsTo ops a (fun _ => true) vs ops.size).tmps) with
    | true =>
      rw [if_pos rfl]
      refine .inl ?_
      have hg2 : Gives P o (actsTo ops a l vs ops.size).eval w1 fun v w2 => E w1 w2 ∧ F i v w2 := by
        have hg := (hg.1 hwd).out
        refine ⟨?_⟩
        unfold GivesM at hg ⊢
        rw [execOp_congr o (hk.sel i o ho) hev]
        exact hg
      exact hg2.wp fun v w2 ⟨hE2, hF2⟩ => next v w2 hE2 hF2
    | false =>
      rw [if_neg (by simp)]
      have hg3 := hg.2 hwd
      exact next undef w1 hg3.1 hg3.2

/-- THE LAW. -/
theorem region_freeG {id : Nat} {a : Act} {w : World} (hm : P.follows .mixedOrders = true) (hk : freeOk ops = true) (E : World → World → Prop) (hE0 : E w w.drew) (hEt : ∀ x y z, E x y → E y z → E x z)
    (F : Nat → Value → World → Prop) (hst : ∀ i v x y, E x y → F i v x → F i v y)
    (hU : ∀ (i : Nat) (o : Oper), ops[i]? = some o → ∀ vs w1, E w w1 → (∀ j, j ∈ edgesOf o → F j (vs j) w1) → StepG P ops o (actsTo ops a (fun _ => true) vs ops.size) w1 fun v w2 => E w1 w2 ∧ F i v w2)
    (hrest : ∀ vs w1, E w w1 → (∀ i, i < ops.size → F i (vs i) w1) → Q .normal (actsTo ops a (fun _ => true) vs ops.size) w1) :
    (Code.region id ops true).wp P Q a w := by
  refine wp_region_any hm ?_
  have h0 : actsTo ops a (fun _ => false) (fun _ => undef) ops.size = a := by
    have : ∀ k, actsTo ops a (fun _ => false) (fun _ => undef) k = a := by
      intro k
      induction k with
      | zero => rfl
      | succ k ih => unfold actsTo; simpa using ih
    exact this _
  have hc0 : cntTo (fun _ => false) ops.size = 0 := by
    have : ∀ k, cntTo (fun _ => false) k = 0 := by
      intro k
      induction k with
      | zero => rfl
      | succ k ih => unfold cntTo; simpa using ih
    exact this _
  have := free_walk (Q := Q) (freeOk_spec hk) a w E hEt F hst hU hrest ops.size (Array.replicate ops.size false) (fun _ => false) (fun _ => undef) w.drew (by simp) (fun i hi => by simp [hi]) (fun _ _ _ h => by cases h)
    (by omega) hE0 (fun _ _ h => by cases h)
  rwa [h0] at this
end

/-- Only new memory. -/
def Ex (w w' : World) : Prop := Below w.heap.size w w'
theorem Ex.trans {a b c : World} (h : Ex a b) (k : Ex b c) : Ex a c := Below.trans h (Below.mono k h.size)
theorem Ex.drew (w : World) : Ex w w.drew := (Below.refl _ w).drew
theorem Ex.refl (w : World) : Ex w w := Below.refl _ w
theorem Ex.alloc (w : World) (o : Obj) : Ex w (w.alloc o) := (Below.refl _ w).alloc (Nat.le_refl _) o

/-- What is known of a value, in a world and in all that have more memory. -/
structure Fact where
  holds : Value → World → Prop
  ext : ∀ v x y, Ex x y → holds v x → holds v y
def Fact.any : Fact := ⟨fun _ _ => True, fun _ _ _ _ _ => trivial⟩
def Fact.val (x : Value) : Fact := ⟨fun v _ => v = x, fun _ _ _ _ h => h⟩
def Fact.bsl (xs : List UInt8) : Fact := ⟨fun v w => BSl w v xs, fun _ _ _ he h => h.fresh he⟩
/-- A pair of a slice and a number. -/
def Fact.told (xs : List UInt8) (n : Int) : Fact := ⟨fun v w => ∃ u, v = .tuple #[u, .int .i64 n] ∧ BSl w u xs, fun _ _ _ he ⟨u, h1, h2⟩ => ⟨u, h1, h2.fresh he⟩⟩

/-- What each of a list of operations must show. -/
def eachF (p : Nat → Oper → Prop) : Nat → List Oper → Prop
  | _, [] => True
  | i, o :: r => p i o ∧ eachF p (i + 1) r
theorem eachF_at {p : Nat → Oper → Prop} : ∀ (l : List Oper) (k : Nat), eachF p k l → ∀ (i : Nat) (o : Oper), l[i]? = some o → p (k + i) o
  | [], k, _, i, o, h => by simp at h
  | x :: r, k, hl, 0, o, h => by simp at h; subst h; exact hl.1
  | x :: r, k, hl, i + 1, o, h => by
    have := eachF_at r (k + 1) hl.2 i o (by simpa using h)
    rwa [show k + 1 + i = k + (i + 1) by omega] at this
/-- What operation i of a region must show. -/
def ReqF (l : List Oper) (fs : List Fact) (a : Act) (w : World) (i : Nat) (o : Oper) : Prop :=
  ∀ vs w1, Ex w w1 → (∀ j, (edgesOf o).contains j = true → (fs.getD j .any).holds (vs j) w1) → StepG Try.prog l.toArray o (actsTo l.toArray a (fun _ => true) vs l.length) w1 fun v w2 => Ex w1 w2 ∧ (fs.getD i .any).holds v w2
theorem region_free {id : Nat} {l : List Oper} {Q : Exit → Act → World → Prop} {a : Act} {w : World} (fs : List Fact) (hk : freeOk l.toArray = true)
    (hU : eachF (ReqF l fs a w) 0 l)
    (hrest : ∀ vs w1, Ex w w1 → (∀ i, i < l.length → (fs.getD i .any).holds (vs i) w1) → Q .normal (actsTo l.toArray a (fun _ => true) vs l.length) w1) :
    (Code.region id l.toArray true).wp Try.prog Q a w := by
  refine region_freeG (by kernel_rfl) hk Ex (Ex.drew w) (fun _ _ _ => Ex.trans) (fun i => (fs.getD i .any).holds) (fun i => (fs.getD i .any).ext) (fun i o ho vs w1 he hd => ?_) (fun vs w1 he hF => ?_)
  · have := eachF_at l 0 hU i o (by simpa using ho) vs w1 he (fun j hjc => hd j (by simpa using hjc))
    rw [Nat.zero_add] at this
    exact this
  · exact hrest vs w1 he (fun i hi => hF i (by simpa using hi))

section
variable {o : Oper} {ρ : Operand → Value} {w : World} {x y z : Operand} {Φ : Value → World → Prop} {v vx vy vz : Value}
theorem gives_move (ho : o.op = .move x) (hx : ρ x = v) (h : Φ v w) : Gives Try.prog o ρ w Φ := by
  refine Gives.value (w' := w) (v := v) ?_ h
  unfold execOp
  simp only [ho, hx]
  rfl
theorem gives_assign (ho : o.op = .assign x) (hx : ρ x = v) (h : Φ v w) : Gives Try.prog o ρ w Φ := by
  refine Gives.value (w' := w) (v := v) ?_ h
  unfold execOp
  simp only [ho, hx]
  rfl
theorem gives_pick_t (ho : o.op = .pick x y z) (hx : ρ x = .bool true) (hy : ρ y = v) (h : Φ v w) : Gives Try.prog o ρ w Φ := by
  refine Gives.value (w' := w) (v := v) ?_ h
  unfold execOp
  simp [ho, hx, hy, asBool]
theorem gives_pick_f (ho : o.op = .pick x y z) (hx : ρ x = .bool false) (hz : ρ z = v) (h : Φ v w) : Gives Try.prog o ρ w Φ := by
  refine Gives.value (w' := w) (v := v) ?_ h
  unfold execOp
  simp [ho, hx, hz, asBool]
theorem gives_len {ty : TypeId} {ao : Option Addr} {n cap : Nat} (ho : o.op = .call { callee := .builtin .len, args := #[x], argTypes := #[ty] }) (hx : ρ x = .slice ao n cap) (hu : ∃ e, Try.prog.underlying ty = some (.slice e)) (h : Φ (.int .i64 n) w) : Gives Try.prog o ρ w Φ := by
  obtain ⟨e, hu⟩ := hu
  refine Gives.value (w' := w) (v := .int .i64 n) ?_ h
  unfold execOp
  simp only [ho]
  simp [resolve, invoke, builtin, Builtin.len_, hx, run_underlying hu, goInt]
theorem gives_lenB {xs : List UInt8} {n : Nat} (ho : o.op = .call { callee := .builtin .len, args := #[x], argTypes := #[30] }) (hx : ρ x = v) (hv : BSl w v xs) (hn : xs.length = n) (h : Φ (.int .i64 n) w) : Gives Try.prog o ρ w Φ := by
  obtain ⟨ao, cap, rfl⟩ := hv.len
  rw [hn] at hx
  exact gives_len ho hx ⟨_, Try.underlying30⟩ h
theorem gives_str {xs : List UInt8} (ho : o.op = .convert 30 9 x) (hx : ρ x = v) (hv : BSl w v xs) (h : Φ (.string ⟨xs.toArray⟩) w) : Gives Try.prog o ρ w Φ := by
  refine Gives.value (w' := w) (v := .string ⟨xs.toArray⟩) ?_ h
  unfold execOp
  simp only [ho, hx]
  rw [Sem.run_bind, run_string hv]
  rfl
theorem enters_f {P : Program} {f : FuncId} {fn : Func} {c : Code} (hf : P.funcs[f]? = some fn) (hname : (fn.name == "runtime.NumGoroutine") = false) (hb : fn.body = some c) (args : Array Value) (w : World) : (callFunc f args).run P w = .ok (.enter f args) w := by
  have h1 : fn.name ≠ "runtime.NumGoroutine" := by simpa using hname
  simp [callFunc, hf, h1, hb, mark]
theorem gives_call {f : FuncId} {xs : Array Operand} {ts : Array TypeId} {vs : Array Value} {fn : Func} (ho : o.op = .call { callee := .value (.func f), args := xs, argTypes := ts }) (hρ : ρ (.func f) = .func (.func f) #[] #[])
    (hv : xs.map ρ = vs) (hf : Try.prog.funcs[f]? = some fn) (hname : (fn.name == "runtime.NumGoroutine") = false) (hb : fn.body.isSome = true) (h : Calls Try.prog f vs w fun e w' => ∃ v, e = .returned v ∧ Φ v w') : Gives Try.prog o ρ w Φ := by
  obtain ⟨c, hb⟩ := Option.isSome_iff_exists.1 hb
  refine Gives.enter (w' := w) (f := f) (args := vs) ?_ h
  unfold execOp
  simp only [ho]
  simp [resolve, hρ, hv, Deferred.ofValue, invoke, enters_f hf hname hb]
theorem gives_eqS {xs ys : List UInt8} {r : Bool} (ho : o.op = .binOp .eql 9 x y 9) (hx : ρ x = .string ⟨xs.toArray⟩) (hy : ρ y = .string ⟨ys.toArray⟩) (hr : (xs == ys) = r) (h : Φ (.bool r) w) : Gives Try.prog o ρ w Φ := by
  refine Gives.value (w' := w) (v := .bool r) ?_ h
  unfold execOp
  simp only [ho, hx, hy]
  simp [eqGuard, binOp, Op.stringOp, ByteArray.toList_mk, hr]
theorem gives_neS {xs ys : List UInt8} {r : Bool} (ho : o.op = .binOp .neq 9 x y 9) (hx : ρ x = .string ⟨xs.toArray⟩) (hy : ρ y = .string ⟨ys.toArray⟩) (hr : (!(xs == ys)) = r) (h : Φ (.bool r) w) : Gives Try.prog o ρ w Φ := by
  refine Gives.value (w' := w) (v := .bool r) ?_ h
  unfold execOp
  simp only [ho, hx, hy]
  simp [eqGuard, binOp, Op.stringOp, ByteArray.toList_mk, ← hr]
theorem gives_eqI {t : TypeId} {k : IntKind} {a b : Int} {r : Bool} (ho : o.op = .binOp .eql t x y t) (hx : ρ x = .int k a) (hy : ρ y = .int k b) (hr : (a == b) = r) (h : Φ (.bool r) w) : Gives Try.prog o ρ w Φ := by
  refine Gives.value (w' := w) (v := .bool r) ?_ h
  unfold execOp
  simp only [ho, hx, hy]
  simp [eqGuard, binOp, Op.intCmp, hr]
theorem gives_neI {t : TypeId} {k : IntKind} {a b : Int} {r : Bool} (ho : o.op = .binOp .neq t x y t) (hx : ρ x = .int k a) (hy : ρ y = .int k b) (hr : (a != b) = r) (h : Φ (.bool r) w) : Gives Try.prog o ρ w Φ := by
  refine Gives.value (w' := w) (v := .bool r) ?_ h
  unfold execOp
  simp only [ho, hx, hy]
  simp [eqGuard, binOp, Op.intCmp, hr]
theorem gives_gtI {t : TypeId} {k : IntKind} {a b : Int} {r : Bool} (ho : o.op = .binOp .gtr t x y t) (hx : ρ x = .int k a) (hy : ρ y = .int k b) (hr : decide (b < a) = r) (h : Φ (.bool r) w) : Gives Try.prog o ρ w Φ := by
  refine Gives.value (w' := w) (v := .bool r) ?_ h
  unfold execOp
  simp only [ho, hx, hy]
  simp [eqGuard, binOp, Op.intCmp, ← hr]
theorem gives_addI {t : TypeId} {a b c : Int} (ho : o.op = .binOp .add t x y t) (hx : ρ x = .int .i64 a) (hy : ρ y = .int .i64 b) (hr : IntKind.i64.wrap (a + b) = c) (h : Φ (.int .i64 c) w) : Gives Try.prog o ρ w Φ := by
  refine Gives.value (w' := w) (v := .int .i64 c) ?_ h
  unfold execOp
  simp only [ho, hx, hy]
  simp [eqGuard, binOp, Op.intArith, ← hr]
theorem gives_subI {t : TypeId} {a b c : Int} (ho : o.op = .binOp .sub t x y t) (hx : ρ x = .int .i64 a) (hy : ρ y = .int .i64 b) (hr : IntKind.i64.wrap (a - b) = c) (h : Φ (.int .i64 c) w) : Gives Try.prog o ρ w Φ := by
  refine Gives.value (w' := w) (v := .int .i64 c) ?_ h
  unfold execOp
  simp only [ho, hx, hy]
  simp [eqGuard, binOp, Op.intArith, ← hr]
theorem gives_conv {s d : TypeId} (ho : o.op = .convert s d x) (hx : ρ x = vx) (hr : (convert s d vx).run Try.prog w = .ok v w) (h : Φ v w) : Gives Try.prog o ρ w Φ := by
  refine Gives.value (w' := w) (v := v) ?_ h
  unfold execOp
  simp only [ho, hx]
  rw [Sem.run_bind, hr]
  rfl
theorem gives_slice {t : TypeId} {lo hi mx : Option Operand} (ho : o.op = .slice t x lo hi mx) (hr : (Instr.sliceAt t (ρ x) (lo.map ρ) (hi.map ρ) (mx.map ρ)).run Try.prog w = .ok v w) (h : Φ v w) : Gives Try.prog o ρ w Φ := by
  refine Gives.value (w' := w) (v := v) ?_ h
  unfold execOp
  simp only [ho]
  rw [Sem.run_bind, hr]
  rfl
end
/-- One operation of the list. -/
theorem req_cons {l : List Oper} {fs : List Fact} {a : Act} {w : World} {i : Nat} {o : Oper} {r : List Oper} (f : Fact) (hf : fs.getD i .any = f)
    (h : ∀ vs w1, Ex w w1 → (∀ j (f : Fact), (edgesOf o).contains j = true → fs.getD j .any = f → f.holds (vs j) w1) → StepG Try.prog l.toArray o (actsTo l.toArray a (fun _ => true) vs l.length) w1 fun v w2 => Ex w1 w2 ∧ f.holds v w2)
    (t : eachF (ReqF l fs a w) (i + 1) r) : eachF (ReqF l fs a w) i (o :: r) := by
  refine ⟨fun vs w1 he hd => ?_, t⟩
  rw [hf]
  exact h vs w1 he fun j f h2 h3 => by have := hd j h2; rwa [h3] at this
theorem req_nil {l : List Oper} {fs : List Fact} {a : Act} {w : World} {i : Nat} : eachF (ReqF l fs a w) i [] := trivial
theorem told_at {fs : List Fact} {vs : Nat → Value} {w : World} {n : Nat} (h : ∀ i, i < n → (fs.getD i .any).holds (vs i) w) (i : Nat) (f : Fact) (hi : i < n) (hf : fs.getD i .any = f) : f.holds (vs i) w := by
  have := h i hi
  rwa [hf] at this
/-- A call that answers new bytes. -/
theorem told_bytes {xs : List UInt8} {w : World} {f : FuncId} {args : Array Value} (h : Calls Try.prog f args w fun e w' => Fresh w xs e w') : Calls Try.prog f args w fun e w' => ∃ v, e = .returned v ∧ Ex w w' ∧ (Fact.bsl xs).holds v w' :=
  h.mono fun _ _ ⟨v, h1, h2, h3⟩ => ⟨v, h1, h3, BSl.ofRow h2⟩
theorem told_true {w : World} {f : FuncId} {args : Array Value} (h : Calls Try.prog f args w fun e w' => e = .returned (.bool true) ∧ Below w.heap.size w w') : Calls Try.prog f args w fun e w' => ∃ v, e = .returned v ∧ Ex w w' ∧ (Fact.val (.bool true)).holds v w' :=
  h.mono fun _ _ ⟨h1, h2⟩ => ⟨_, h1, h2, rfl⟩

section
variable {o : Oper} {ρ : Operand → Value} {w : World} {x y : Operand} {Φ : Value → World → Prop}
theorem gives_eqP {t : TypeId} {a : Addr} (ho : o.op = .binOp .eql t x (.const (.pointer none)) t) (hu : Try.prog.underlying t = some (.pointer (Try.prog.pointee t))) (hn : ρ (.const (.pointer none)) = .pointer none) (hx : ρ x = .pointer (some a)) (h : Φ (.bool false) w) : Gives Try.prog o ρ w Φ := by
  refine Gives.value (w' := w) (v := .bool false) ?_ h
  unfold execOp
  simp only [ho, hx, hn]
  simp [eqGuard, binOp, run_equal_pointer_nil w t _ hu]
theorem gives_neP {t : TypeId} {a : Addr} (ho : o.op = .binOp .neq t x (.const (.pointer none)) t) (hu : Try.prog.underlying t = some (.pointer (Try.prog.pointee t))) (hn : ρ (.const (.pointer none)) = .pointer none) (hx : ρ x = .pointer (some a)) (h : Φ (.bool true) w) : Gives Try.prog o ρ w Φ := by
  refine Gives.value (w' := w) (v := .bool true) ?_ h
  unfold execOp
  simp only [ho, hx, hn]
  simp [eqGuard, binOp, run_equal_pointer_nil w t _ hu]
theorem gives_neB {t : TypeId} {a b : Bool} (ho : o.op = .binOp .neq t x y t) (hu : Try.prog.underlying t = some .bool) (hx : ρ x = .bool a) (hy : ρ y = .bool b) (h : Φ (.bool (a != b)) w) : Gives Try.prog o ρ w Φ := by
  refine Gives.value (w' := w) (v := .bool (a != b)) ?_ h
  unfold execOp
  simp only [ho, hx, hy]
  simp [eqGuard, binOp, run_equal_bool w t _ _ hu]
  cases a <;> cases b <;> rfl
end
theorem row_turn {w : World} {base : Nat} {v : Value} {bs : List UInt8} (h : w.ownsRow base 5 1 v bs.length (bcells bs)) (k : Nat) (hk : k < bs.length) :
    ∃ g cap, v = .slice (some ⟨g, 0, none⟩) bs.length cap ∧ base ≤ g ∧ (∃ x : UInt8, w.cell? ⟨g, k, none⟩ = some (.int .u8 x.toNat)) ∧ (∀ j, w.frozen? ⟨g, j, none⟩ = false) ∧ ∀ y : UInt8, (w.setCell ⟨g, k, none⟩ (.int .u8 y.toNat)).ownsRow base 5 1 v bs.length (bcells (bs.set k y)) := by
  obtain ⟨hl, h | ⟨g, cap, cur, h1, h2, h3, h4, h5, h6, h7⟩⟩ := h
  · omega
  · refine ⟨g, cap, h1, h2, ⟨bs[k], ?_⟩, fun j => by simp [World.frozen?, h3], fun y => ⟨by rw [bcells_length, List.length_set, Nat.mul_one], .inr ⟨g, cap, _, h1, h2, heap_setCell_same _ _ _ _ _ _ h3, h4, h5, by simpa using h6, ?_⟩⟩⟩
    · have e : (bcells bs)[k]? = some (.int .u8 (bs[k]).toNat) := by simp [bcells, hk]
      rw [← e, ← h7, List.getElem?_take, if_pos (by omega)]
      simp [World.cell?, h3]
    · have e : bcells (bs.set k y) = (bcells bs).set k (.int .u8 y.toNat) := by simp [bcells, List.map_set]
      rw [e, ← h7]
      simp [List.take_set]
theorem xor_byte (x : UInt8) (t : Int) : ∃ y : UInt8, bits BinOp.xor IntKind.u8 (x.toNat : Int) t = (y.toNat : Int) := by
  have h := bounds_u8 (wf_bits BinOp.xor IntKind.u8 (x.toNat : Int) t)
  refine ⟨UInt8.ofNat (bits BinOp.xor IntKind.u8 (x.toNat : Int) t).toNat, ?_⟩
  simp
  omega

set_option maxHeartbeats 8000000 in
set_option maxRecDepth 100000 in
theorem treeLoads_c (vb v0 : Value) (bb : List UInt8) (qs : List AskD) (at_ turn : Int) (w : World) (h1 : BSl w vb bb) (h0 : ASl w v0 qs) :
    Calls Try.prog 5 #[vb, v0, .int .i64 at_, .int .u8 turn] w fun e w' => e = .returned (.bool true) ∧ Below w.heap.size w w' := by
  have HA := hidden h0
  have HVB := hidden h1
  obtain ⟨ao, cap, rfl, hc0, hm0⟩ := h0.len
  unfold maxLen at hm0
  clear h0 h1
  go_enter Try.func5, Try.ntmps5
  go_wp2_with fail
  refine (new_c w).mono ?_
  rintro e w1 ⟨R1, a, rfl, ht1, hb1⟩
  have HT1 := hidden ht1
  have HB1 := hidden hb1
  clear ht1 hb1
  go_wp2_with fail
  go_loopw [10] (fun c wr => ∃ (k : Nat) (R : Nat → Role) (S : Tr), c = .int .i64 k ∧ k ≤ 15 ∧ k ≤ qs.length ∧ TS w.heap.size wr R a S ∧ S.next ≤ k + 1 ∧ Below w.heap.size w wr) (fun c _ => 15 - (intOf c).toNat)
  case atStart => exact ⟨0, R1, newTr, rfl, by omega, by omega, HT1.out, by decide, HB1.out⟩
  case round =>
    obtain ⟨k, R, S, rfl, hk15, hkl, hT, hnx, hb⟩ := hrel
    have HT := hidden hT
    have HB := hidden hb
    clear hT hb
    by_cases hlt : k < qs.length ∧ k < 15
    · obtain ⟨hlt0, hlt1⟩ := hlt
      have q0 : (k : Int) < (qs.length : Int) := by omega
      have q1 : (k : Int) < 15 := by omega
      have hA := HA.out.fresh HB.out
      obtain ⟨eb, eo, rfl, d0, d1, d2, d3, d4, d5, d6, d7, d8, d9, d10, d11, d12, d13, d14⟩ := hA.at k hlt0
      have HG := hidden (HA.out.good (List.getElem_mem hlt0))
      have HGr := hidden (hA.good (List.getElem_mem hlt0))
      clear hA
      generalize qs[k] = en at d0 d1 d2 d3 d4 d5 d6 d7 d8 d9 d10 d11 d12 d13 d14 HG HGr
      obtain ⟨x, pv, tv, bv⟩ := en
      go_wp2_with fail
      obtain ⟨g1, g2, g3, g4, g5, g6⟩ := HGr.out
      refine (short_c x pv tv bv _ g1 g2 g3).mono ?_
      rintro e w2 ⟨pv', tv', bv', rfl, hp2, ht2, hb2, hob2, hbel2⟩
      have HP2 := hidden hp2
      have HBv2 := hidden hb2
      have HBO2 := hidden hob2
      have HB2 := hidden (HB.out.trans (hbel2.mono HB.out.size))
      have HT2 := hidden (HT.out.fresh hbel2)
      have hlp := World.ownsRow.lt hp2
      have hnoP : Hid (∀ k, pv'.ownBlock = some k → R k = .no) := fun k e => HT.out.lim k (hlp k e).1
      clear hp2 hb2 hob2 hbel2 hlp g1 g2 g3 g4 g5 g6 d0 d1 d2 d3 d4 d5 d6 d7 d8 d9 d10 d11 d12 d13 d14
      obtain ⟨a1, k1, rfl⟩ := ownsRow_shape HP2.out
      obtain ⟨at2, kt2, rfl⟩ := ownsRow_shape ht2
      have hbs0 := HBv2.out
      obtain ⟨m3, hm3⟩ : ∃ m, m = (shortA x).b.length := ⟨_, rfl⟩
      obtain ⟨a3, k3, hv3, _⟩ := hbs0
      rw [← hm3] at hv3
      subst hv3
      obtain ⟨m1, hm1⟩ : ∃ m, m = (shortA x).P.length := ⟨_, rfl⟩
      rw [← hm1] at HP2 hnoP ⊢
      rw [show askC (shortA x) (.slice a1 m1 k1) (.slice at2 (shortA x).To.length kt2) (.slice a3 m3 k3) = #[.int .i64 x.kind, .int .i64 x.id, .slice a1 m1 k1, .slice at2 (shortA x).To.length kt2, .bool x.dir, .int .u64 x.at_, .int .u32 x.n, .slice a3 m3 k3, .int .u32 x.a.f, .int .u64 x.a.s, .int .u32 x.a.u, .int .u32 x.a.g, .int .u32 x.a.m, .int .u32 x.a.a, .int .u32 x.a.t] from rfl]
      have HM1 := hidden hm1
      have HM3 := hidden hm3
      clear hm1 hm3 ht2
      go_wp2_with fail
      have hno : Hid ((shortA x).b ≠ [] → ∀ j, (Value.slice a3 m3 k3).ownBlock = some j → j < w.heap.size) := fun hne j e => by
        have hxb : x.b ≠ [] := by rintro h0; exact hne (by show x.b.take 200 = []; rw [h0]; rfl)
        rw [HBO2.out] at e
        have hg := HG.out.2.2.1
        rcases Nat.lt_or_ge j w.heap.size with h | h
        · exact h
        · exact absurd rfl (BSl.apartB hg h hxb j e)
      have hblk := heap_alloc_new w2 (.cells #[.int .i64 x.kind, .int .i64 x.id, .slice a1 m1 k1, .slice at2 (shortA x).To.length kt2, .bool x.dir, .int .u64 x.at_, .int .u32 x.n, .slice a3 m3 k3, .int .u32 x.a.f, .int .u64 x.a.s, .int .u32 x.a.u, .int .u32 x.a.g, .int .u32 x.a.m, .int .u32 x.a.a, .int .u32 x.a.t] 47)
      have hkA := (Keeps.refl (fun _ => False) w2).alloc (.cells #[.int .i64 x.kind, .int .i64 x.id, .slice a1 m1 k1, .slice at2 (shortA x).To.length kt2, .bool x.dir, .int .u64 x.at_, .int .u32 x.n, .slice a3 m3 k3, .int .u32 x.a.f, .int .u64 x.a.s, .int .u32 x.a.u, .int .u32 x.a.g, .int .u32 x.a.m, .int .u32 x.a.a, .int .u32 x.a.t] 47)
      have hbA : Below w.heap.size w (w2.alloc (.cells #[.int .i64 x.kind, .int .i64 x.id, .slice a1 m1 k1, .slice at2 (shortA x).To.length kt2, .bool x.dir, .int .u64 x.at_, .int .u32 x.n, .slice a3 m3 k3, .int .u32 x.a.f, .int .u64 x.a.s, .int .u32 x.a.u, .int .u32 x.a.g, .int .u32 x.a.m, .int .u32 x.a.a, .int .u32 x.a.t] 47)) := HB2.out.alloc HB2.out.size _
      generalize w2.alloc (.cells #[.int .i64 x.kind, .int .i64 x.id, .slice a1 m1 k1, .slice at2 (shortA x).To.length kt2, .bool x.dir, .int .u64 x.at_, .int .u32 x.n, .slice a3 m3 k3, .int .u32 x.a.f, .int .u64 x.a.s, .int .u32 x.a.u, .int .u32 x.a.g, .int .u32 x.a.m, .int .u32 x.a.a, .int .u32 x.a.t] 47) = wA at hblk hkA hbA ⊢
      have htA := HT2.out.still hkA
      have hssl : SSl wA (.slice a1 m1 k1) (shortA x).P := (SOwn.ssl (show SOwn w2 wr.heap.size (.slice a1 m1 k1) (shortA x).P by have h := HP2.out; rw [HM1.out] at h ⊢; exact h)).keep hkA fun _ _ h => h
      have hbsA := HBv2.out.keep hkA fun _ _ h => h
      refine (make_t htA hbA.size _ (shortA x).P hssl hnoP.out x.dir (by omega)).mono ?_
      rintro e w3 ⟨rfl, R3, ht3, hm3⟩
      have hw2no := HT2.out.lim w2.heap.size (Nat.le_refl _)
      have hblk3 := (hm3.keeps.block w2.heap.size (lt_of_block hblk) (fun h => h hw2no)).trans hblk
      obtain ⟨_, _, _, _, _, _, _, c7, _⟩ := cells15 hblk3
      have HBv3 := hidden (hbsA.keepE hm3.keeps fun hne j e h => h (HT2.out.2.2 j (hno.out hne j e)))
      have HT3 := hidden ht3
      have HB3 : Hid (Below w.heap.size w w3) := hbA.trans (hm3.below HT2.out.2.2 hbA.size)
      have HN3 := hidden (makeT_next S (shortA x).P x.dir)
      clear ht3 hm3 hblk hblk3 hkA hbA htA hssl hbsA hw2no
      go_wp2_with fail
      have hwr := write_t HT3.out HB3.out.size (k : Int) 0 (by omega) _ (shortA x).b HBv3.out (by show (x.b.take 200).length ≤ _; rw [List.length_take]; omega) (fun hne j e => HT3.out.2.2 j (hno.out hne j e))
      rw [show ((0 : Nat) : Int) = 0 from rfl] at hwr
      refine hwr.mono ?_
      rintro e w4 ⟨rfl, R4, ht4, hm4⟩
      have HT4 := hidden ht4
      have HB4 : Hid (Below w.heap.size w w4) := HB3.out.trans (hm4.below HT3.out.2.2 HB3.out.size)
      clear ht4 hm4 hwr c7
      go_wp2_with fail
      go_roundw
      case rel => exact ⟨k + 1, R4, _, by go_num, by omega, by omega, HT4.out, by rw [writeT_next]; have := HN3.out; omega, HB4.out⟩
      case measure => simp [intOf]; omega
    · have hcond : (¬ (k : Int) < (qs.length : Int)) ∨ ((k : Int) < (qs.length : Int) ∧ ¬ (k : Int) < 15) := by omega
      have hnx2 : S.next ≤ 16 := by omega
      clear hlt hnx
      rcases hcond with h | ⟨h, h'⟩
      all_goals
        go_wp2_with fail
        refine (save_t HT.out (by omega)).mono ?_
        rintro e w2 ⟨vs, bs, rfl, hsv, hbl, hown, hb2⟩
        have HB2 := hidden (HB.out.trans (hb2.mono HB.out.size))
        have HOW := hidden hown
        have hpos : 0 < bs.length := by
          obtain ⟨F, r, _, rfl⟩ := hsv
          rw [List.length_append, be_length]; omega
        obtain ⟨ao2, cp2, rfl⟩ := ownsRow_shape hown
        have HBL := hidden hbl
        obtain ⟨m, hm⟩ : ∃ m, bs.length = m + 1 := ⟨bs.length - 1, by omega⟩
        have hml : m ≤ 220000007 := by omega
        have HWW := HB.out.size
        rw [hm]
        have HM := hidden hm
        have HSW := hb2.size
        clear hsv hown hb2 HT hpos hm hbl
        go_wp2_with fail
        refine (within_c at_ m (by omega) _).mono ?_
        rintro e wq ⟨k2, rfl, hk2, hq⟩; obtain rfl := hq.symm; clear hq
        obtain ⟨g, cp3, hgs, hgb, ⟨xb, hxb⟩, hgf, hgset⟩ := row_turn HOW.out k2 (by rw [HM.out]; omega)
        rw [HM.out] at hgs
        cases hgs
        have hki : (k2 : Int) < (m : Int) + 1 := by omega
        obtain ⟨yb, hyb⟩ := xor_byte xb turn
        have HST := hidden (hgset yb)
        have hbs : Below w.heap.size w (w2.setCell ⟨g, k2, none⟩ (.int .u8 yb.toNat)) := HB2.out.trans ((keeps_set w2 g k2 _).below HB2.out.size fun k h => by omega)
        have HB3 := hidden hbs
        clear hgset hbs hgb
        go_wp2_with fail
        generalize w2.setCell ⟨g, k2, none⟩ (.int .u8 yb.toNat) = w3 at HST HB3 ⊢
        clear hxb hgf hyb
        refine (cut_c 500 (by omega) vb bb w3 (HVB.out.fresh HB3.out)).mono ?_
        rintro e wq ⟨bv, rfl, hbv, _, hq⟩; obtain rfl := hq.symm; clear hq
        have hrow2 : BSl w3 (.slice (some ⟨g, 0, none⟩) (m + 1) cp2) (bs.set k2 yb) := BSl.ofRow (by have h := HST.out; rw [HM.out] at h; exact h)
        obtain ⟨bo, bn, bc, hbe⟩ : ∃ ao n c, bv = .slice ao n c := by obtain ⟨ao, c, e, _⟩ := hbv; exact ⟨ao, _, c, e⟩
        subst hbe
        have HY1 := hidden hbv
        have HY2 := hidden hrow2
        clear hbv hrow2
        go_wp2_with fail
        have hkA := (Keeps.refl (fun _ => False) w3).alloc (.cells #[.slice bo bn bc, .slice (some ⟨g, 0, none⟩) (m + 1) cp2] 30)
        have hblk := heap_alloc_new w3 (.cells #[.slice bo bn bc, .slice (some ⟨g, 0, none⟩) (m + 1) cp2] 30)
        have HBA := hidden (HB3.out.alloc HB3.out.size (.cells #[.slice bo bn bc, .slice (some ⟨g, 0, none⟩) (m + 1) cp2] 30))
        have hy1 := HY1.out.keep hkA fun _ _ h => h
        have hy2 := HY2.out.keep hkA fun _ _ h => h
        generalize w3.alloc (.cells #[.slice bo bn bc, .slice (some ⟨g, 0, none⟩) (m + 1) cp2] 30) = w4 at hkA hblk HBA hy1 hy2 ⊢
        generalize w3.heap.size = lb at hblk ⊢
        have HYY : Hid (∀ (k : Nat), k < 2 → ∀ W, Below w4.heap.size w4 W → ∃ ao n c Y, W.cell? ⟨lb, k, none⟩ = some (.slice ao n c) ∧ BSl W (.slice ao n c) Y ∧ Y.length ≤ 1000000000) := fun k hk W hW => by
          have hb := (hW.block lb (lt_of_block hblk)).trans hblk
          have h2 : k = 0 ∨ k = 1 := by omega
          rcases h2 with rfl | rfl
          · exact ⟨_, _, _, _, by simp [World.cell?, hb], hy1.fresh hW, by rw [List.length_take]; omega⟩
          · exact ⟨_, _, _, _, by simp [World.cell?, hb], hy2.fresh hW, by rw [List.length_set, HM.out]; omega⟩
        clear hkA hblk hy1 hy2
        go_loopw [71] (fun c wr => ∃ k : Nat, c = .int .i64 k ∧ k ≤ 2 ∧ Below w4.heap.size w4 wr) (fun c _ => 2 - (intOf c).toNat)
        case atStart => exact ⟨0, rfl, by omega, Below.refl _ _⟩
        case round =>
          obtain ⟨k5, rfl, hk5, hb5⟩ := hrel
          have HB5 := hidden hb5
          clear hb5
          by_cases hlt5 : k5 < 2
          · have hi5 : (k5 : Int) < 2 := by omega
            obtain ⟨yo, yn, yc, Y, hyc, hyv, hyl⟩ := HYY.out k5 hlt5 wr HB5.out
            have HYV := hidden hyv
            clear hyv
            go_wp2_with fail
            refine (load_c _ Y wr HYV.out (by omega)).mono ?_
            intro e w6 h6
            unfold LoadPost at h6
            cases hld : loadT Y with
            | none =>
              rw [hld] at h6
              obtain ⟨rfl, hb6⟩ := h6
              have HB6 := hidden (HB5.out.trans (hb6.mono HB5.out.size))
              clear hb6 hld hyc
              go_wp2_with fail
              go_quiet (fail)
              go_wp2_with fail
              go_roundw
              case rel => exact ⟨k5 + 1, by go_num, hlt5, HB6.out.trans (Keeps.below ((Keeps.refl (fun _ => False) w6).drewN nq) HB6.out.size fun _ h => h.elim)⟩
              case measure => simp [intOf]; omega
            | some q =>
              obtain ⟨nx, x, kf⟩ := q
              rw [hld] at h6
              obtain ⟨R6, a6, S6, rfl, ht6, hb6, hsn, hsm⟩ := h6
              have HB6 := hidden (HB5.out.trans (hb6.mono HB5.out.size))
              have HY6 := hidden (HYV.out.fresh hb6)
              have hsy : savesTo S6 Y ∧ S6.next ≤ 4611686018427387903 := by
                obtain ⟨_, ⟨pa, nm, o⟩, _⟩ := ht6
                obtain ⟨l6, n6⟩ := S6
                have hsn : n6 = nx := hsn
                subst hsn
                obtain ⟨_, h2, h3, _⟩ := loadT_tree hld o.inc hsm
                exact ⟨h2, h3⟩
              have HSV : Hid (∀ W, Below w6.heap.size w6 W → Calls Try.prog 19 #[.pointer (some ⟨a6, 0, none⟩)] W fun e W' => ∃ v, e = .returned v ∧ Ex W W' ∧ (Fact.bsl Y).holds v W') := fun W hW => by
                refine (save_t (ht6.fresh hW) (by have := hsy.2; omega)).mono ?_
                rintro e W' ⟨vs, bs2, rfl, hsv2, _, hown2, hb2⟩
                obtain rfl := savesTo_uniq hsy.1 hsv2
                exact ⟨_, rfl, hb2, BSl.ofRow hown2⟩
              clear ht6 hb6 hsn hsm hsy hld hyc
              go_upto_region 18 with fail
              go_cut [104] from 72 to 104 (fun c wx => c = .bool false ∧ Below w6.heap.size w6 wx)
              case first =>
                refine region_free [(.val (.pointer (some ⟨a6, 0, none⟩))), (.val (.bool false)), (.val (.int .i64 0)), (.val (.bool false)), (.val (.bool false)), (.val (.bool false)), (.val (.int .i64 0)), (.val (.bool false)), (.val (.bool false)), (.val undef), (.val undef), (.val (.bool false)), (.val (.bool false)), (.val (.bool false)), (.val (.pointer (some ⟨a6, 0, none⟩))), (.val (.bool true)), (.val (.bool true)), (.val (.pointer (some ⟨a6, 0, none⟩))), (.bsl Y), (.val (.string ⟨(List.toArray Y)⟩)), (.val (.slice yo yn yc)), (.val (.string ⟨(List.toArray Y)⟩)), (.val (.bool false)), (.val (.bool false)), (.val (.bool false))] (by kernel_rfl) ?_ ?_
                · refine req_cons (.val (.pointer (some ⟨a6, 0, none⟩))) (by kernel_rfl) (fun vs w1 he hd => StepG.plain (by kernel_rfl) (gives_move (x := (.tmp 16)) (v := (.pointer (some ⟨a6, 0, none⟩))) (by kernel_rfl) (by kernel_rfl) ⟨Ex.refl _, rfl⟩)) ?_
                  refine req_cons (.val (.bool false)) (by kernel_rfl) (fun vs w1 he hd => StepG.plain (by kernel_rfl) (gives_eqP (t := 24) (a := ⟨a6, 0, none⟩) (x := .tmp 80) (by kernel_rfl) (by kernel_rfl) (by kernel_rfl) (Eq.trans (b := vs 0) (by kernel_rfl) (hd 0 (.val (.pointer (some ⟨a6, 0, none⟩))) (by kernel_rfl) (by kernel_rfl))) ⟨Ex.refl _, rfl⟩)) ?_
                  refine req_cons (.val (.int .i64 0)) (by kernel_rfl) (fun vs w1 he hd => StepG.plain (by kernel_rfl) (gives_move (x := (.tmp 17)) (v := (.int .i64 0)) (by kernel_rfl) (by kernel_rfl) ⟨Ex.refl _, rfl⟩)) ?_
                  refine req_cons (.val (.bool false)) (by kernel_rfl) (fun vs w1 he hd => StepG.plain (by kernel_rfl) (gives_neI (t := 26) (k := .i64) (a := 0) (b := 0) (x := (.tmp 82)) (y := (.const (.int .i64 0))) (r := false) (by kernel_rfl) (Eq.trans (b := vs 2) (by kernel_rfl) (hd 2 (.val (.int .i64 0)) (by kernel_rfl) (by kernel_rfl))) (by kernel_rfl) (by simp) ⟨Ex.refl _, rfl⟩)) ?_
                  refine req_cons (.val (.bool false)) (by kernel_rfl) (fun vs w1 he hd => StepG.plain (by kernel_rfl) (gives_neB (t := 4) (a := false) (b := false) (x := .tmp 81) (y := .tmp 83) (by kernel_rfl) (by kernel_rfl) (Eq.trans (b := vs 1) (by kernel_rfl) (hd 1 (.val (.bool false)) (by kernel_rfl) (by kernel_rfl))) (Eq.trans (b := vs 3) (by kernel_rfl) (hd 3 (.val (.bool false)) (by kernel_rfl) (by kernel_rfl))) ⟨Ex.refl _, rfl⟩)) ?_
                  refine req_cons (.val (.bool false)) (by kernel_rfl) (fun vs w1 he hd => StepG.plain (by kernel_rfl) (gives_move (x := (.tmp 84)) (v := (.bool false)) (by kernel_rfl) (Eq.trans (b := vs 4) (by kernel_rfl) (hd 4 (.val (.bool false)) (by kernel_rfl) (by kernel_rfl))) ⟨Ex.refl _, rfl⟩)) ?_
                  refine req_cons (.val (.int .i64 0)) (by kernel_rfl) (fun vs w1 he hd => StepG.on (g := 5) (d := 85) (x := false) (v := vs 5) (by kernel_rfl) (by kernel_rfl) (by kernel_rfl) (hd 5 (.val (.bool false)) (by kernel_rfl) (by kernel_rfl)) (gives_move (x := (.tmp 17)) (v := (.int .i64 0)) (by kernel_rfl) (by kernel_rfl) ⟨Ex.refl _, rfl⟩)) ?_
                  refine req_cons (.val (.bool false)) (by kernel_rfl) (fun vs w1 he hd => StepG.on (g := 5) (d := 85) (x := false) (v := vs 5) (by kernel_rfl) (by kernel_rfl) (by kernel_rfl) (hd 5 (.val (.bool false)) (by kernel_rfl) (by kernel_rfl)) (gives_neI (t := 26) (k := .i64) (a := 0) (b := 0) (x := (.tmp 86)) (y := (.const (.int .i64 0))) (r := false) (by kernel_rfl) (Eq.trans (b := vs 6) (by kernel_rfl) (hd 6 (.val (.int .i64 0)) (by kernel_rfl) (by kernel_rfl))) (by kernel_rfl) (by simp) ⟨Ex.refl _, rfl⟩)) ?_
                  refine req_cons (.val (.bool false)) (by kernel_rfl) (fun vs w1 he hd => StepG.on (g := 5) (d := 85) (x := false) (v := vs 5) (by kernel_rfl) (by kernel_rfl) (by kernel_rfl) (hd 5 (.val (.bool false)) (by kernel_rfl) (by kernel_rfl)) (gives_move (x := (.tmp 87)) (v := (.bool false)) (by kernel_rfl) (Eq.trans (b := vs 7) (by kernel_rfl) (hd 7 (.val (.bool false)) (by kernel_rfl) (by kernel_rfl))) ⟨Ex.refl _, rfl⟩)) ?_
                  refine req_cons (.val undef) (by kernel_rfl) (fun vs w1 he hd => StepG.off (g := 8) (d := 88) (x := true) (v := vs 8) (by kernel_rfl) (by kernel_rfl) (by kernel_rfl) (.inl (hd 8 (.val (.bool false)) (by kernel_rfl) (by kernel_rfl))) ⟨Ex.refl _, rfl⟩) ?_
                  refine req_cons (.val undef) (by kernel_rfl) (fun vs w1 he hd => StepG.off (g := 8) (d := 88) (x := true) (v := vs 8) (by kernel_rfl) (by kernel_rfl) (by kernel_rfl) (.inl (hd 8 (.val (.bool false)) (by kernel_rfl) (by kernel_rfl))) ⟨Ex.refl _, rfl⟩) ?_
                  refine req_cons (.val (.bool false)) (by kernel_rfl) (fun vs w1 he hd => StepG.on (g := 5) (d := 85) (x := false) (v := vs 5) (by kernel_rfl) (by kernel_rfl) (by kernel_rfl) (hd 5 (.val (.bool false)) (by kernel_rfl) (by kernel_rfl)) (gives_pick_f (x := (.tmp 88)) (y := (.tmp 90)) (z := (.const (.bool false))) (v := (.bool false)) (by kernel_rfl) (Eq.trans (b := vs 8) (by kernel_rfl) (hd 8 (.val (.bool false)) (by kernel_rfl) (by kernel_rfl))) (by kernel_rfl) ⟨Ex.refl _, rfl⟩)) ?_
                  refine req_cons (.val (.bool false)) (by kernel_rfl) (fun vs w1 he hd => StepG.plain (by kernel_rfl) (gives_pick_f (x := (.tmp 85)) (y := (.const (.bool true))) (z := (.tmp 91)) (v := (.bool false)) (by kernel_rfl) (Eq.trans (b := vs 5) (by kernel_rfl) (hd 5 (.val (.bool false)) (by kernel_rfl) (by kernel_rfl))) (Eq.trans (b := vs 11) (by kernel_rfl) (hd 11 (.val (.bool false)) (by kernel_rfl) (by kernel_rfl))) ⟨Ex.refl _, rfl⟩)) ?_
                  refine req_cons (.val (.bool false)) (by kernel_rfl) (fun vs w1 he hd => StepG.plain (by kernel_rfl) (gives_move (x := (.tmp 92)) (v := (.bool false)) (by kernel_rfl) (Eq.trans (b := vs 12) (by kernel_rfl) (hd 12 (.val (.bool false)) (by kernel_rfl) (by kernel_rfl))) ⟨Ex.refl _, rfl⟩)) ?_
                  refine req_cons (.val (.pointer (some ⟨a6, 0, none⟩))) (by kernel_rfl) (fun vs w1 he hd => StepG.on (g := 13) (d := 93) (x := false) (v := vs 13) (by kernel_rfl) (by kernel_rfl) (by kernel_rfl) (hd 13 (.val (.bool false)) (by kernel_rfl) (by kernel_rfl)) (gives_move (x := (.tmp 16)) (v := (.pointer (some ⟨a6, 0, none⟩))) (by kernel_rfl) (by kernel_rfl) ⟨Ex.refl _, rfl⟩)) ?_
                  refine req_cons (.val (.bool true)) (by kernel_rfl) (fun vs w1 he hd => StepG.on (g := 13) (d := 93) (x := false) (v := vs 13) (by kernel_rfl) (by kernel_rfl) (by kernel_rfl) (hd 13 (.val (.bool false)) (by kernel_rfl) (by kernel_rfl)) (gives_neP (t := 24) (a := ⟨a6, 0, none⟩) (x := .tmp 94) (by kernel_rfl) (by kernel_rfl) (by kernel_rfl) (Eq.trans (b := vs 14) (by kernel_rfl) (hd 14 (.val (.pointer (some ⟨a6, 0, none⟩))) (by kernel_rfl) (by kernel_rfl))) ⟨Ex.refl _, rfl⟩)) ?_
                  refine req_cons (.val (.bool true)) (by kernel_rfl) (fun vs w1 he hd => StepG.on (g := 13) (d := 93) (x := false) (v := vs 13) (by kernel_rfl) (by kernel_rfl) (by kernel_rfl) (hd 13 (.val (.bool false)) (by kernel_rfl) (by kernel_rfl)) (gives_move (x := (.tmp 95)) (v := (.bool true)) (by kernel_rfl) (Eq.trans (b := vs 15) (by kernel_rfl) (hd 15 (.val (.bool true)) (by kernel_rfl) (by kernel_rfl))) ⟨Ex.refl _, rfl⟩)) ?_
                  refine req_cons (.val (.pointer (some ⟨a6, 0, none⟩))) (by kernel_rfl) (fun vs w1 he hd => StepG.on (g := 16) (d := 96) (x := true) (v := vs 16) (by kernel_rfl) (by kernel_rfl) (by kernel_rfl) (hd 16 (.val (.bool true)) (by kernel_rfl) (by kernel_rfl)) (gives_move (x := (.tmp 16)) (v := (.pointer (some ⟨a6, 0, none⟩))) (by kernel_rfl) (by kernel_rfl) ⟨Ex.refl _, rfl⟩)) ?_
                  refine req_cons (.bsl Y) (by kernel_rfl) (fun vs w1 he hd => StepG.on (g := 16) (d := 96) (x := true) (v := vs 16) (by kernel_rfl) (by kernel_rfl) (by kernel_rfl) (hd 16 (.val (.bool true)) (by kernel_rfl) (by kernel_rfl)) (gives_call (f := 19) (xs := #[(.tmp 97)]) (ts := #[24]) (vs := #[(vs 17)]) (by kernel_rfl) (by kernel_rfl) (by kernel_rfl) Try.func19 (by kernel_rfl) (by kernel_rfl) (by rw [show vs 17 = (.pointer (some ⟨a6, 0, none⟩)) from (hd 17 (.val (.pointer (some ⟨a6, 0, none⟩))) (by kernel_rfl) (by kernel_rfl))]; exact HSV.out w1 he))) ?_
                  refine req_cons (.val (.string ⟨(List.toArray Y)⟩)) (by kernel_rfl) (fun vs w1 he hd => StepG.on (g := 16) (d := 96) (x := true) (v := vs 16) (by kernel_rfl) (by kernel_rfl) (by kernel_rfl) (hd 16 (.val (.bool true)) (by kernel_rfl) (by kernel_rfl)) (gives_str (x := (.tmp 98)) (v := (vs 18)) (xs := Y) (by kernel_rfl) (by kernel_rfl) ((hd 18 (.bsl Y) (by kernel_rfl) (by kernel_rfl))) ⟨Ex.refl _, rfl⟩)) ?_
                  refine req_cons (.val (.slice yo yn yc)) (by kernel_rfl) (fun vs w1 he hd => StepG.on (g := 16) (d := 96) (x := true) (v := vs 16) (by kernel_rfl) (by kernel_rfl) (by kernel_rfl) (hd 16 (.val (.bool true)) (by kernel_rfl) (by kernel_rfl)) (gives_move (x := (.tmp 15)) (v := (.slice yo yn yc)) (by kernel_rfl) (by kernel_rfl) ⟨Ex.refl _, rfl⟩)) ?_
                  refine req_cons (.val (.string ⟨(List.toArray Y)⟩)) (by kernel_rfl) (fun vs w1 he hd => StepG.on (g := 16) (d := 96) (x := true) (v := vs 16) (by kernel_rfl) (by kernel_rfl) (by kernel_rfl) (hd 16 (.val (.bool true)) (by kernel_rfl) (by kernel_rfl)) (gives_str (x := (.tmp 100)) (v := (.slice yo yn yc)) (xs := Y) (by kernel_rfl) (Eq.trans (b := vs 20) (by kernel_rfl) (hd 20 (.val (.slice yo yn yc)) (by kernel_rfl) (by kernel_rfl))) ((HY6.out.fresh he)) ⟨Ex.refl _, rfl⟩)) ?_
                  refine req_cons (.val (.bool false)) (by kernel_rfl) (fun vs w1 he hd => StepG.on (g := 16) (d := 96) (x := true) (v := vs 16) (by kernel_rfl) (by kernel_rfl) (by kernel_rfl) (hd 16 (.val (.bool true)) (by kernel_rfl) (by kernel_rfl)) (gives_neS (x := (.tmp 99)) (y := (.tmp 101)) (xs := Y) (ys := Y) (r := false) (by kernel_rfl) (Eq.trans (b := vs 19) (by kernel_rfl) (hd 19 (.val (.string ⟨(List.toArray Y)⟩)) (by kernel_rfl) (by kernel_rfl))) (Eq.trans (b := vs 21) (by kernel_rfl) (hd 21 (.val (.string ⟨(List.toArray Y)⟩)) (by kernel_rfl) (by kernel_rfl))) (by simp) ⟨Ex.refl _, rfl⟩)) ?_
                  refine req_cons (.val (.bool false)) (by kernel_rfl) (fun vs w1 he hd => StepG.on (g := 13) (d := 93) (x := false) (v := vs 13) (by kernel_rfl) (by kernel_rfl) (by kernel_rfl) (hd 13 (.val (.bool false)) (by kernel_rfl) (by kernel_rfl)) (gives_pick_t (x := (.tmp 96)) (y := (.tmp 102)) (z := (.const (.bool false))) (v := (.bool false)) (by kernel_rfl) (Eq.trans (b := vs 16) (by kernel_rfl) (hd 16 (.val (.bool true)) (by kernel_rfl) (by kernel_rfl))) (Eq.trans (b := vs 22) (by kernel_rfl) (hd 22 (.val (.bool false)) (by kernel_rfl) (by kernel_rfl))) ⟨Ex.refl _, rfl⟩)) ?_
                  refine req_cons (.val (.bool false)) (by kernel_rfl) (fun vs w1 he hd => StepG.plain (by kernel_rfl) (gives_pick_f (x := (.tmp 93)) (y := (.const (.bool true))) (z := (.tmp 103)) (v := (.bool false)) (by kernel_rfl) (Eq.trans (b := vs 13) (by kernel_rfl) (hd 13 (.val (.bool false)) (by kernel_rfl) (by kernel_rfl))) (Eq.trans (b := vs 23) (by kernel_rfl) (hd 23 (.val (.bool false)) (by kernel_rfl) (by kernel_rfl))) ⟨Ex.refl _, rfl⟩)) ?_
                  exact req_nil
                intro vs w7 hx hF
                have e0 : vs 0 = (.pointer (some ⟨a6, 0, none⟩)) := told_at hF 0 (.val (.pointer (some ⟨a6, 0, none⟩))) (by decide) (by kernel_rfl)
                have e1 : vs 1 = (.bool false) := told_at hF 1 (.val (.bool false)) (by decide) (by kernel_rfl)
                have e2 : vs 2 = (.int .i64 0) := told_at hF 2 (.val (.int .i64 0)) (by decide) (by kernel_rfl)
                have e3 : vs 3 = (.bool false) := told_at hF 3 (.val (.bool false)) (by decide) (by kernel_rfl)
                have e4 : vs 4 = (.bool false) := told_at hF 4 (.val (.bool false)) (by decide) (by kernel_rfl)
                have e5 : vs 5 = (.bool false) := told_at hF 5 (.val (.bool false)) (by decide) (by kernel_rfl)
                have e6 : vs 6 = (.int .i64 0) := told_at hF 6 (.val (.int .i64 0)) (by decide) (by kernel_rfl)
                have e7 : vs 7 = (.bool false) := told_at hF 7 (.val (.bool false)) (by decide) (by kernel_rfl)
                have e8 : vs 8 = (.bool false) := told_at hF 8 (.val (.bool false)) (by decide) (by kernel_rfl)
                have e9 : vs 9 = undef := told_at hF 9 (.val undef) (by decide) (by kernel_rfl)
                have e10 : vs 10 = undef := told_at hF 10 (.val undef) (by decide) (by kernel_rfl)
                have e11 : vs 11 = (.bool false) := told_at hF 11 (.val (.bool false)) (by decide) (by kernel_rfl)
                have e12 : vs 12 = (.bool false) := told_at hF 12 (.val (.bool false)) (by decide) (by kernel_rfl)
                have e13 : vs 13 = (.bool false) := told_at hF 13 (.val (.bool false)) (by decide) (by kernel_rfl)
                have e14 : vs 14 = (.pointer (some ⟨a6, 0, none⟩)) := told_at hF 14 (.val (.pointer (some ⟨a6, 0, none⟩))) (by decide) (by kernel_rfl)
                have e15 : vs 15 = (.bool true) := told_at hF 15 (.val (.bool true)) (by decide) (by kernel_rfl)
                have e16 : vs 16 = (.bool true) := told_at hF 16 (.val (.bool true)) (by decide) (by kernel_rfl)
                have e17 : vs 17 = (.pointer (some ⟨a6, 0, none⟩)) := told_at hF 17 (.val (.pointer (some ⟨a6, 0, none⟩))) (by decide) (by kernel_rfl)
                have e19 : vs 19 = (.string ⟨(List.toArray Y)⟩) := told_at hF 19 (.val (.string ⟨(List.toArray Y)⟩)) (by decide) (by kernel_rfl)
                have e20 : vs 20 = (.slice yo yn yc) := told_at hF 20 (.val (.slice yo yn yc)) (by decide) (by kernel_rfl)
                have e21 : vs 21 = (.string ⟨(List.toArray Y)⟩) := told_at hF 21 (.val (.string ⟨(List.toArray Y)⟩)) (by decide) (by kernel_rfl)
                have e22 : vs 22 = (.bool false) := told_at hF 22 (.val (.bool false)) (by decide) (by kernel_rfl)
                have e23 : vs 23 = (.bool false) := told_at hF 23 (.val (.bool false)) (by decide) (by kernel_rfl)
                have e24 : vs 24 = (.bool false) := told_at hF 24 (.val (.bool false)) (by decide) (by kernel_rfl)
                simp only [List.length_cons, List.length_nil, actsTo, if_true, dstOf, List.getElem?_toArray, List.getElem?_cons_succ, List.getElem?_cons_zero, Option.bind_some, Act.put, List.setIfInBounds_toArray, List.set_cons_zero, List.set_cons_succ]
                simp only [e0, e1, e2, e3, e4, e5, e6, e7, e8, e9, e10, e11, e12, e13, e14, e15, e16, e17, e19, e20, e21, e22, e23, e24]
                generalize vs 18 = y18
                clear hF e0 e1 e2 e3 e4 e5 e6 e7 e8 e9 e10 e11 e12 e13 e14 e15 e16 e17 e19 e20 e21 e22 e23 e24 vs
                go_wp2_with fail
                go_meet
                case rel => exact ⟨rfl, hx⟩
              case rest =>
                obtain ⟨hq1, hq2⟩ := hcut
                subst hq1
                have HB7 : Hid (Below w4.heap.size w4 wc) := HB6.out.trans (hq2.mono HB6.out.size)
                clear hq2
                go_wp2_with fail
                go_roundw
                case rel => exact ⟨k5 + 1, by go_num, hlt5, HB7.out⟩
                case measure => simp [intOf]; omega
          · obtain rfl : k5 = 2 := by omega
            have hi5 : ¬ ((2 : Nat) : Int) < 2 := by omega
            go_wp2_with fail
            refine (known_c _).mono ?_
            rintro e w17 ⟨rfl, hb17⟩
            have HB17 := hidden ((HBA.out.trans (HB5.out.mono HBA.out.size)).trans (hb17.mono (by have := HBA.out.size; have := HB5.out.size; omega)))
            clear hb17
            go_wp2_with fail
            go_ret
            exact ⟨rfl, HB17.out⟩
end Go.Proofs.Ytnigfnikajejaaa
