/- Load, in memory: the state of a load; a thing's bytes. -/
import Derived.Test.YtnigfnikajejaaaTvM
namespace Go.Proofs.Ytnigfnikajejaaa
open Go Go.RowKit

/-- A load under way: the tree so far, the reader. -/
structure LS (w : World) (R : Nat → Role) (a ar : Nat) (g : Option Nat) (bs : List UInt8) (nx : Nat) (L : List Th) (B : Nat → Nat) (dv hv : Nat → Value) (tv : Value) (s : Ld) : Prop where
  tx : TXb w R a ⟨L, nx⟩ B dv hv tv
  rd : WR w ar g bs s.p s.y
  ra : R ar = .no
  rg : bs ≠ [] → ∀ k, g = some k → R k = .no
  inc : Inc L
  ids : ∀ i, i ∈ s.ids ↔ ∃ z ∈ L, z.id = i
  nod : s.ids.Nodup
  len : L.length = s.ids.length
  cnt : L.length ≤ 200
  sz : sizeT L = s.z
  bytes : s.z ≤ 1048576
  kids : ∀ y ∈ L, ∀ e ∈ y.h, ∃ z ∈ L, z.id = e.2
section
variable {w w' : World} {R R' : Nat → Role} {a ar : Nat} {g : Option Nat} {bs : List UInt8} {nx : Nat} {L : List Th} {B : Nat → Nat} {dv hv : Nat → Value} {tv : Value} {s : Ld}
theorem LS.took {p : Nat} {y : Int} (h : LS w R a ar g bs nx L B dv hv tv s) (ht : Took ar g bs p y w w') : LS w' R a ar g bs nx L B dv hv tv ⟨p, y, s.ids, s.z⟩ :=
  ⟨h.tx.keep ht.keeps fun k hk e => hk (by rw [e]; exact h.ra), ht.state, h.ra, h.rg, h.inc, h.ids, h.nod, h.len, h.cnt, h.sz, h.bytes, h.kids⟩
theorem LS.still (h : LS w R a ar g bs nx L B dv hv tv s) (hk : Keeps (fun _ => False) w w') : LS w' R a ar g bs nx L B dv hv tv s :=
  ⟨h.tx.still hk, h.rd.same hk, h.ra, h.rg, h.inc, h.ids, h.nod, h.len, h.cnt, h.sz, h.bytes, h.kids⟩
theorem LS.fresh (h : LS w R a ar g bs nx L B dv hv tv s) (hb : Below w.heap.size w w') : LS w' R a ar g bs nx L B dv hv tv s := h.still (Keeps.ofFresh hb)
/-- The reader stays where the tree turns. -/
theorem LS.reader {T : Nat → Prop} (h : LS w R a ar g bs nx L B dv hv tv s) (hk : Keeps T w w') (hT : ∀ k, k < w.heap.size → T k → R k ≠ .no) (hR : ∀ k, k < w.heap.size → R' k = R k) :
    WR w' ar g bs s.p s.y ∧ R' ar = .no ∧ (bs ≠ [] → ∀ k, g = some k → R' k = .no) := by
  have hlt := h.rd.lt
  have hg : bs ≠ [] → ∀ k, g = some k → k < w.heap.size := fun hb k e => by
    rcases Nat.lt_or_ge k w.heap.size with h1 | h1
    · exact h1
    · exact absurd rfl (h.rd.apartB h1 hb k e)
  exact ⟨h.rd.keepE hk (fun e => hT _ hlt e h.ra) (fun hb k e e2 => hT k (hg hb k e) e2 (h.rg hb k e)), by rw [hR _ hlt]; exact h.ra, fun hb k e => by rw [hR k (hg hb k e)]; exact h.rg hb k e⟩
theorem setT_same {l : List Th} (hi : Inc l) {x : Th} (hx : x ∈ l) {f : Th → Th} (hf : f x = x) : setT l x.id f = l := by
  unfold setT
  conv => rhs; rw [← List.map_id l]
  apply List.map_congr_left
  intro y hy
  split
  · next e =>
    have : y = x := hi.uniq hy hx e
    rw [this, hf]; rfl
  · rfl
def setD (d : List UInt8) (x : Th) : Th := { x with d := d }
def setH (h : HL) (x : Th) : Th := { x with h := h }
theorem ids_setT {l : List Th} {i : Nat} {f : Th → Th} (hf : ∀ x, (f x).id = x.id) (j : Nat) : (∃ z ∈ setT l i f, z.id = j) ↔ ∃ z ∈ l, z.id = j := by
  constructor
  · rintro ⟨z, hz, rfl⟩
    obtain ⟨u, hu, rfl⟩ := mem_setT.1 hz
    exact ⟨u, hu, by split; exact (hf u).symm; rfl⟩
  · rintro ⟨z, hz, rfl⟩
    exact ⟨_, mem_setT.2 ⟨z, hz, rfl⟩, by split; exact hf z; rfl⟩
/-- What loadData leaves. -/
def DPost (a ar : Nat) (g : Option Nat) (bs : List UInt8) (nx : Nat) (R : Nat → Role) (L : List Th) (B : Nat → Nat) (tv : Value) (i : Nat) (r : Option (Hd × Ld)) (w : World) (e : Ending) (w' : World) : Prop := match r with
  | none => e = .returned (.bool false) ∧ MvR ar R R w w'
  | some (y, s') => e = .returned (.bool true) ∧ ∃ R' dv' hv', LS w' R' a ar g bs nx (setT L i (setD y.d)) B dv' hv' tv s' ∧ MvR ar R R' w w'
set_option maxHeartbeats 4000000 in
set_option maxRecDepth 100000 in
theorem loadData_c (h : LS w R a ar g bs nx L B dv hv tv s) {x : Th} (hx : x ∈ L) (hd : x.d = []) :
    Calls Try.prog 69 #[.pointer (some ⟨a, 0, none⟩), .pointer (some ⟨B x.id, 0, none⟩), .pointer (some ⟨ar, 0, none⟩)] w (DPost a ar g bs nx R L B tv x.id (dataO bs ⟨x.id, x.dir, x.a, []⟩ s) w) := by
  have HL := hidden h
  have HX := hidden hx
  have hT := h.tx.th x hx
  have c1 := hT.c1
  have c3 := hT.ca.2.1
  have hzs := h.sz
  have hzb := h.bytes
  have HR : Hid (dataO bs ⟨x.id, x.dir, x.a, []⟩ s = if x.dir then (if x.a.s = 0 then some (⟨x.id, x.dir, x.a, []⟩, s) else none)
    else if 1048576 < x.a.s ∨ 1048576 < s.z + x.a.s then none
    else some (⟨x.id, x.dir, x.a, (tk bs s.p s.y x.a.s).1⟩, ⟨(tk bs s.p s.y x.a.s).2.1, (tk bs s.p s.y x.a.s).2.2, s.ids, s.z + (tk bs s.p s.y x.a.s).1.length⟩)) := rfl
  generalize dataO bs ⟨x.id, x.dir, x.a, []⟩ s = rr at HR ⊢
  cases hdx : x.dir with
  | true =>
    have hr := HR.out
    rw [hdx] at c1 hr
    simp only [if_true] at hr
    by_cases h0 : x.a.s = 0
    · rw [if_pos h0] at hr
      have h0i : ((x.a.s : Int) == 0) = true := by simp [h0]
      subst hr
      have HF : Hid (∃ R' dv' hv', LS w R' a ar g bs nx (setT L x.id (setD [])) B dv' hv' tv s ∧ MvR ar R R' w w) := ⟨R, dv, hv, by rw [setT_same HL.out.inc HX.out (f := setD []) (by unfold setD; rw [← hd])]; exact HL.out, MvR.refl _ _ _⟩
      clear h hT HR h0 hd
      go_enter Try.func69, Try.ntmps69
      go_wp2_with fail
      go_ret
      exact ⟨rfl, HF.out⟩
    · rw [if_neg h0] at hr
      have h0i : ((x.a.s : Int) == 0) = false := by rw [beq_eq_false_iff_ne]; omega
      subst hr
      clear h hT HR h0 hd
      go_enter Try.func69, Try.ntmps69
      go_wp2_with fail
      go_ret
      exact ⟨rfl, MvR.refl _ _ _⟩
  | false =>
    have hr := HR.out
    rw [hdx] at c1 hr
    simp only [Bool.false_eq_true, if_false] at hr
    have HM := hidden (mayHave_c HL.out.tx HX.out (by rw [show sizeT (⟨L, nx⟩ : Tr).ths = s.z from hzs]; exact hzb) (by rw [hd]; exact Nat.zero_le _) x.a.s)
    by_cases hrm : 1048576 < x.a.s ∨ 1048576 < s.z + x.a.s
    · rw [if_pos hrm] at hr
      subst hr
      have hne : hasRoom ⟨L, nx⟩ x x.a.s ≠ 0 := by
        unfold hasRoom
        rw [show sizeT (⟨L, nx⟩ : Tr).ths = s.z from hzs, hd]
        split
        · omega
        · rw [if_pos (by simp; omega)]; omega
      have hre : (((hasRoom ⟨L, nx⟩ x x.a.s : Nat) : Int) != 0) = true := by simp; exact hne
      generalize hasRoom ⟨L, nx⟩ x x.a.s = rm at hre HM
      clear h hT HR hd hrm hne
      go_enter Try.func69, Try.ntmps69
      go_wp2_with fail
      refine HM.out.mono ?_
      rintro e w1 ⟨rfl, hk1⟩
      go_wp2_with fail
      go_ret
      exact ⟨rfl, MvR.still hk1⟩
    · rw [if_neg hrm] at hr
      have hze : hasRoom ⟨L, nx⟩ x x.a.s = 0 := by
        unfold hasRoom
        rw [show sizeT (⟨L, nx⟩ : Tr).ths = s.z from hzs, hd, if_neg (by omega), if_neg (by simp; omega)]
      rw [hze] at HM
      have hsb : x.a.s ≤ 1048576 := by omega
      have hss : s.z + x.a.s ≤ 1048576 := by omega
      have hcv : IntKind.i64.wrap (x.a.s : Int) = (x.a.s : Int) := by rw [IntKind.wrap_i64]; omega
      obtain ⟨sz, hsz⟩ : ∃ sz, sz = x.a.s := ⟨_, rfl⟩
      rw [← hsz] at hr hcv hsb HM c3 hss
      have HSS := hidden hss
      clear hss
      have hlt := tk_len bs s.p s.y sz
      have HRW := hidden (fun (W : World) (hW : WR W ar g bs s.p s.y) => raw_h (sz : Int) (by omega) (by omega) W hW)
      rw [Int.toNat_natCast] at HRW
      generalize tk bs s.p s.y sz = t at hr hlt HRW
      have HRR := hidden hr
      clear h hT HR hrm hze hsz hr
      go_enter Try.func69, Try.ntmps69
      go_wp2_with fail
      refine HM.out.mono ?_
      rintro e w1 ⟨rfl, hk1⟩
      have HL1 := hidden (HL.out.still hk1)
      have HK1 := hidden hk1
      have c1' := HL1.out.rd
      clear hk1
      go_wp2_with fail
      refine (HRW.out w1 HL1.out.rd).mono ?_
      rintro e w2 ⟨v2, rfl, hH2, hfr2, ht2⟩
      obtain ⟨ao2, cp2, rfl⟩ := hH2.len
      have HL2 := hidden (HL1.out.took ht2)
      have HH2 := hidden hH2
      have HFR := hidden hfr2
      have HT2 := hidden ht2
      have hTX2 := HL2.out.tx.th x HX.out
      have f2 := hTX2.fz
      have d9 := hTX2.c9
      obtain ⟨dao, dcap, hdv⟩ := (HL2.out.tx.dat x HX.out).len
      rw [hdv] at d9
      have hab : a ≠ B x.id := fun e => by
        have h1 := HL.out.tx.ra
        rw [e, HL.out.tx.rth x HX.out] at h1; cases h1
      have hrb : B x.id ≠ ar := fun e => by
        have h1 := HL.out.ra
        rw [← e, HL.out.tx.rth x HX.out] at h1; cases h1
      have hra : a ≠ ar := fun e => by
        have h1 := HL.out.ra
        rw [← e, HL.out.tx.ra] at h1; cases h1
      have htl : t.1.length ≤ 1048576 := by omega
      clear hH2 hfr2 ht2 hdv
      go_wp2_with fail
      -- behind the store of the bytes
      obtain ⟨w3, hw3⟩ : ∃ W, W = w2.setCell ⟨B x.id, 9, none⟩ (.slice ao2 t.1.length cp2) := ⟨_, rfl⟩
      rw [← hw3]
      have hk23 : Keeps (fun k => k = B x.id) w2 w3 := by rw [hw3]; exact keeps_set _ _ _ _
      have hT3 : ThB w3 (setD t.1 x) (B x.id) (.slice ao2 t.1.length cp2) (hv x.id) := by rw [hw3]; exact hTX2.setD _ _
      have htp3 : w3.heap[a]? = some (.cells #[tv, .int .i64 nx, .int .i64 (sizeT L)] 65 (0, 0)) := top_keep HL2.out.tx.top hk23 hab
      obtain ⟨_, _, c32, cf3⟩ := cells3 htp3
      have c39 := hT3.c9
      have hadd : IntKind.i64.wrap ((sizeT L : Int) + (t.1.length : Int)) = (sizeT L : Int) + (t.1.length : Int) := by rw [IntKind.wrap_i64]; omega
      have HT3 := hidden hT3
      have HTP3 := hidden htp3
      have HK23 := hidden hk23
      clear hk23 hT3 htp3 hw3 f2 d9 hTX2 c1' c3 c1
      go_region
      go_wp2_with fail
      go_ret
      have hrr := HRR.out
      subst hrr
      obtain ⟨w4, hw4⟩ : ∃ W, W = (w3.setCell ⟨a, 2, none⟩ (.int .i64 ((s.z : Int) + (t.1.length : Int)))).drew := ⟨_, rfl⟩
      rw [← hw4]
      have hks : Keeps (fun k => k = a) w3 w4 := by rw [hw4]; exact (keeps_set _ _ _ _).drew
      have hk24 : Keeps (fun k => k = B x.id ∨ k = a) w2 w4 := (HK23.out.mono fun k _ h => .inl h).trans (hks.mono fun k _ h => .inr h)
      have hk14 : Keeps (fun k => k = ar ∨ k = B x.id ∨ k = a) w1 w4 := (HT2.out.keeps.mono fun k _ h => .inl h).trans (hk24.mono fun k _ h => .inr h)
      have hss : sizeT (setT L x.id (setD t.1)) = s.z + t.1.length := by
        have := setT_size_at HL.out.inc HX.out (setD t.1)
        rw [hd, show (setD t.1 x).d = t.1 from rfl, hzs] at this
        simpa using this
      have htp4 : w4.heap[a]? = some (.cells #[tv, .int .i64 nx, .int .i64 (sizeT (setT L x.id (setD t.1)))] 65 (0, 0)) := by
        rw [hss, hw4, show ((s.z + t.1.length : Nat) : Int) = (s.z : Int) + (t.1.length : Int) by omega]
        exact top2 HTP3.out _
      have hT4 : ThB w4 (setD t.1 x) (B x.id) (.slice ao2 t.1.length cp2) (hv x.id) := HT3.out.keep hks hab.symm
      have hnb : ∀ k, (Value.slice ao2 t.1.length cp2).ownBlock = some k → ¬ (k = B x.id ∨ k = a) := fun k e h => by
        have h1 := HFR.out k e
        rcases h with h | h
        · have := (HL1.out.tx.th x HX.out).lt; omega
        · have := lt_of_block HL1.out.tx.top; omega
      have hH4 : Held w4 (.slice ao2 t.1.length cp2) t.1 := HH2.out.keep hk24 hnb
      obtain ⟨R', h1, h2⟩ := HL1.out.tx.oneN HL.out.inc HX.out (setD t.1) (fun _ => rfl) (dv' := .slice ao2 t.1.length cp2) (hv' := hv x.id) hk14 (fun k _ h => by
          rcases h with h | h | h
          · rw [h]; exact .inr (.inr (.inr (.inr HL.out.ra)))
          · rw [h]; exact .inl (HL.out.tx.rth x HX.out)
          · rw [h]; exact .inr (.inr (.inr (.inl HL.out.tx.ra)))) htp4 hT4 hH4 ((HL1.out.tx.hel x HX.out).keep hk14 fun k e h => by
          have hr := HL1.out.tx.rhel x HX.out k e
          rcases h with h | h | h
          · rw [h, HL.out.ra] at hr; cases hr
          · rw [h, HL.out.tx.rth x HX.out] at hr; cases hr
          · rw [h, HL.out.tx.ra] at hr; cases hr) (fun k e => .inr (HFR.out k e)) (fun k e => .inl ⟨(HL1.out.tx.hel x HX.out).lt k e, HL1.out.tx.rhel x HX.out k e⟩) (fun k h1 _ h3 => by have := (HL1.out.tx.hel x HX.out).lt k h3; omega)
      obtain ⟨_, r1, r2⟩ := HL1.out.reader (R' := R') (Keeps.refl (fun _ => False) w1) (fun _ _ h => h.elim) h2
      refine ⟨rfl, R', _, _, ⟨h1, ?_, r1, r2, setT_inc HL.out.inc _ _ (fun _ => rfl), fun i => (HL.out.ids i).trans (ids_setT (l := L) (i := x.id) (f := setD t.1) (fun _ => rfl) i).symm, HL.out.nod, by rw [setT_length]; exact HL.out.len, by rw [setT_length]; exact HL.out.cnt, hss, by have := HSS.out; show s.z + t.1.length ≤ _; omega, ?_⟩, (MvR.still HK1.out).trans ⟨h2, hk14.mono fun k _ h => ?_⟩⟩
      · refine HL2.out.rd.keepE hk24 (fun h => ?_) (fun hb k e h => ?_)
        · rcases h with h | h
          · exact hrb h.symm
          · exact hra h.symm
        · have hr := HL.out.rg hb k e
          rcases h with h | h
          · rw [h, HL.out.tx.rth x HX.out] at hr; cases hr
          · rw [h, HL.out.tx.ra] at hr; cases hr
      · intro y hy e he
        obtain ⟨u, hu, rfl⟩ := mem_setT.1 hy
        have : e ∈ u.h := by split at he <;> exact he
        exact (ids_setT (l := L) (i := x.id) (f := setD t.1) (fun _ => rfl) e.2).2 (HL.out.kids u hu e this)
      · rcases h with h | h | h
        · exact .inl h
        · exact .inr (by rw [h, HL.out.tx.rth x HX.out]; intro e; cases e)
        · exact .inr (by rw [h, HL.out.tx.ra]; intro e; cases e)
end
end Go.Proofs.Ytnigfnikajejaaa
