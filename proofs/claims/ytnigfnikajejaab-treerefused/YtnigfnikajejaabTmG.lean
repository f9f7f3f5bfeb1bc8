/- A tree in memory; what has a number, what is at a path, and what should hold it. -/
import Derived.Test.YtnigfnikajejaabTmF
import Derived.Test.YtnigfnikajejaabTmH
namespace Go.Proofs.Ytnigfnikajejaab
open Go Go.RowKit

theorem nodup_le : ∀ {l m : List Nat}, l.Nodup → (∀ x ∈ l, x ∈ m) → l.length ≤ m.length
  | [], _, _, _ => Nat.zero_le _
  | a :: t, m, hn, hs => by
    obtain ⟨h1, h2⟩ := List.nodup_cons.1 hn
    have ha : a ∈ m := hs a List.mem_cons_self
    have := nodup_le (l := t) (m := m.erase a) h2 fun x hx => (List.mem_erase_of_ne (fun e => h1 (by rw [← e]; exact hx))).2 (hs x (List.mem_cons_of_mem _ hx))
    rw [List.length_erase_of_mem ha] at this
    have := List.length_pos_of_mem ha
    simp
    omega
theorem Ok.hlen {S : Tr} {pa : Nat → Nat} {nm : Nat → Nm} (o : Ok S pa nm) {x : Th} (hx : x ∈ S.ths) : x.h.length ≤ 1000 := by
  have hn : (x.h.map (·.2)).Nodup := by
    have : x.h.Pairwise fun e f => e.2 ≠ f.2 := by
      refine List.Pairwise.imp_of_mem ?_ (o.srt x hx)
      rintro ⟨n, j⟩ ⟨m, k⟩ h1 h2 h3 h4
      have a1 := ((o.held x hx _ _).1 h1).2.2.2
      have a2 := ((o.held x hx _ _).1 h2).2.2.2
      simp only at h4
      rw [h4] at a1
      exact nlt_ne h3 (a1.symm.trans a2)
    exact List.pairwise_map.2 this
  have := nodup_le (m := S.ths.map (·.id)) hn fun j hj => by
    obtain ⟨⟨n, k⟩, h1, rfl⟩ := List.mem_map.1 hj
    obtain ⟨y, hy, hye⟩ := ((o.held x hx _ _).1 h1).2.1
    exact List.mem_map.2 ⟨y, hy, hye⟩
  have h2 := o.cnt
  rw [List.length_map, List.length_map] at this
  omega
/-- What a block is to a tree. -/
inductive Role where
  | no | tree | row | th (i : Nat) | dat (i : Nat) | hel (i : Nat)

/-- The tree S at block a: B tells where a thing lies, dv its bytes, hv its rows of names; tv the row of all; R what each block is. -/
structure TXb (w : World) (R : Nat → Role) (a : Nat) (S : Tr) (B : Nat → Nat) (dv hv : Nat → Value) (tv : Value) : Prop where
  top : w.heap[a]? = some (.cells #[tv, .int .i64 S.next, .int .i64 (sizeT S.ths)] 57 (0, 0))
  ra : R a = .tree
  row : w.ownsRow 0 53 1 tv S.ths.length (tcells B S.ths)
  rrow : ∀ k, tv.ownBlock = some k → R k = .row
  th : ∀ x ∈ S.ths, ThB w x (B x.id) (dv x.id) (hv x.id)
  rth : ∀ x ∈ S.ths, R (B x.id) = .th x.id
  dat : ∀ x ∈ S.ths, Held w (dv x.id) x.d
  rdat : ∀ x ∈ S.ths, ∀ k, (dv x.id).ownBlock = some k → R k = .dat x.id
  hel : ∀ x ∈ S.ths, ERow w B (hv x.id) x.h
  rhel : ∀ x ∈ S.ths, ∀ k, (hv x.id).ownBlock = some k → R k = .hel x.id
  lim : ∀ k, R k ≠ .no → k < w.heap.size
def TX (w : World) (R : Nat → Role) (a : Nat) (S : Tr) : Prop := ∃ B dv hv tv, TXb w R a S B dv hv tv

section
variable {w w' : World} {R : Nat → Role} {a : Nat} {S : Tr} {B : Nat → Nat} {dv hv : Nat → Value} {tv : Value}
theorem TXb.keep {T : Nat → Prop} (h : TXb w R a S B dv hv tv) (hk : Keeps T w w') (hT : ∀ k, R k ≠ .no → ¬ T k) : TXb w' R a S B dv hv tv where
  top := (hk.block a (lt_of_block h.top) (hT a (by rw [h.ra]; intro e; cases e))).trans h.top
  ra := h.ra
  row := hk.row h.row fun k e => hT k (by rw [h.rrow k e]; intro e; cases e)
  rrow := h.rrow
  th := fun x hx => (h.th x hx).keep hk (hT _ (by rw [h.rth x hx]; intro e; cases e))
  rth := h.rth
  dat := fun x hx => (h.dat x hx).keep hk fun k e => hT k (by rw [h.rdat x hx k e]; intro e; cases e)
  rdat := h.rdat
  hel := fun x hx => (h.hel x hx).keep hk fun k e => hT k (by rw [h.rhel x hx k e]; intro e; cases e)
  rhel := h.rhel
  lim := fun k e => Nat.lt_of_lt_of_le (h.lim k e) hk.size
theorem TXb.still (h : TXb w R a S B dv hv tv) (hk : Keeps (fun _ => False) w w') : TXb w' R a S B dv hv tv := h.keep hk fun _ _ h => h
theorem TXb.fresh (h : TXb w R a S B dv hv tv) (hb : Below w.heap.size w w') : TXb w' R a S B dv hv tv := h.still (Keeps.ofFresh hb)
theorem TXb.t0 (h : TXb w R a S B dv hv tv) : w.cell? ⟨a, 0, none⟩ = some tv := by have := h.top; simp [World.cell?, this]
theorem TXb.t1 (h : TXb w R a S B dv hv tv) : w.cell? ⟨a, 1, none⟩ = some (.int .i64 S.next) := by have := h.top; simp [World.cell?, this]
theorem TXb.t2 (h : TXb w R a S B dv hv tv) : w.cell? ⟨a, 2, none⟩ = some (.int .i64 (sizeT S.ths)) := by have := h.top; simp [World.cell?, this]
theorem TXb.tf (h : TXb w R a S B dv hv tv) (j : Nat) : w.frozen? ⟨a, j, none⟩ = false := by have := h.top; simp [World.frozen?, this]
theorem TXb.prow (h : TXb w R a S B dv hv tv) : PRow w B tv S.ths := ⟨h.row, fun x hx => (h.th x hx).c0⟩
theorem TX.keep {T : Nat → Prop} (h : TX w R a S) (hk : Keeps T w w') (hT : ∀ k, R k ≠ .no → ¬ T k) : TX w' R a S := by
  obtain ⟨B, dv, hv, tv, h⟩ := h
  exact ⟨B, dv, hv, tv, h.keep hk hT⟩
theorem TX.still (h : TX w R a S) (hk : Keeps (fun _ => False) w w') : TX w' R a S := h.keep hk fun _ _ h => h
theorem TX.fresh (h : TX w R a S) (hb : Below w.heap.size w w') : TX w' R a S := h.still (Keeps.ofFresh hb)
end
def ptrT (B : Nat → Nat) : Option Th → Value
  | none => .pointer none
  | some x => .pointer (some ⟨B x.id, 0, none⟩)

section
variable {w : World} {R : Nat → Role} {a : Nat} {S : Tr} {B : Nat → Nat} {dv hv : Nat → Value} {tv : Value} {pa : Nat → Nat} {nm : Nat → Nm}
set_option maxHeartbeats 1000000 in
set_option maxRecDepth 100000 in
theorem tplace_c (H : TXb w R a S B dv hv tv) (hi : Inc S.ths) (hc : S.ths.length ≤ 1000) (i : Int) :
    Calls Try.prog 58 #[.pointer (some ⟨a, 0, none⟩), .int .i64 i] w fun e w' => e = .returned (.tuple #[.int .i64 (posT S.ths i : Nat), .bool (findT S.ths i).isSome]) ∧ Below w.heap.size w w' := by
  have h0 := H.t0
  have HS := hidden (searchP_c B S.ths hi hc i tv w H.prow)
  obtain ⟨ao, cap, rfl, _⟩ := H.prow.shape
  clear H hi
  go_enter Try.func58, Try.ntmps58
  go_wp2_with fail
  refine HS.out.mono ?_
  rintro e w1 ⟨rfl, hb⟩
  go_wp2
  go_ret2
  exact ⟨rfl, hb⟩
set_option maxHeartbeats 1000000 in
set_option maxRecDepth 100000 in
theorem find_c (H : TXb w R a S B dv hv tv) (o : Ok S pa nm) (i : Int) :
    Calls Try.prog 41 #[.pointer (some ⟨a, 0, none⟩), .int .i64 i] w fun e w' => e = .returned (ptrT B (findT S.ths i)) ∧ Below w.heap.size w w' := by
  have HP := hidden (tplace_c H o.inc (by have := o.cnt; omega) i)
  have HG := hidden (findT_at o.inc i)
  have HC := hidden o.cnt
  cases hg : findT S.ths i with
  | none =>
    rw [hg] at HP
    clear H o
    go_enter Try.func41, Try.ntmps41
    go_wp2_with fail
    refine HP.out.mono ?_
    rintro e w1 ⟨rfl, hb⟩
    go_wp2
    go_ret
    exact ⟨rfl, hb⟩
  | some x =>
    rw [hg] at HP HG
    by_cases hp : posT S.ths i < S.ths.length
    · have hg2 := HG.out
      rw [dif_pos hp] at hg2
      have hj : S.ths[posT S.ths i] = x := by
        split at hg2
        · exact (Option.some.inj hg2).symm
        · cases hg2
      have HH := hidden H
      obtain ⟨ao, cap, rfl, hc, hcm, hne⟩ := H.prow.shape
      obtain ⟨g, rfl⟩ := hne (by rintro e; rw [e] at hp; simp at hp)
      unfold maxLen at hcm
      have hpi : ((posT S.ths i : Nat) : Int) < (S.ths.length : Int) := by omega
      clear H o hg hg2 hne
      go_enter Try.func41, Try.ntmps41
      go_wp2_with fail
      refine HP.out.mono ?_
      rintro e w1 ⟨rfl, hb⟩
      have h0 := (HH.out.fresh hb).t0
      obtain ⟨c0, c1⟩ := (HH.out.fresh hb).prow.at _ hp
      rw [hj] at c0
      have HB := hidden hb
      clear hb c1 hj
      generalize posT S.ths i = p at *
      go_wp2
      go_ret
      exact ⟨rfl, HB.out⟩
    · have := HG.out
      rw [dif_neg hp] at this
      cases this

/-- A path's names, but for the last. -/
theorem SSl.ahead {ao : Option Addr} {n cap : Nat} {p : List Nm} (h : SSl w (.slice ao n cap) p) (hp : p ≠ []) : SSl w (.slice ao (n - 1) cap) p.dropLast := by
  obtain ⟨ao', cap', e, h1, h2, h3, h4⟩ := h
  cases e
  refine ⟨ao, cap, by rw [List.length_dropLast], by rw [List.length_dropLast]; omega, h2, fun e => absurd (h3 e).1 hp, fun ad e _ => ?_⟩
  obtain ⟨b, off, rfl, hc⟩ := h4 ad e hp
  refine ⟨b, off, rfl, fun j x hx => hc j x ?_⟩
  rw [List.getElem?_dropLast] at hx
  split at hx
  · exact hx
  · cases hx
theorem lastN_at {p : List Nm} (hp : p ≠ []) : p[p.length - 1]'(by have := List.length_pos_iff.2 hp; omega) = lastN p := by
  rw [lastN, List.getLastD_eq_getLast?, List.getLast?_eq_getElem?, List.getElem?_eq_getElem (by have := List.length_pos_iff.2 hp; omega)]
  rfl
set_option maxHeartbeats 1000000 in
theorem isRoot_c (v : Value) (p : List Nm) (w : World) (hp : SSl w v p) : Calls Try.prog 23 #[v] w fun e w' => e = .returned (.bool (decide (p = []))) ∧ w' = w := by
  obtain ⟨ao, cap, rfl, h1, h2, _⟩ := hp
  have hd : (((p.length : Nat) : Int) == 0) = decide (p = []) := by
    cases p with
    | nil => rfl
    | cons x t => simp; omega
  unfold maxLen at h2
  go_enter Try.func23, Try.ntmps23
  go_wp2
  go_ret
  exact ⟨rfl, rfl⟩
set_option maxHeartbeats 1000000 in
set_option maxRecDepth 100000 in
theorem last_c (v : Value) (p : List Nm) (w : World) (hv : SSl w v p) (hp : p ≠ []) : Calls Try.prog 26 #[v] w fun e w' => e = .returned (.string (lastN p)) ∧ w' = w := by
  have hl := List.length_pos_iff.2 hp
  have hx := lastN_at hp
  have HV := hidden hv
  obtain ⟨ao, cap, rfl, h1, h2, _⟩ := hv
  obtain ⟨b, off, rfl⟩ := HV.out.addr' hp
  have hc := HV.out.cellAt (p.length - 1) (by omega)
  rw [hx] at hc
  unfold maxLen at h2
  obtain ⟨n, hn⟩ : ∃ n, n = p.length - 1 := ⟨_, rfl⟩
  have hn2 : p.length = n + 1 := by omega
  rw [← hn] at hc
  rw [hn2] at h1 ⊢
  clear hx hn hn2 hl HV
  have q1 : ((n : Int) + 1 - 1) = (n : Int) := by omega
  have q2 : (n : Int) < (n : Int) + 1 := by omega
  go_enter Try.func26, Try.ntmps26
  go_wp2
  go_ret
  exact ⟨rfl, rfl⟩
set_option maxHeartbeats 1000000 in
set_option maxRecDepth 100000 in
theorem ahead_c (v : Value) (p : List Nm) (w : World) (hv : SSl w v p) (hp : p ≠ []) : Calls Try.prog 37 #[v] w fun e w' => ∃ v', e = .returned v' ∧ SSl w v' p.dropLast ∧ w' = w := by
  have hl := List.length_pos_iff.2 hp
  have HV := hidden hv
  obtain ⟨ao, cap, rfl, h1, h2, _⟩ := hv
  have HA := hidden (HV.out.ahead hp)
  obtain ⟨b, off, rfl⟩ := HV.out.addr' hp
  unfold maxLen at h2
  obtain ⟨n, hn⟩ : ∃ n, n = p.length - 1 := ⟨_, rfl⟩
  have hn2 : p.length = n + 1 := by omega
  rw [← hn] at HA
  rw [hn2] at h1 ⊢
  clear hn hn2 hl HV
  have q1 : ((n : Int) + 1 - 1) = (n : Int) := by omega
  have q2 : n ≤ n + 1 := by omega
  have q3 : n ≤ cap := by omega
  go_enter Try.func37, Try.ntmps37
  go_wp2
  go_ret
  exact ⟨_, rfl, HA.out, rfl⟩

set_option maxHeartbeats 4000000 in
set_option maxRecDepth 100000 in
theorem walk_c (H : TXb w R a S B dv hv tv) (o : Ok S pa nm) (v : Value) (p : List Nm) (hv' : SSl w v p) :
    Calls Try.prog 36 #[.pointer (some ⟨a, 0, none⟩), v] w fun e w' => e = .returned (ptrO B (walkT S.ths 0 p)) ∧ Below w.heap.size w w' := by
  have HH := hidden H
  have HV := hidden hv'
  have HO := hidden o
  have h0 := H.t0
  obtain ⟨r, t, hr, hr0, _⟩ := o.root
  obtain ⟨ao, cap, rfl, hc, hcm, hne⟩ := H.prow.shape
  have hlen : 0 < S.ths.length := by rw [hr]; simp
  obtain ⟨g, rfl⟩ := hne (by rw [hr]; simp)
  obtain ⟨c0, _⟩ := H.prow.at 0 hlen
  have hr1 : S.ths[0].id = 0 := by simp only [hr]; exact hr0
  rw [hr1] at c0
  obtain ⟨vo, vc, rfl, hvc, hvm, _⟩ := hv'
  unfold maxLen at hcm hvm
  have hli : (0 : Int) < (S.ths.length : Int) := by omega
  clear H o hne hr hr0 hr1
  go_enter Try.func36, Try.ntmps36
  go_wp2
  go_loopw [5, 16] (fun x c wr => ∃ i k : Nat, x = .pointer (some ⟨B i, 0, none⟩) ∧ c = .int .i64 k ∧ k ≤ p.length ∧ (∃ y ∈ S.ths, y.id = i) ∧ walkT S.ths i (p.drop k) = walkT S.ths 0 p ∧ Below w.heap.size w wr) (fun _ c _ => p.length - (intOf c).toNat)
  case atStart => exact ⟨0, 0, rfl, rfl, Nat.zero_le _, HO.out.rootMem, by rw [List.drop_zero], Below.refl _ _⟩
  case round =>
    obtain ⟨i, k, rfl, rfl, hk, ⟨y, hy, rfl⟩, hw, hb⟩ := hrel
    have HW := hidden hw
    have HB := hidden hb
    clear hw hb
    by_cases hlt : k < p.length
    · have hi1 : (k : Int) < (p.length : Int) := by omega
      have hpn : p ≠ [] := by rintro rfl; simp at hlt
      have HV1 := HV.out.fresh HB.out
      obtain ⟨b1, o1, rfl⟩ := HV1.addr' hpn
      have k1 := HV1.cellAt k hlt
      have hdr := List.drop_eq_getElem_cons hlt
      have HD : Hid (walkT S.ths y.id (p.drop k) = match getH y.h p[k] with | none => none | some j => walkT S.ths j (p.drop (k + 1))) := by
        show _ = _
        rw [hdr, walkT, findT_nat HO.out.inc hy rfl]
        cases hgg : getH y.h p[k] <;> simp only [hgg]
      rw [HW.out] at HD
      have HT := hidden ((HH.out.fresh HB.out).th y hy)
      have HE := hidden ((HH.out.fresh HB.out).hel y hy)
      have HSr := hidden (HO.out.srt y hy)
      have HMem : Hid (∀ j, getH y.h p[k] = some j → ∃ z ∈ S.ths, z.id = j) := fun j hj => (HO.out.mem_child hy hj).2.1
      have hhl : y.h.length ≤ 1000 := HO.out.hlen hy
      clear HV1 hdr
      generalize p[k] = name at k1 HD HMem
      go_wp2_with fail
      refine (eget_c B y (B y.id) (dv y.id) (hv y.id) name _ HT.out HE.out HSr.out hhl).mono ?_
      rintro e w1 ⟨rfl, hb1⟩
      have HB1 := hidden (HB.out.trans (hb1.mono HB.out.size))
      clear hb1
      cases hg : getH y.h name with
      | none =>
        rw [hg] at HD
        rw [show ptrO B none = .pointer none from rfl]
        go_wp2_with fail
        go_ret
        exact ⟨by rw [HD.out]; rfl, HB1.out⟩
      | some j =>
        rw [hg] at HD
        have HM := hidden (HMem.out j hg)
        rw [show ptrO B (some j) = .pointer (some ⟨B j, 0, none⟩) from rfl]
        go_wp2_with fail
        go_roundw
        case rel => exact ⟨j, k + 1, rfl, by go_num, by omega, HM.out, HD.out.symm, HB1.out⟩
        case measure => simp [intOf]; omega
    · have hi1 : ¬ (k : Int) < (p.length : Int) := by omega
      have hw2 := HW.out
      rw [List.drop_of_length_le (by omega), walkT] at hw2
      have HW2 := hidden hw2
      clear hw2
      go_wp2_with fail
      go_ret
      exact ⟨by rw [← HW2.out]; rfl, HB.out⟩
end
end Go.Proofs.Ytnigfnikajejaab
