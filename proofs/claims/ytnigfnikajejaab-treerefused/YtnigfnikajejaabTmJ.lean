/- What should hold a path; Look; whether one path leads through another; Make. -/
import Derived.Test.YtnigfnikajejaabTmI
namespace Go.Proofs.Ytnigfnikajejaab
open Go Go.RowKit

section
variable {w : World} {R : Nat → Role} {a : Nat} {S : Tr} {B : Nat → Nat} {dv hv : Nat → Value} {tv : Value} {pa : Nat → Nat} {nm : Nat → Nm}

/-- What roomAt answers. -/
def roomV (B : Nat → Nat) (r : Nat × Nat) : Value := .tuple #[if r.2 = 0 then .pointer (some ⟨B r.1, 0, none⟩) else .pointer none, .int .i64 r.2]
set_option maxHeartbeats 4000000 in
set_option maxRecDepth 100000 in
theorem roomAt_c (H : TXb w R a S B dv hv tv) (o : Ok S pa nm) (v : Value) (p : List Nm) (hv' : SSl w v p) (hp : p ≠ []) :
    Calls Try.prog 24 #[.pointer (some ⟨a, 0, none⟩), v] w fun e w' => e = .returned (roomV B (roomT S.ths p)) ∧ Below w.heap.size w w' := by
  have HH := hidden H
  have HV := hidden hv'
  have HO := hidden o
  have HP := hidden hp
  have hroot := o.rootMem
  have HWM := hidden (fun i h => o.walk_mem p.dropLast 0 hroot i h)
  have HR : Hid (roomT S.ths p = if rightP (lastN p).data.toList = false then (0, 20) else match walkT S.ths 0 p.dropLast with
    | none => (0, 22)
    | some i => match findT S.ths i with
      | none => (0, 22)
      | some x => if x.dir = false then (0, 23) else if (getH x.h (lastN p)).isSome then (0, 21) else (i, 0)) := rfl
  generalize roomT S.ths p = rr at HR ⊢
  clear H o hv' hp hroot
  go_enter Try.func24, Try.ntmps24
  go_wp2_with fail
  refine (last_c v p w HV.out HP.out).mono ?_
  rintro e w' ⟨rfl, rfl⟩
  go_wp2_with fail
  refine (pright_c (lastN p) w').mono ?_
  rintro e w'' ⟨rfl, rfl⟩
  cases hr : rightP (lastN p).data.toList with
  | false =>
    rw [hr, if_pos rfl] at HR
    go_wp2_with fail
    go_ret2
    exact ⟨by rw [HR.out]; rfl, Below.refl _ _⟩
  | true =>
    rw [hr, if_neg (by simp)] at HR
    go_wp2_with fail
    refine (ahead_c v p w'' HV.out HP.out).mono ?_
    rintro e w' ⟨va, rfl, ha, rfl⟩
    have HA := hidden ha
    clear ha
    go_wp2_with fail
    refine (walk_c HH.out HO.out va p.dropLast HA.out).mono ?_
    rintro e w1 ⟨rfl, hb⟩
    cases hw : walkT S.ths 0 p.dropLast with
    | none =>
      rw [hw] at HR
      rw [show ptrO B none = .pointer none from rfl]
      go_wp2_with fail
      go_ret2
      exact ⟨by rw [HR.out]; rfl, hb⟩
    | some i =>
      rw [hw] at HR
      obtain ⟨x, hx, rfl⟩ := HWM.out i hw
      have hr2 := HR.out
      simp only [findT_nat HO.out.inc hx rfl] at hr2
      have HR2 := hidden hr2
      have HT := hidden ((HH.out.fresh hb).th x hx)
      have HE := hidden ((HH.out.fresh hb).hel x hx)
      have hsr := HO.out.srt x hx
      have hhl := HO.out.hlen hx
      have h1 := HT.out.c1
      have HV1 := hidden (HV.out.fresh hb)
      clear HR hr2
      rw [show ptrO B (some x.id) = .pointer (some ⟨B x.id, 0, none⟩) from rfl]
      cases hd : x.dir with
      | false =>
        rw [hd] at h1
        rw [hd, if_pos rfl] at HR2
        go_wp2_with fail
        go_ret2
        exact ⟨by rw [HR2.out]; rfl, hb⟩
      | true =>
        rw [hd] at h1
        rw [hd, if_neg (by simp)] at HR2
        go_wp2_with fail
        refine (last_c v p w1 HV1.out HP.out).mono ?_
        rintro e w' ⟨rfl, rfl⟩
        go_wp2_with fail
        refine (eget_c B x (B x.id) (dv x.id) (hv x.id) (lastN p) _ HT.out HE.out hsr hhl).mono ?_
        rintro e w2 ⟨rfl, hb2⟩
        have HB := hidden (hb.trans (hb2.mono hb.size))
        clear hb hb2
        cases hg : getH x.h (lastN p) with
        | some j =>
          rw [hg, if_pos (by rfl)] at HR2
          rw [show ptrO B (some j) = .pointer (some ⟨B j, 0, none⟩) from rfl]
          go_wp2_with fail
          go_ret2
          exact ⟨by rw [HR2.out]; rfl, HB.out⟩
        | none =>
          rw [hg, if_neg (by simp)] at HR2
          rw [show ptrO B none = .pointer none from rfl]
          go_wp2_with fail
          go_ret2
          exact ⟨by rw [HR2.out]; rfl, HB.out⟩

/-- What Look answers. -/
def lookT (S : Tr) (p : List Nm) : Nat × Nat := match walkT S.ths 0 p with | none => (0, 22) | some i => (i, 0)
set_option maxHeartbeats 1000000 in
set_option maxRecDepth 100000 in
theorem look_c (H : TXb w R a S B dv hv tv) (o : Ok S pa nm) (v : Value) (p : List Nm) (hv' : SSl w v p) :
    Calls Try.prog 18 #[.pointer (some ⟨a, 0, none⟩), v] w fun e w' => e = .returned (.tuple #[.int .i64 (lookT S p).1, .int .i64 (lookT S p).2]) ∧ Below w.heap.size w w' := by
  have HH := hidden H
  have HV := hidden hv'
  have HO := hidden o
  have HWM := hidden (fun i h => o.walk_mem p 0 o.rootMem i h)
  have HR : Hid (lookT S p = match walkT S.ths 0 p with | none => (0, 22) | some i => (i, 0)) := rfl
  generalize lookT S p = rr at HR ⊢
  clear H o hv'
  go_enter Try.func18, Try.ntmps18
  go_wp2_with fail
  refine (walk_c HH.out HO.out v p HV.out).mono ?_
  rintro e w1 ⟨rfl, hb⟩
  cases hw : walkT S.ths 0 p with
  | none =>
    rw [hw] at HR
    rw [show ptrO B none = .pointer none from rfl]
    go_wp2_with fail
    go_ret2
    exact ⟨by rw [HR.out]; rfl, hb⟩
  | some i =>
    rw [hw] at HR
    obtain ⟨x, hx, rfl⟩ := HWM.out i hw
    have h0 := ((HH.out.fresh hb).th x hx).c0
    rw [show ptrO B (some x.id) = .pointer (some ⟨B x.id, 0, none⟩) from rfl]
    go_wp2_with fail
    go_ret2
    exact ⟨by rw [HR.out]; rfl, hb⟩

set_option maxHeartbeats 4000000 in
set_option maxRecDepth 100000 in
theorem sequal_c (v1 v2 : Value) (p q : List Nm) (w : World) (h1 : SSl w v1 p) (h2 : SSl w v2 q) :
    Calls Try.prog 60 #[v1, v2] w fun e w' => e = .returned (.bool (decide (p = q))) ∧ Keeps (fun _ => False) w w' := by
  have H1 := hidden h1
  have H2 := hidden h2
  obtain ⟨a1, c1, rfl, x1, y1, _⟩ := h1
  obtain ⟨a2, c2, rfl, x2, y2, _⟩ := h2
  unfold maxLen at y1 y2
  by_cases hl : p.length = q.length
  · have hli : ((p.length : Nat) : Int) = (q.length : Int) := by omega
    have HL := hidden hl
    have hli2 : (((p.length : Nat) : Int) != (q.length : Int)) = false := by simp [hl]
    clear hl
    have HDD : Hid (decide (p = q) = decide (p = q)) := rfl
    generalize hdd : decide (p = q) = d at HDD ⊢
    have HD := hidden hdd
    clear hdd HDD
    go_enter Try.func60, Try.ntmps60
    go_wp2
    go_loopw [13] (fun c wr => ∃ k : Nat, c = .int .i64 k ∧ k ≤ p.length ∧ p.take k = q.take k ∧ Keeps (fun _ => False) w wr) (fun c _ => p.length - (intOf c).toNat)
    case atStart => exact ⟨0, rfl, Nat.zero_le _, rfl, Keeps.refl _ _⟩
    case round =>
      obtain ⟨k, rfl, hk, he, hkp⟩ := hrel
      have HE := hidden he
      clear he
      by_cases hlt : k < p.length
      · have hlq : k < q.length := by have := HL.out; omega
        have hi1 : (k : Int) < (p.length : Int) := by omega
        have hi2 : (k : Int) < (q.length : Int) := by omega
        have hp : p ≠ [] := by rintro rfl; simp at hlt
        have hq : q ≠ [] := by rintro rfl; simp at hlq
        have HA := H1.out.keep hkp (fun _ _ h => h)
        have HB := H2.out.keep hkp (fun _ _ h => h)
        obtain ⟨b1, o1, rfl⟩ := HA.addr' hp
        obtain ⟨b2, o2, rfl⟩ := HB.addr' hq
        have k1 := HA.cellAt k hlt
        have k2 := HB.cellAt k hlq
        have HT : Hid (p.take (k + 1) = p.take k ++ [p[k]] ∧ q.take (k + 1) = q.take k ++ [q[k]]) := ⟨List.take_succ_eq_append_getElem hlt, List.take_succ_eq_append_getElem hlq⟩
        have HN : Hid (p[k] ≠ q[k] → p ≠ q) := fun h e => h (by subst e; rfl)
        clear HA HB
        generalize p[k] = s at k1 HT HN
        generalize q[k] = t at k2 HT HN
        by_cases e : s = t
        · have he := (str_eq s t).2 e
          have HTe := hidden e
          clear e
          go_wp2_with fail
          go_quiet (fail)
          go_wp2
          go_roundw
          case rel => exact ⟨k + 1, by go_num, by omega, by rw [HT.out.1, HT.out.2, HE.out, HTe.out], hkp.drewN nq⟩
          case measure => simp [intOf]; omega
        · have he := str_no e
          have hne : decide (p = q) = false := by rw [decide_eq_false_iff_not]; exact HN.out e
          have HF := hidden hne
          clear e hne
          go_wp2_with fail
          go_quiet (fail)
          go_wp2
          go_ret
          exact ⟨by rw [← HD.out, HF.out]; rfl, hkp.drewN nq⟩
      · have hi1 : ¬ (k : Int) < (p.length : Int) := by omega
        have heq : decide (p = q) = true := by
          rw [decide_eq_true_eq]
          have := HE.out
          rwa [List.take_of_length_le (by omega), List.take_of_length_le (by have := HL.out; omega)] at this
        have HF := hidden heq
        clear heq
        go_wp2
        go_ret
        exact ⟨by rw [← HD.out, HF.out]; rfl, hkp⟩
  · have hli2 : (((p.length : Nat) : Int) != (q.length : Int)) = true := by simp; omega
    have hne : decide (p = q) = false := by rw [decide_eq_false_iff_not]; rintro rfl; exact hl rfl
    rw [hne]
    go_enter Try.func60, Try.ntmps60
    go_wp2
    go_ret
    exact ⟨rfl, Keeps.refl _ _⟩
end
end Go.Proofs.Ytnigfnikajejaab
