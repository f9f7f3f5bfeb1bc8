/- Load, in memory: what a directory holds. -/
import Derived.Test.YtnigfnikajejaaaTvN
import Derived.Test.YtnigfnikajejaaaTrG
import Derived.Maps.AppendAt
namespace Go.Proofs.Ytnigfnikajejaaa
open Go Go.RowKit

def Fo.app : Fo → Fo → Fo
  | .nil, f => f
  | .cons n x k r, f => .cons n x k (r.app f)
theorem Fo.app_heads : ∀ (a b : Fo), (a.app b).heads = a.heads ++ b.heads
  | .nil, _ => rfl
  | .cons n x k r, b => by rw [Fo.app, Fo.heads, Fo.heads, r.app_heads b]; rfl
theorem Fo.app_ths : ∀ (a b : Fo) (z : Th), z ∈ (a.app b).ths ↔ z ∈ a.ths ∨ z ∈ b.ths
  | .nil, _, z => by simp [Fo.app, Fo.ths]
  | .cons n x k r, b, z => by
    rw [Fo.app, Fo.ths, Fo.ths, List.mem_cons, List.mem_cons, List.mem_append, List.mem_append, r.app_ths b z]
    constructor
    · rintro (h | h | h | h)
      · exact .inl (.inl h)
      · exact .inl (.inr (.inl h))
      · exact .inl (.inr (.inr h))
      · exact .inr h
    · rintro ((h | h | h) | h)
      · exact .inl h
      · exact .inr (.inl h)
      · exact .inr (.inr (.inl h))
      · exact .inr (.inr (.inr h))
theorem Fo.app_app : ∀ (a b c : Fo), (a.app b).app c = a.app (b.app c)
  | .nil, _, _ => rfl
  | .cons n x k r, b, c => by rw [Fo.app, Fo.app, Fo.app, r.app_app b c]
theorem Fo.app_nil : ∀ a : Fo, a.app .nil = a
  | .nil => rfl
  | .cons n x k r => by rw [Fo.app, r.app_nil]
/-- How many it holds, and they. -/
def heldO (bs : List UInt8) (nx F : Nat) (dir : Bool) (s : Ld) : Option (Fo × Ld) :=
  if dir = false then (if val (tk bs s.p s.y 4).1 = 0 then some (.nil, ⟨(tk bs s.p s.y 4).2.1, (tk bs s.p s.y 4).2.2, s.ids, s.z⟩) else none)
  else kidsO (loadO bs nx F) bs (val (tk bs s.p s.y 4).1) ⟨#[]⟩ ⟨(tk bs s.p s.y 4).2.1, (tk bs s.p s.y 4).2.2, s.ids, s.z⟩
theorem loadO_eq (bs : List UInt8) (nx F : Nat) (s : Ld) : loadO bs nx (F + 1) s = match headO bs nx s with
    | none => none
    | some (x, s1) => match dataO bs x s1 with
      | none => none
      | some (x, s2) => match heldO bs nx F x.dir s2 with
        | none => none
        | some (k, s3) => some (x, k, s3) := by
  rw [loadO]
  cases headO bs nx s with
  | none => rfl
  | some q =>
    obtain ⟨x, s1⟩ := q
    simp only
    cases dataO bs x s1 with
    | none => rfl
    | some q =>
      obtain ⟨x, s2⟩ := q
      simp only
      unfold heldO
      cases x.dir with
      | false =>
        simp only [if_true]
        by_cases h : val (tk bs s2.p s2.y 4).1 = 0
        · rw [if_pos h, if_pos h]
        · rw [if_neg h, if_neg h]
      | true =>
        rw [if_neg (by simp), if_neg (by simp)]
        cases kidsO (loadO bs nx F) bs (val (tk bs s2.p s2.y 4).1) ⟨#[]⟩ ⟨(tk bs s2.p s2.y 4).2.1, (tk bs s2.p s2.y 4).2.2, s2.ids, s2.z⟩ <;> rfl

/-- What load leaves. -/
def LPost (a ar : Nat) (g : Option Nat) (bs : List UInt8) (nx : Nat) (R : Nat → Role) (L : List Th) (B : Nat → Nat) (r : Option (Hd × Fo × Ld)) (w : World) (e : Ending) (w' : World) : Prop := match r with
  | none => e = .returned (.tuple #[.pointer none, .bool false]) ∧ ∃ R', MvR ar R R' w w'
  | some (x, k, s') => ∃ R' L' B' dv' hv' tv', e = .returned (.tuple #[.pointer (some ⟨B' x.id, 0, none⟩), .bool true]) ∧ LS w' R' a ar g bs nx L' B' dv' hv' tv' s' ∧ MvR ar R R' w w' ∧
      (∀ z, z ∈ L' ↔ z ∈ L ∨ z = thH x k ∨ z ∈ k.ths) ∧ ∀ z ∈ L, B' z.id = B z.id
/-- What loadHeld leaves. -/
def HPost (a ar : Nat) (g : Option Nat) (bs : List UInt8) (nx : Nat) (R : Nat → Role) (L : List Th) (B : Nat → Nat) (x : Th) (r : Option (Fo × Ld)) (w : World) (e : Ending) (w' : World) : Prop := match r with
  | none => e = .returned (.bool false) ∧ ∃ R', MvR ar R R' w w'
  | some (k, s') => e = .returned (.bool true) ∧ ∃ R' L' B' dv' hv' tv', LS w' R' a ar g bs nx L' B' dv' hv' tv' s' ∧ MvR ar R R' w w' ∧
      (∀ z, z ∈ L' ↔ (z ∈ L ∧ z.id ≠ x.id) ∨ z = setH k.heads x ∨ z ∈ k.ths) ∧ ∀ z ∈ L, B' z.id = B z.id
def LoadOk (a ar : Nat) (g : Option Nat) (bs : List UInt8) (nx F : Nat) : Prop := ∀ (w : World) (R : Nat → Role) (L : List Th) (B : Nat → Nat) (dv hv : Nat → Value) (tv : Value) (s : Ld), LS w R a ar g bs nx L B dv hv tv s → 201 ≤ F + s.ids.length →
  Calls Try.prog 47 #[.pointer (some ⟨a, 0, none⟩), .pointer (some ⟨ar, 0, none⟩)] w (LPost a ar g bs nx R L B (loadO bs nx F s) w)

theorem name_le {a b : Nm} (h : nlt b a = true) : (Op.bytesLess a.toList b.toList || a.toList == b.toList) = false := by
  rw [ByteArray.toList_eq, ByteArray.toList_eq]
  have h1 : Op.bytesLess a.data.toList b.data.toList = false := nlt_asymm h
  have h2 : (a.data.toList == b.data.toList) = false := by
    rw [beq_eq_false_iff_ne]
    intro e
    exact nlt_ne h (ByteArray.ext (Array.toList_inj.1 e)).symm
  rw [h1, h2]; rfl
theorem name_gt {a b : Nm} (h : nlt b a = false) : (Op.bytesLess a.toList b.toList || a.toList == b.toList) = true := by
  rw [ByteArray.toList_eq, ByteArray.toList_eq]
  by_cases e : b = a
  · subst e; simp
  · have h1 : Op.bytesLess a.data.toList b.data.toList = true := nlt_ge h e
    rw [h1]; rfl

section
variable {w w' : World} {R R' : Nat → Role} {a ar : Nat} {g : Option Nat} {bs : List UInt8} {nx : Nat} {L : List Th} {B : Nat → Nat} {dv hv : Nat → Value} {tv : Value} {s : Ld}
/-- One entry more behind what a directory holds. -/
theorem LS.entry (h : LS w R a ar g bs nx L B dv hv tv s) {x : Th} (hx : x ∈ L) {n : Nm} {j : Nat} (hj : ∃ z ∈ L, z.id = j) (hl : x.h.length ≤ 1000) :
    ∃ v' w1, (Builtin.append_ #[71, 71] 71 #[hv x.id, .slice (some ⟨w.heap.size, 0, none⟩) 1 1]).run Try.prog (w.alloc (.cells #[.string n, .pointer (some ⟨B j, 0, none⟩)] 83)) = .ok v' w1 ∧
      (∃ ao n c, v' = .slice ao n c) ∧ w1.frozen? ⟨B x.id, 10, none⟩ = false ∧ (∃ u, w1.cell? ⟨B x.id, 10, none⟩ = some u) ∧ ∃ R' hv', LS (w1.setCell ⟨B x.id, 10, none⟩ v') R' a ar g bs nx (setT L x.id (setH (x.h ++ [(n, j)]))) B (upd dv x.id (dv x.id)) hv' tv s ∧ MvR ar R R' w (w1.setCell ⟨B x.id, 10, none⟩ v') := by
  obtain ⟨i0, hi, hz0, hz1, hz2⟩ := info_parts Try.infoEnt
  have hrow := h.tx.hel x hx
  have ho : (w.alloc (.cells #[.string n, .pointer (some ⟨B j, 0, none⟩)] 83)).ownsRow 0 83 2 (hv x.id) x.h.length (ecells B x.h) := World.ownsRow.alloc hrow _
  obtain ⟨v', w1, hr, hown, hg, _, hat⟩ := run_append_own_at (P := Try.prog) (w.alloc (.cells #[.string n, .pointer (some ⟨B j, 0, none⟩)] 83)) 0 71 71 83 i0 _ 2 24 Try.underlying71 hi hz0 hz1 hz2 rfl (by omega) _ _ _ ho ⟨w.heap.size, 0, none⟩ 1 1 [.string n, .pointer (some ⟨B j, 0, none⟩)] rfl (World.news_of_block (t := 83) (fr := (0, 0)) (heap_alloc_new w _)) (fun u hu => by
    rcases List.mem_cons.1 hu with rfl | hu
    · rfl
    · rw [List.mem_singleton.1 hu]; rfl) (by unfold maxLen; omega) (by omega) (Nat.zero_le _)
  have hka : Keeps (fun _ => False) w (w.alloc (.cells #[.string n, .pointer (some ⟨B j, 0, none⟩)] 83)) := (Keeps.refl _ _).alloc _
  have hk1 : Keeps (fun k => (hv x.id).ownBlock = some k) w w1 := (hka.mono fun _ _ h => h.elim).trans (Keeps.ofGrown hg fun _ e => e)
  have hxr := h.tx.rth x hx
  have hvb : (hv x.id).ownBlock ≠ some (B x.id) := fun e => by
    have h1 := h.tx.rhel x hx _ e
    rw [hxr] at h1; cases h1
  have hva : (hv x.id).ownBlock ≠ some a := fun e => by
    have h1 := h.tx.rhel x hx _ e
    rw [h.tx.ra] at h1; cases h1
  have hth1 := (h.tx.th x hx).keep hk1 hvb
  refine ⟨v', w1, hr, ownsRow_shape hown |>.elim fun ao h => h.elim fun c h => ⟨ao, _, c, h⟩, hth1.fz 10, ⟨_, hth1.c10⟩, ?_⟩
  have hks := keeps_set w1 (B x.id) 10 v'
  have hk2 : Keeps (fun k => k = B x.id ∨ (hv x.id).ownBlock = some k) w (w1.setCell ⟨B x.id, 10, none⟩ v') := (hk1.mono fun _ _ h => .inr h).trans (hks.mono fun _ _ h => .inl h)
  have hnew : ∀ k, v'.ownBlock = some k → (k < w.heap.size ∧ R k = .hel x.id) ∨ w.heap.size ≤ k := fun k e => by
    rcases hat with h1 | h1
    · rw [h1] at e; exact .inl ⟨h.tx.hel x hx |>.lt k e, h.tx.rhel x hx k e⟩
    · rw [h1] at e; cases e; simp
  have hvb2 : ∀ k, v'.ownBlock = some k → ¬ k = B x.id := fun k e e2 => by
    rcases hnew k e with ⟨_, h1⟩ | h1
    · rw [e2, hxr] at h1; cases h1
    · have := (h.tx.th x hx).lt; omega
  have hec : ecells B (x.h ++ [(n, j)]) = ecells B x.h ++ [.string n, .pointer (some ⟨B j, 0, none⟩)] := by rw [ecells_append]; rfl
  have hE : ERow (w1.setCell ⟨B x.id, 10, none⟩ v') B v' (x.h ++ [(n, j)]) := by
    unfold ERow
    rw [hec, List.length_append]
    exact hks.row hown hvb2
  obtain ⟨R', h1, h2⟩ := h.tx.one h.inc hx (setH (x.h ++ [(n, j)])) (fun _ => rfl) (dv' := dv x.id) (hv' := v') hk2 (fun k _ e => by
      rcases e with e | e
      · rw [e]; exact .inl hxr
      · exact .inr (.inl (h.tx.rhel x hx k e))) (by
      rw [setT_size (f := setH (x.h ++ [(n, j)])) fun _ => rfl]
      refine top_keep h.tx.top hk2 fun e => ?_
      rcases e with e | e
      · have h1 := h.tx.ra; rw [e, hxr] at h1; cases h1
      · exact hva e) (hth1.setH _ _) ((h.tx.dat x hx).keep hk2 fun k e e2 => by
        have h1 := h.tx.rdat x hx k e
        rcases e2 with e2 | e2
        · rw [e2, hxr] at h1; cases h1
        · rw [h.tx.rhel x hx k e2] at h1; cases h1) hE (fun k e => .inl ⟨(h.tx.dat x hx).lt k e, h.tx.rdat x hx k e⟩) hnew (fun k h1 h2 _ => by have := (h.tx.dat x hx).lt k h2; omega)
  obtain ⟨r0, r1, r2⟩ := h.reader (R' := R') hk2 (fun k _ e => by
      rcases e with e | e
      · rw [e, hxr]; intro e; cases e
      · rw [h.tx.rhel x hx k e]; intro e; cases e) h2
  refine ⟨R', _, ⟨h1, r0, r1, r2, setT_inc h.inc _ _ (fun _ => rfl), fun i => (h.ids i).trans (ids_setT (l := L) (i := x.id) (f := setH (x.h ++ [(n, j)])) (fun _ => rfl) i).symm, h.nod, by rw [setT_length]; exact h.len, by rw [setT_length]; exact h.cnt, by rw [setT_size (f := setH (x.h ++ [(n, j)])) fun _ => rfl]; exact h.sz, h.bytes, ?_⟩, ⟨h2, hk2.mono fun k _ e => ?_⟩⟩
  · intro y hy e he
    obtain ⟨u, hu, rfl⟩ := mem_setT.1 hy
    refine (ids_setT (l := L) (i := x.id) (f := setH (x.h ++ [(n, j)])) (fun _ => rfl) e.2).2 ?_
    split at he
    · rcases List.mem_append.1 (show e ∈ x.h ++ [(n, j)] from he) with he | he
      · exact h.kids x hx e he
      · rw [List.mem_singleton.1 he]; exact hj
    · exact h.kids u hu e he
  · rcases e with e | e
    · exact .inr (by rw [e, hxr]; intro e; cases e)
    · exact .inr (by rw [h.tx.rhel x hx k e]; intro e; cases e)

set_option maxHeartbeats 8000000 in
set_option maxRecDepth 100000 in
theorem loadHeld_c {F : Nat} (IH : LoadOk a ar g bs nx F) (h : LS w R a ar g bs nx L B dv hv tv s) {x : Th} (hx : x ∈ L) (hxh : x.h = []) (hF : 201 ≤ F + s.ids.length) :
    Calls Try.prog 70 #[.pointer (some ⟨a, 0, none⟩), .pointer (some ⟨B x.id, 0, none⟩), .pointer (some ⟨ar, 0, none⟩)] w (HPost a ar g bs nx R L B x (heldO bs nx F x.dir s) w) := by
  have HL := hidden h
  have HX := hidden hx
  have HXH := hidden hxh
  have HIH := hidden IH
  have c1 := (h.tx.th x hx).c1
  have HU := hidden (u32_r w h.rd)
  have HR : Hid (heldO bs nx F x.dir s = if x.dir = false then (if val (tk bs s.p s.y 4).1 = 0 then some (.nil, ⟨(tk bs s.p s.y 4).2.1, (tk bs s.p s.y 4).2.2, s.ids, s.z⟩) else none)
    else kidsO (loadO bs nx F) bs (val (tk bs s.p s.y 4).1) ⟨#[]⟩ ⟨(tk bs s.p s.y 4).2.1, (tk bs s.p s.y 4).2.2, s.ids, s.z⟩) := rfl
  generalize heldO bs nx F x.dir s = rr at HR ⊢
  have hvl : val (tk bs s.p s.y 4).1 ≤ 4294967295 := f_lt bs s.p s.y
  generalize tk bs s.p s.y 4 = t at HR HU hvl
  obtain ⟨c, hc⟩ : ∃ c, c = val t.1 := ⟨_, rfl⟩
  rw [← hc] at HR HU hvl
  have HFI := hidden hF
  clear h hx hxh IH hc hF
  go_enter Try.func70, Try.ntmps70
  go_wp2_with fail
  refine HU.out.mono ?_
  rintro e w1 ⟨rfl, ht1⟩
  have HL1 := hidden (HL.out.took ht1)
  have HM1 : Hid (MvR ar R R w w1) := MvR.took ht1.keeps
  have c1' := (HL1.out.tx.th x HX.out).c1
  clear ht1 c1
  cases hdx : x.dir with
  | false =>
    rw [hdx] at c1'
    have hr := HR.out
    rw [if_pos hdx] at hr
    by_cases hc0 : c = 0
    · rw [if_pos hc0] at hr
      subst hr
      have hci : ((c : Int) == 0) = true := by rw [hc0]; rfl
      clear HR hc0
      go_wp2_with fail
      go_ret
      refine ⟨rfl, R, L, B, dv, hv, tv, HL1.out, HM1.out, fun z => ?_, fun _ _ => rfl⟩
      have hsx : setH [] x = x := by unfold setH; rw [← HXH.out]
      constructor
      · intro hz
        by_cases e : z.id = x.id
        · exact .inr (.inl (by rw [HL1.out.inc.uniq hz HX.out e]; exact hsx.symm))
        · exact .inl ⟨hz, e⟩
      · rintro (⟨hz, _⟩ | hz | hz)
        · exact hz
        · rw [hz, show setH (Fo.heads .nil) x = x from hsx]; exact HX.out
        · cases hz
    · rw [if_neg hc0] at hr
      subst hr
      have hci : ((c : Int) == 0) = false := by rw [beq_eq_false_iff_ne]; omega
      clear HR hc0
      go_wp2_with fail
      go_ret
      exact ⟨rfl, R, HM1.out⟩
  | true =>
    rw [hdx] at c1'
    have hr := HR.out
    rw [if_neg (by rw [hdx]; simp)] at hr
    have HRR := hidden hr
    clear hr HR
    go_wp2_with fail
    go_loopw [8, 22] (fun bf cc wr => ∃ (j : Nat) (b1 : Nm) (R1 : Nat → Role) (L1 : List Th) (B1 : Nat → Nat) (dv1 hv1 : Nat → Value) (tv1 : Value) (s1 : Ld) (acc : Fo), bf = .string b1 ∧ cc = .int .u32 j ∧ j ≤ c ∧ LS wr R1 a ar g bs nx L1 B1 dv1 hv1 tv1 s1 ∧ MvR ar R R1 w wr ∧
      (∀ z, z ∈ L1 ↔ (z ∈ L ∧ z.id ≠ x.id) ∨ z = setH acc.heads x ∨ z ∈ acc.ths) ∧ (∀ z ∈ acc.ths, z.id ≠ x.id) ∧ (∀ z ∈ L, B1 z.id = B z.id) ∧ acc.heads.length + 1 ≤ L1.length ∧ 201 ≤ F + s1.ids.length ∧ rr = (kidsO (loadO bs nx F) bs (c - j) b1 s1).map (fun q => (acc.app q.1, q.2))) (fun _ cc _ => c - (intOf cc).toNat)
    case atStart =>
      refine ⟨0, ⟨#[]⟩, R, L, B, dv, hv, tv, _, .nil, rfl, rfl, Nat.zero_le _, HL1.out, HM1.out, fun z => ?_, (fun z hz => by cases hz), fun _ _ => rfl, ?_, HFI.out, ?_⟩
      · have hsx : setH [] x = x := by unfold setH; rw [← HXH.out]
        constructor
        · intro hz
          by_cases e : z.id = x.id
          · exact .inr (.inl (by rw [HL1.out.inc.uniq hz HX.out e]; exact hsx.symm))
          · exact .inl ⟨hz, e⟩
        · rintro (⟨hz, _⟩ | hz | hz)
          · exact hz
          · rw [hz, show setH (Fo.heads .nil) x = x from hsx]; exact HX.out
          · cases hz
      · have := List.length_pos_of_mem HX.out
        show 0 + 1 ≤ _
        omega
      · rw [HRR.out, Nat.sub_zero]
        cases kidsO (loadO bs nx F) bs c ⟨#[]⟩ ⟨t.2.1, t.2.2, s.ids, s.z⟩ with
        | none => rfl
        | some q => rfl
    case round =>
      obtain ⟨j, b1, R1, L1, B1, dv1, hv1, tv1, s1, acc, rfl, rfl, hjc, hLr, hMr, hmem, hacc, hB1, hlen, hF1, hrr⟩ := hrel
      have HLr := hidden hLr
      have HMr := hidden hMr
      have HMEM := hidden hmem
      have HACC := hidden hacc
      have HB1 := hidden hB1
      have HLEN := hidden hlen
      have HF1 := hidden hF1
      have HRJ := hidden hrr
      clear hLr hMr hmem hacc hB1 hlen hF1 hrr
      by_cases hlt : j < c
      · have hi1 : (j : Int) < (c : Int) := by omega
        have HTX := hidden (fun (W : World) (hW : WR W ar g bs s1.p s1.y) => textS_r 30 (by omega) (by omega) W hW)
        have HK : Hid (kidsO (loadO bs nx F) bs (c - j) b1 s1 = if rightP (tx bs s1.p s1.y 30).1 = false ∨ nlt b1 (tb (tx bs s1.p s1.y 30).1) = false then none
          else match loadO bs nx F ⟨(tx bs s1.p s1.y 30).2.1, (tx bs s1.p s1.y 30).2.2, s1.ids, s1.z⟩ with
            | none => none
            | some (y, k, s2) => match kidsO (loadO bs nx F) bs (c - (j + 1)) (tb (tx bs s1.p s1.y 30).1) s2 with
              | none => none
              | some (r, s3) => some (.cons (tb (tx bs s1.p s1.y 30).1) y k r, s3)) := by
          show _ = _
          rw [show c - j = (c - (j + 1)) + 1 by omega]
          rfl
        generalize tx bs s1.p s1.y 30 = u at HTX HK
        go_wp2_with fail
        refine (HTX.out wr HLr.out.rd).mono ?_
        rintro e w2 ⟨rfl, ht2⟩
        have HL2 := hidden (HLr.out.took ht2)
        have HM2 : Hid (MvR ar R R1 w w2) := HMr.out.trans (MvR.took ht2.keeps)
        clear ht2
        have HRP := hidden (pright_c (tb u.1) w2)
        rw [tb_list] at HRP
        rw [show (⟨u.1.toArray⟩ : ByteArray) = tb u.1 from rfl]
        obtain ⟨nm, hnm⟩ : ∃ nm, nm = tb u.1 := ⟨_, rfl⟩
        rw [← hnm] at HRP HK ⊢
        clear hnm
        go_wp2_with fail
        refine HRP.out.mono ?_
        rintro e wq ⟨rfl, hq⟩; obtain rfl := hq.symm; clear hq
        cases hrp : rightP u.1 with
        | false =>
          have hn : rr = none := by rw [HRJ.out, HK.out, if_pos (.inl hrp)]; rfl
          subst hn
          go_wp2_with fail
          go_ret
          exact ⟨rfl, R1, HM2.out⟩
        | true =>
          cases hlt2 : nlt b1 nm with
          | false =>
            have hn : rr = none := by rw [HRJ.out, HK.out, if_pos (.inr hlt2)]; rfl
            subst hn
            have hcmp := name_gt hlt2
            clear hlt2
            go_wp2_with fail
            go_ret
            exact ⟨rfl, R1, HM2.out⟩
          | true =>
            have hcmp := name_le hlt2
            have hk := HK.out
            rw [if_neg (by rw [hrp, hlt2]; simp)] at hk
            have HK2 := hidden hk
            clear hlt2 hk HK hrp
            go_wp2_with fail
            refine (HIH.out w2 R1 L1 B1 dv1 hv1 tv1 _ HL2.out HF1.out).mono ?_
            intro e w3 hL3
            cases hld : loadO bs nx F ⟨u.2.1, u.2.2, s1.ids, s1.z⟩ with
            | none =>
              rw [hld] at hL3
              have hn : rr = none := by rw [HRJ.out, HK2.out, hld]; rfl
              subst hn
              obtain ⟨rfl, R3, hm3⟩ := hL3
              go_wp2_with fail
              go_ret
              exact ⟨rfl, R3, HM2.out.trans hm3⟩
            | some q =>
              obtain ⟨y, k, s2⟩ := q
              rw [hld] at hL3
              obtain ⟨R3, L3, B3, dv3, hv3, tv3, rfl, hS3, hm3, hmem3, hB3⟩ := hL3
              have hrd := load_read F _ _ _ _ hld
              have hids : s2.ids = k.push (y.id :: s1.ids) := hrd.ids
              have hnd := hS3.nod
              rw [hids] at hnd
              have hnd2 := ((k.push_perm (y.id :: s1.ids)).nodup_iff).1 hnd
              have hx1 : setH acc.heads x ∈ L1 := (HMEM.out _).2 (.inr (.inl rfl))
              have hxs : x.id ∈ s1.ids := (HLr.out.ids x.id).2 ⟨_, hx1, rfl⟩
              rw [nodup_mid, List.nodup_cons] at hnd2
              obtain ⟨hnd3, hnd4⟩ := hnd2
              have hyx : y.id ≠ x.id := fun e => hnd3 (by rw [e]; exact List.mem_append_right _ hxs)
              have hkx : ∀ i ∈ k.ids, i ≠ x.id := fun i hi e => (List.nodup_append.1 hnd4).2.2 i hi x.id hxs e
              have hlen3 : L3.length = k.ids.length + (L1.length + 1) := by
                rw [hS3.len, hids, (k.push_perm _).length_eq, List.length_append, List.length_cons, HLr.out.len]
              have hx3 : setH acc.heads x ∈ L3 := (hmem3 _).2 (.inl hx1)
              have hBx : B3 x.id = B x.id := by
                have h1 := hB3 _ hx1
                rw [show (setH acc.heads x).id = x.id from rfl] at h1
                rw [h1]
                exact HB1.out x HX.out
              have hhl : acc.heads.length ≤ 1000 := by have := HLEN.out; have := HLr.out.cnt; omega
              obtain ⟨v', w4, hrun, ⟨vo, vn, vc, rfl⟩, hfz, ⟨u0, hc10⟩, R4, hv4, hS4, hm4⟩ := hS3.entry hx3 (n := nm) (j := y.id) ⟨thH y k, (hmem3 _).2 (.inr (.inl rfl)), rfl⟩ hhl
              rw [show (setH acc.heads x).id = x.id from rfl] at hrun hfz hc10 hS4 hm4
              rw [show (setH acc.heads x).h = acc.heads from rfl] at hS4
              have c10 := (hS3.tx.th _ hx3).c10
              rw [show (setH acc.heads x).id = x.id from rfl] at c10
              obtain ⟨hao, hcap, hhv, _⟩ := (hS3.tx.hel _ hx3).shape
              rw [show (setH acc.heads x).id = x.id from rfl, show (setH acc.heads x).h = acc.heads from rfl] at hhv
              rw [hhv] at c10 hrun
              rw [hBx] at hfz hc10 hS4 hm4 c10
              have HS4 := hidden hS4
              have HM4 : Hid (MvR ar R R4 w (w4.setCell ⟨B x.id, 10, none⟩ (.slice vo vn vc))) := (HM2.out.trans hm3).trans hm4
              have HREL : Hid ((∀ z, z ∈ setT L3 x.id (setH (acc.heads ++ [(nm, y.id)])) ↔ (z ∈ L ∧ z.id ≠ x.id) ∨ z = setH (acc.app (.cons nm y k .nil)).heads x ∨ z ∈ (acc.app (.cons nm y k .nil)).ths) ∧ (∀ z ∈ (acc.app (.cons nm y k .nil)).ths, z.id ≠ x.id) ∧ (∀ z ∈ L, B3 z.id = B z.id) ∧ (acc.app (.cons nm y k .nil)).heads.length + 1 ≤ (setT L3 x.id (setH (acc.heads ++ [(nm, y.id)]))).length ∧ 201 ≤ F + s2.ids.length ∧ rr = (kidsO (loadO bs nx F) bs (c - (j + 1)) nm s2).map (fun q => ((acc.app (.cons nm y k .nil)).app q.1, q.2))) := by
                have hh : (acc.app (.cons nm y k .nil)).heads = acc.heads ++ [(nm, y.id)] := by rw [Fo.app_heads]; rfl
                have ht : ∀ z, z ∈ (acc.app (.cons nm y k .nil)).ths ↔ z ∈ acc.ths ∨ z = thH y k ∨ z ∈ k.ths := fun z => by
                  rw [Fo.app_ths, Fo.ths, List.mem_cons, List.mem_append]
                  simp [Fo.ths]
                have hidk : ∀ z ∈ k.ths, z.id ≠ x.id := fun z hz => hkx _ (Fo.id_mem hz)
                refine ⟨fun z => ?_, fun z hz => ?_, fun z hz => ?_, ?_, ?_, ?_⟩
                · rw [hh, ht, mem_setT]
                  constructor
                  · rintro ⟨u, hu, rfl⟩
                    by_cases e : u.id = x.id
                    · rw [if_pos e]
                      have : u = setH acc.heads x := hS3.inc.uniq hu hx3 e
                      rw [this]
                      exact .inr (.inl rfl)
                    · rw [if_neg e]
                      rcases (hmem3 u).1 hu with h1 | h1 | h1
                      · rcases (HMEM.out u).1 h1 with h2 | h2 | h2
                        · exact .inl h2
                        · exact absurd (by rw [h2]; rfl) e
                        · exact .inr (.inr (.inl h2))
                      · exact .inr (.inr (.inr (.inl h1)))
                      · exact .inr (.inr (.inr (.inr h1)))
                  · rintro (⟨h1, h2⟩ | h1 | h1 | h1 | h1)
                    · exact ⟨z, (hmem3 z).2 (.inl ((HMEM.out z).2 (.inl ⟨h1, h2⟩))), by rw [if_neg h2]⟩
                    · exact ⟨_, hx3, by rw [if_pos (show (setH acc.heads x).id = x.id from rfl), h1]; rfl⟩
                    · exact ⟨z, (hmem3 z).2 (.inl ((HMEM.out z).2 (.inr (.inr h1)))), by rw [if_neg (HACC.out z h1)]⟩
                    · exact ⟨z, (hmem3 z).2 (.inr (.inl h1)), by rw [if_neg (by rw [h1]; exact hyx)]⟩
                    · exact ⟨z, (hmem3 z).2 (.inr (.inr h1)), by rw [if_neg (hidk z h1)]⟩
                · rcases (ht z).1 hz with h1 | h1 | h1
                  · exact HACC.out z h1
                  · rw [h1]; exact hyx
                  · exact hidk z h1
                · rw [← HB1.out z hz]
                  by_cases e : z.id = x.id
                  · rw [e, hBx]; exact (HB1.out x HX.out).symm
                  · exact hB3 z ((HMEM.out z).2 (.inl ⟨hz, e⟩))
                · rw [hh, setT_length, List.length_append, hlen3]
                  have := HLEN.out
                  simp only [List.length_cons, List.length_nil]
                  omega
                · have := HF1.out
                  rw [hids, (k.push_perm _).length_eq, List.length_append, List.length_cons]
                  omega
                · rw [HRJ.out, HK2.out, hld]
                  simp only
                  cases kidsO (loadO bs nx F) bs (c - (j + 1)) nm s2 with
                  | none => rfl
                  | some q =>
                    obtain ⟨r, s3⟩ := q
                    simp only [Option.map_some]
                    rw [Fo.app_app]
                    rfl
              clear hS4 hm4 hmem3 hB3 hm3 hld hrd hids hnd hnd3 hnd4 hyx hkx hlen3 hx3 hx1 hxs hS3
              go_wp2_with (at_builtin; refine wpList_append_run _ rfl (.tmp 46) (.tmp 50) 71 71 rfl _ _ rfl rfl hrun ?_)
              go_roundw
              case rel =>
                obtain ⟨q1, q2, q3, q4, q5, q6⟩ := HREL.out
                exact ⟨j + 1, nm, R4, _, B3, _, hv4, tv3, s2, acc.app (.cons nm y k .nil), rfl, by go_num, hlt, HS4.out, HM4.out, q1, q2, q3, q4, q5, q6⟩
              case measure => simp [intOf]; omega
      · obtain rfl : j = c := by omega
        have hi1 : ¬ ((j : Nat) : Int) < (j : Int) := by omega
        have hn : rr = some (acc, s1) := by
          rw [HRJ.out, Nat.sub_self]
          show some (acc.app .nil, s1) = _
          rw [Fo.app_nil]
        subst hn
        go_wp2_with fail
        go_ret
        exact ⟨rfl, R1, L1, B1, dv1, hv1, tv1, HLr.out, HMr.out, HMEM.out, HB1.out⟩
end
end Go.Proofs.Ytnigfnikajejaaa
