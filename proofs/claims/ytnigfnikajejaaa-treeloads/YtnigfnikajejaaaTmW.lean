/- What Save gives, plainly. -/
import Derived.Test.YtnigfnikajejaaaTrE
import Derived.Test.YtnigfnikajejaaaAtD
import Derived.Test.YtnigfnikajejaaaTmT
import Derived.Test.YtnigfnikajejaaaWrE
namespace Go.Proofs.Ytnigfnikajejaaa
open Go Go.RowKit

/-- A thing's own bytes, ahead of what it holds. -/
def hdrB (x : Th) : List UInt8 := be 8 x.id ++ [bit x.dir] ++ putA x.a ++ x.d ++ be 4 x.h.length
def heldB (f : Nat → List UInt8) (h : HL) : List UInt8 := h.flatMap fun e => textBytes e.1.data.toList ++ f e.2
/-- A thing and all under it, as bytes, so deep and no deeper. -/
def saveO (l : List Th) : Nat → Nat → Option (List UInt8)
  | 0, _ => none
  | F + 1, i => match findT l i with
    | none => none
    | some x => if x.h.all (fun e => (saveO l F e.2).isSome) then some (hdrB x ++ heldB (fun j => (saveO l F j).getD []) x.h) else none
def savesTo (S : Tr) (b : List UInt8) : Prop := ∃ F r, saveO S.ths F 0 = some r ∧ b = be 8 S.next ++ r
theorem saveO_eq {l : List Th} {F i : Nat} {x : Th} (h : findT l i = some x) : saveO l (F + 1) i = if x.h.all (fun e => (saveO l F e.2).isSome) then some (hdrB x ++ heldB (fun j => (saveO l F j).getD []) x.h) else none := by
  rw [saveO, h]
theorem heldB_congr {f g : Nat → List UInt8} {h : HL} (he : ∀ e ∈ h, f e.2 = g e.2) : heldB f h = heldB g h := by
  unfold heldB
  induction h with
  | nil => rfl
  | cons e h ih => rw [List.flatMap_cons, List.flatMap_cons, he e List.mem_cons_self, ih fun x hx => he x (List.mem_cons_of_mem _ hx)]
theorem heldB_take (f : Nat → List UInt8) (h : HL) (k : Nat) (hk : k < h.length) : heldB f (h.take (k + 1)) = heldB f (h.take k) ++ (textBytes (h[k]).1.data.toList ++ f (h[k]).2) := by
  unfold heldB
  rw [List.take_succ_eq_append_getElem hk, List.flatMap_append]
  simp
theorem heldB_take_le (f : Nat → List UInt8) (h : HL) (k : Nat) : (heldB f (h.take k)).length ≤ (heldB f h).length := by
  conv => rhs; rw [← List.take_append_drop k h]
  unfold heldB
  rw [List.flatMap_append, List.length_append]
  omega
theorem saveO_mono (l : List Th) : ∀ F i b, saveO l F i = some b → saveO l (F + 1) i = some b
  | 0, _, _, h => by cases h
  | F + 1, i, b, h => by
    cases hf : findT l (i : Int) with
    | none => rw [saveO, hf] at h; cases h
    | some x =>
      rw [saveO_eq hf] at h ⊢
      split at h
      · next ha =>
        have ha2 := List.all_eq_true.1 ha
        have key : ∀ e ∈ x.h, saveO l (F + 1) e.2 = saveO l F e.2 := fun e he => by
          obtain ⟨c, hc⟩ := Option.isSome_iff_exists.1 (ha2 e he)
          rw [hc]
          exact saveO_mono l F e.2 c hc
        rw [if_pos (List.all_eq_true.2 fun e he => by rw [key e he]; exact ha2 e he), ← h]
        congr 2
        exact heldB_congr fun e he => by rw [key e he]
      · cases h
theorem saveO_le (l : List Th) {F G i : Nat} {b : List UInt8} (h : saveO l F i = some b) (hg : F ≤ G) : saveO l G i = some b := by
  induction hg with
  | refl => exact h
  | step _ ih => exact saveO_mono l _ _ _ ih
theorem savesTo_uniq {S : Tr} {b c : List UInt8} (h : savesTo S b) (k : savesTo S c) : b = c := by
  obtain ⟨F, r, h1, rfl⟩ := h
  obtain ⟨G, q, k1, rfl⟩ := k
  have h2 := saveO_le _ h1 (Nat.le_max_left F G)
  rw [saveO_le _ k1 (Nat.le_max_right F G)] at h2
  rw [Option.some.inj h2]
/-- The paths to all that is saved, from a thing on. -/
def pathsO (l : List Th) : Nat → Nat → List (List Nm)
  | 0, _ => []
  | F + 1, i => match findT l i with
    | none => []
    | some x => [] :: x.h.flatMap fun e => (pathsO l F e.2).map (e.1 :: ·)

section
variable {S : Tr} {pa : Nat → Nat} {nm : Nat → Nm}
theorem Ok.dsize (o : Ok S pa nm) {x : Th} (hx : x ∈ S.ths) : x.d.length ≤ 1048576 := by
  have := sizeT_at o.inc hx
  have := o.bytes
  omega
theorem Ok.nsize (o : Ok S pa nm) {x : Th} (hx : x ∈ S.ths) {e : Nm × Nat} (he : e ∈ x.h) : e.1.size ≤ 30 := by
  obtain ⟨h0, ⟨y, hy, hye⟩, _, h3⟩ := (o.held x hx e.1 e.2).1 he
  have := o.right y hy (by omega)
  rw [hye, h3] at this
  have := rightP_len this
  rw [size_len]
  exact this
/-- Every thing can be saved. -/
theorem Ok.saves (o : Ok S pa nm) : ∀ x ∈ S.ths, ∃ F b, saveO S.ths F x.id = some b := by
  obtain ⟨rk, hrk⟩ := o.rank
  obtain ⟨M, hM⟩ : ∃ M, ∀ x ∈ S.ths, rk x.id ≤ M := by
    generalize S.ths = l
    induction l with
    | nil => exact ⟨0, fun x hx => by cases hx⟩
    | cons y l ih =>
      obtain ⟨M, hM⟩ := ih
      exact ⟨max M (rk y.id), fun x hx => by
        rcases List.mem_cons.1 hx with rfl | hx
        · exact Nat.le_max_right _ _
        · exact Nat.le_trans (hM x hx) (Nat.le_max_left _ _)⟩
  have main : ∀ (n : Nat), ∀ x ∈ S.ths, M - rk x.id ≤ n → ∃ F b, saveO S.ths F x.id = some b := by
    intro n
    induction n with
    | zero =>
      intro x hx hn
      refine ⟨1, hdrB x, ?_⟩
      rw [saveO_eq (findT_nat o.inc hx rfl)]
      have : x.h = [] := by
        cases hh : x.h with
        | nil => rfl
        | cons e r =>
          obtain ⟨h0, ⟨y, hy, hye⟩, h2, _⟩ := (o.held x hx e.1 e.2).1 (by rw [hh]; exact List.mem_cons_self)
          have h1 := hrk y hy (by omega)
          rw [hye, h2, ← hye] at h1
          have := hM y hy
          omega
      rw [this]
      simp [heldB]
    | succ n ih =>
      intro x hx hn
      have each : ∀ e ∈ x.h, ∃ F b, saveO S.ths F e.2 = some b := fun e he => by
        obtain ⟨h0, ⟨y, hy, hye⟩, h2, _⟩ := (o.held x hx e.1 e.2).1 he
        have h1 := hrk y hy (by omega)
        rw [hye, h2, ← hye] at h1
        rw [← hye]
        exact ih y hy (by omega)
      obtain ⟨F, hF⟩ : ∃ F, ∀ e ∈ x.h, ∃ b, saveO S.ths F e.2 = some b := by
        generalize x.h = h at each
        induction h with
        | nil => exact ⟨0, fun e he => by cases he⟩
        | cons e r ih2 =>
          obtain ⟨F, hF⟩ := ih2 fun x hx => each x (List.mem_cons_of_mem _ hx)
          obtain ⟨G, b, hG⟩ := each e List.mem_cons_self
          refine ⟨max F G, fun x hx => ?_⟩
          rcases List.mem_cons.1 hx with rfl | hx
          · exact ⟨b, saveO_le _ hG (Nat.le_max_right _ _)⟩
          · obtain ⟨c, hc⟩ := hF x hx
            exact ⟨c, saveO_le _ hc (Nat.le_max_left _ _)⟩
      refine ⟨F + 1, hdrB x ++ heldB (fun j => (saveO S.ths F j).getD []) x.h, ?_⟩
      rw [saveO_eq (findT_nat o.inc hx rfl), if_pos (List.all_eq_true.2 fun e he => by obtain ⟨b, hb⟩ := hF e he; rw [hb]; rfl)]
  intro x hx
  exact main (M - rk x.id) x hx (Nat.le_refl _)
theorem Ok.savesRoot (o : Ok S pa nm) : ∃ F r, saveO S.ths F 0 = some r := by
  obtain ⟨x, hx, h0⟩ := o.rootMem
  obtain ⟨F, b, h⟩ := o.saves x hx
  rw [h0] at h
  exact ⟨F, b, h⟩
/-- Each thing is saved once. -/
theorem Ok.paths_walk (o : Ok S pa nm) : ∀ F, ∀ x ∈ S.ths, ∀ p ∈ pathsO S.ths F x.id, ∃ j, walkT S.ths x.id p = some j
  | 0, _, _, p, h => by cases h
  | F + 1, x, hx, p, h => by
    rw [pathsO, findT_nat o.inc hx rfl] at h
    rcases List.mem_cons.1 h with rfl | h
    · exact ⟨x.id, rfl⟩
    · obtain ⟨e, he, h2⟩ := List.mem_flatMap.1 h
      obtain ⟨q, hq, rfl⟩ := List.mem_map.1 h2
      obtain ⟨h0, ⟨y, hy, hye⟩, _, _⟩ := (o.held x hx e.1 e.2).1 he
      obtain ⟨j, hj⟩ := o.paths_walk F y hy q (by rw [hye]; exact hq)
      refine ⟨j, ?_⟩
      rw [walkT, findT_nat o.inc hx rfl]
      simp only [(getH_some (o.srt x hx) e.1 e.2).2 he]
      rw [← hye]; exact hj
theorem Ok.paths_nodup (o : Ok S pa nm) : ∀ F, ∀ x ∈ S.ths, (pathsO S.ths F x.id).Nodup
  | 0, _, _ => List.Pairwise.nil
  | F + 1, x, hx => by
    rw [pathsO, findT_nat o.inc hx rfl]
    refine List.nodup_cons.2 ⟨fun h => ?_, ?_⟩
    · obtain ⟨e, he, h2⟩ := List.mem_flatMap.1 h
      obtain ⟨q, hq, h3⟩ := List.mem_map.1 h2
      cases h3
    · refine List.pairwise_flatMap.2 ?_
      refine ⟨fun e he => ?_, ?_⟩
      · obtain ⟨h0, ⟨y, hy, hye⟩, _, _⟩ := (o.held x hx e.1 e.2).1 he
        have := o.paths_nodup F y hy
        rw [hye] at this
        exact List.pairwise_map.2 (this.imp fun h1 h2 => h1 (List.cons.inj h2).2)
      · refine (o.srt x hx).imp fun {e f} hef => ?_
        intro p h1 p2 h2 h4
        obtain ⟨q, _, rfl⟩ := List.mem_map.1 h1
        obtain ⟨r, _, rfl⟩ := List.mem_map.1 h2
        exact nlt_ne hef (List.cons.inj h4).1
theorem Ok.paths_len (o : Ok S pa nm) (F : Nat) : (pathsO S.ths F 0).length ≤ 200 := by
  obtain ⟨x, hx, h0⟩ := o.rootMem
  have hn := o.paths_nodup F x hx
  have hw := o.paths_walk F x hx
  rw [h0] at hn hw
  have hids : ((pathsO S.ths F 0).map fun p => (walkT S.ths 0 p).getD 0).Nodup := by
    refine List.pairwise_map.2 (List.Pairwise.imp_of_mem ?_ hn)
    intro p q hp hq hne he
    obtain ⟨j, hj⟩ := hw p hp
    obtain ⟨k, hk⟩ := hw q hq
    rw [hj, hk] at he
    have he : j = k := he
    exact hne (o.inj _ p q j (Nat.le_refl _) hj (by rw [he]; exact hk))
  have := nodup_le (m := S.ths.map (·.id)) hids fun j hj => by
    obtain ⟨p, hp, rfl⟩ := List.mem_map.1 hj
    obtain ⟨k, hk⟩ := hw p hp
    rw [hk]
    obtain ⟨y, hy, hye⟩ := o.walk_mem p 0 o.rootMem k hk
    exact List.mem_map.2 ⟨y, hy, hye⟩
  rw [List.length_map, List.length_map] at this
  have := o.cnt
  omega
theorem textBytes_length (xs : List UInt8) : (textBytes xs).length = 4 + xs.length := by unfold textBytes; rw [List.length_append, be_length]
theorem flatMap_le {α β γ : Type} {h : List α} {f : α → List β} {g : α → List γ} {C : Nat} (he : ∀ e ∈ h, (f e).length ≤ C * (g e).length) : (h.flatMap f).length ≤ C * (h.flatMap g).length := by
  induction h with
  | nil => simp
  | cons e h ih =>
    rw [List.flatMap_cons, List.flatMap_cons, List.length_append, List.length_append, Nat.mul_add]
    have := he e List.mem_cons_self
    have := ih fun x hx => he x (List.mem_cons_of_mem _ hx)
    omega
theorem Ok.save_len (o : Ok S pa nm) : ∀ F, ∀ x ∈ S.ths, ∀ b, saveO S.ths F x.id = some b → b.length + 1000 ≤ 1100000 * (pathsO S.ths F x.id).length
  | 0, _, _, _, h => by cases h
  | F + 1, x, hx, b, h => by
    have hf := findT_nat o.inc hx rfl
    rw [saveO_eq hf] at h
    rw [pathsO, hf]
    split at h
    · next ha =>
      have ha := List.all_eq_true.1 ha
      obtain rfl := Option.some.inj h
      have h1 : (hdrB x).length ≤ 1048676 := by
        unfold hdrB
        have := putA_le x.a
        have := o.dsize hx
        simp only [List.length_append, be_length, List.length_cons, List.length_nil]
        omega
      have h2 : (heldB (fun j => (saveO S.ths F j).getD []) x.h).length ≤ 1100000 * (x.h.flatMap fun e => (pathsO S.ths F e.2).map (e.1 :: ·)).length := by
        unfold heldB
        refine flatMap_le fun e he => ?_
        obtain ⟨c, hc⟩ := Option.isSome_iff_exists.1 (ha e he)
        obtain ⟨h0, ⟨y, hy, hye⟩, _, _⟩ := (o.held x hx e.1 e.2).1 he
        have h3 := o.save_len F y hy c (by rw [hye]; exact hc)
        have h4 := o.nsize hx he
        rw [hye] at h3
        rw [size_len] at h4
        show (textBytes e.1.data.toList ++ (saveO S.ths F e.2).getD []).length ≤ _
        rw [hc, List.length_append, textBytes_length, List.length_map]
        show _ + c.length ≤ _
        omega
      rw [List.length_append, List.length_cons, Nat.mul_add]
      omega
    · cases h
theorem Ok.root_len (o : Ok S pa nm) {F : Nat} {r : List UInt8} (h : saveO S.ths F 0 = some r) : r.length ≤ 220000000 := by
  obtain ⟨x, hx, h0⟩ := o.rootMem
  have h1 := o.save_len F x hx r (by rw [h0]; exact h)
  rw [h0] at h1
  have := o.paths_len F
  omega
end

section
variable {w : World} {R : Nat → Role} {a : Nat} {S : Tr} {B : Nat → Nat} {dv hv : Nat → Value} {tv : Value} {pa : Nat → Nat} {nm : Nat → Nm}
/-- A Writer apart from the tree goes on. -/
theorem TXb.wrote {w' : World} {aw : Nat} {g g' : Option Nat} (H : TXb w R a S B dv hv tv) (hW : Wrote aw g g' w w') (ha : R aw = .no) (hg : ∀ k, g = some k → R k = .no) : TXb w' R a S B dv hv tv ∧ ∀ k, g' = some k → R k = .no := by
  refine ⟨H.keep hW.keeps fun k hk h => ?_, fun k e => ?_⟩
  · rcases h with h | h
    · rw [h] at hk; exact hk ha
    · exact hk (hg k h)
  · rcases hW.row with h | ⟨j, h, hj⟩
    · rw [h] at e; exact hg k e
    · rw [h] at e
      cases e
      by_cases hr : R k = .no
      · exact hr
      · have := H.lim k hr; omega
theorem Wrote.then {aw : Nat} {g1 g2 g3 : Option Nat} {w1 w2 w3 : World} (h : Wrote aw g1 g2 w1 w2) (k : Wrote aw g2 g3 w2 w3) : Wrote aw g1 g3 w1 w3 := h.trans k

set_option maxHeartbeats 8000000 in
set_option maxRecDepth 100000 in
theorem save_w (o : Ok S pa nm) (hnx : S.next ≤ 9000000000000000000) {base aw : Nat} (hra : R aw = .no) (F : Nat) : ∀ (x : Th), x ∈ S.ths → ∀ (b : List UInt8), saveO S.ths F x.id = some b → ∀ (w : World), TXb w R a S B dv hv tv → ∀ (g : Option Nat) (bs : List UInt8), WS w base aw g bs → (∀ k, g = some k → R k = .no) → bs.length + b.length + 200 ≤ 140737488355328 →
    Calls Try.prog 40 #[.pointer (some ⟨B x.id, 0, none⟩), .pointer (some ⟨aw, 0, none⟩)] w fun e w' => e = .returned (.tuple #[]) ∧ ∃ g', WS w' base aw g' (bs ++ b) ∧ Wrote aw g g' w w' := by
  induction F with
  | zero => intro _ _ _ h; cases h
  | succ F ih =>
    intro x hx b h w H g bs hW hrg hl
    have hf := findT_nat o.inc hx rfl
    rw [saveO_eq hf] at h
    split at h
    case isFalse => cases h
    next ha =>
    have ha := List.all_eq_true.1 ha
    obtain rfl := Option.some.inj h
    obtain ⟨f, hfd⟩ : ∃ f : Nat → List UInt8, f = fun j => (saveO S.ths F j).getD [] := ⟨_, rfl⟩
    have HFC : Hid (∀ e ∈ x.h, saveO S.ths F e.2 = some (f e.2)) := fun e he => by
      obtain ⟨c, hc⟩ := Option.isSome_iff_exists.1 (ha e he)
      rw [hc, hfd]; simp only [hc, Option.getD_some]
    rw [← hfd] at hl ⊢
    have HCH : Hid (∀ e ∈ x.h, ∃ y ∈ S.ths, y.id = e.2) := fun e he => ((o.held x hx e.1 e.2).1 he).2.1
    have HNS := hidden (fun e (he : e ∈ x.h) => o.nsize hx he)
    have HIH := hidden ih
    have hat := (o.att x hx).1
    have hhl := o.hlen hx
    have hidl := o.lt x hx
    have hds := o.dsize hx
    have hHL : (hdrB x ++ heldB f x.h).length = 8 + 1 + (putA x.a).length + x.d.length + 4 + (heldB f x.h).length := by
      unfold hdrB
      simp only [List.length_append, be_length, List.length_cons, List.length_nil]
    rw [hHL] at hl
    have HAL := hidden (putA_le x.a)
    have HH := hidden H
    have HX := hidden hx
    have HWS := hidden hW
    have HRG := hidden hrg
    have hT := H.th x hx
    have c0 := hT.c0
    clear H hW hrg ih h hf ha hfd hHL
    go_enter Try.func40, Try.ntmps40
    have hcv : IntKind.u64.wrap (x.id : Int) = (x.id : Int) := by simp [IntKind.wrap, IntKind.bits, IntKind.signed]; omega
    go_wp2_with fail
    refine (u64_c (x.id : Int) (by omega) (by omega) _ HWS.out (by omega)).mono ?_
    rintro e w1 ⟨rfl, g1, hW1, hw1⟩
    rw [Int.toNat_natCast] at hW1
    obtain ⟨H1, hr1⟩ := HH.out.wrote hw1 hra HRG.out
    have HW1 := hidden hW1
    have HR1 := hidden hw1
    have HH1 := hidden H1
    have HG1 := hidden hr1
    have c1 := (H1.th x HX.out).c1
    have hl1 := be_length 8 x.id
    clear hW1 hw1 H1 hr1 c0
    go_wp2_with fail
    refine (bool_c x.dir _ HW1.out (by rw [List.length_append, hl1]; omega)).mono ?_
    rintro e w2 ⟨rfl, g2, hW2, hw2⟩
    obtain ⟨H2, hr2⟩ := HH1.out.wrote hw2 hra HG1.out
    have HW2 := hidden hW2
    have HR2 := hidden (HR1.out.trans hw2)
    have HH2 := hidden H2
    have HG2 := hidden hr2
    obtain ⟨c2, c3, c4, c5, c6, c7, c8⟩ := (H2.th x HX.out).ca
    clear hW2 hw2 H2 hr2 c1
    go_wp2_with fail
    refine (put_c x.a hat _ HW2.out (by rw [List.length_append, List.length_append, hl1]; simp; omega)).mono ?_
    rintro e w3 ⟨rfl, g3, hW3, hw3⟩
    obtain ⟨H3, hr3⟩ := HH2.out.wrote hw3 hra HG2.out
    have HW3 := hidden hW3
    have HR3 := hidden (HR2.out.trans hw3)
    have HH3 := hidden H3
    have HG3 := hidden hr3
    have c9 := (H3.th x HX.out).c9
    obtain ⟨dao, dcap, hdv⟩ := (H3.dat x HX.out).len
    have hbd := (H3.dat x HX.out).bsl
    rw [hdv] at c9 hbd
    have HBD := hidden hbd
    have HL3 := hidden (show (bs ++ be 8 x.id ++ [bit x.dir] ++ putA x.a).length + x.d.length + 100 ≤ 140737488355328 by rw [List.length_append, List.length_append, List.length_append, hl1]; simp only [List.length_cons, List.length_nil]; omega)
    clear hbd
    clear hW3 hw3 H3 hr3 c2 c3 c4 c5 c6 c7 c8
    go_wp2_with fail
    refine (raw_c _ x.d _ HBD.out HW3.out (by have := HL3.out; omega)).mono ?_
    rintro e w4 ⟨rfl, g4, hW4, hw4⟩
    obtain ⟨H4, hr4⟩ := HH3.out.wrote hw4 hra HG3.out
    have HW4 := hidden hW4
    have HR4 := hidden (HR3.out.trans hw4)
    have HH4 := hidden H4
    have HG4 := hidden hr4
    have c10 := (H4.th x HX.out).c10
    obtain ⟨hao, hcap, hhv, hhc, hhm, hhn⟩ := (H4.hel x HX.out).shape
    rw [hhv] at c10
    unfold maxLen at hhm
    have hcl : IntKind.u32.wrap (x.h.length : Int) = (x.h.length : Int) := by simp [IntKind.wrap, IntKind.bits, IntKind.signed]; omega
    clear hW4 hw4 H4 hr4 c9
    go_wp2_with fail
    refine (u32_c (x.h.length : Int) (by omega) (by omega) _ HW4.out (by rw [List.length_append, List.length_append, List.length_append, List.length_append, hl1]; simp; omega)).mono ?_
    rintro e w5 ⟨rfl, g5, hW5, hw5⟩
    rw [Int.toNat_natCast] at hW5
    have hW5b : WS w5 base aw g5 (bs ++ hdrB x) := by
      have e : bs ++ hdrB x = bs ++ be 8 x.id ++ [bit x.dir] ++ putA x.a ++ x.d ++ be 4 x.h.length := by unfold hdrB; simp [List.append_assoc]
      rw [e]; exact hW5
    have hhdl : (hdrB x).length = 8 + 1 + (putA x.a).length + x.d.length + 4 := by
      unfold hdrB
      simp only [List.length_append, be_length, List.length_cons, List.length_nil]
    obtain ⟨H5, hr5⟩ := HH4.out.wrote hw5 hra HG4.out
    have HW5 := hidden hW5b
    have HR5 := hidden (HR4.out.trans hw5)
    have HH5 := hidden H5
    have HG5 := hidden hr5
    have c50 := (H5.th x HX.out).c10
    rw [hhv] at c50
    clear hW5 hW5b hw5 H5 hr5 c10
    go_wp2_with fail
    go_loopw [44] (fun c wr => ∃ (k : Nat) (gk : Option Nat), c = .int .i64 k ∧ k ≤ x.h.length ∧ WS wr base aw gk (bs ++ hdrB x ++ heldB f (x.h.take k)) ∧ Wrote aw g gk w wr ∧ TXb wr R a S B dv hv tv ∧ ∀ k, gk = some k → R k = .no) (fun c _ => x.h.length - (intOf c).toNat)
    case atStart => exact ⟨0, g5, rfl, Nat.zero_le _, by simpa [heldB] using HW5.out, HR5.out, HH5.out, HG5.out⟩
    case round =>
      obtain ⟨k, gk, rfl, hk, hwk, hwr, hxk, hgk⟩ := hrel
      have HWk := hidden hwk
      have HRk := hidden hwr
      have HHk := hidden hxk
      have HGk := hidden hgk
      clear hwk hwr hxk hgk
      by_cases hlt : k < x.h.length
      · have hi1 : (k : Int) < (x.h.length : Int) := by omega
        obtain ⟨eg, rfl⟩ := hhn (by intro e; rw [e] at hlt; simp at hlt)
        have hE := HHk.out.hel x HX.out
        rw [hhv] at hE
        obtain ⟨e0, e1⟩ := hE.at k hlt
        have HTK := hidden (heldB_take f x.h k hlt)
        have hle := heldB_take_le f x.h (k + 1)
        have hmem : x.h[k] ∈ x.h := List.getElem_mem hlt
        have HF := hidden (HFC.out _ hmem)
        obtain ⟨y, hy, hye⟩ := HCH.out _ hmem
        have hns := HNS.out _ hmem
        clear hE hmem
        generalize x.h[k] = en at e0 e1 HTK HF hye hns
        rw [HTK.out, List.length_append, List.length_append, textBytes_length] at hle
        have HYE := hidden hye
        clear hye
        have hsl := size_len en.1
        go_wp2_with fail
        have hlA : (bs ++ hdrB x ++ heldB f (x.h.take k)).length = bs.length + (hdrB x).length + (heldB f (x.h.take k)).length := by simp only [List.length_append]
        refine (text_c en.1 (by omega) _ (HWk.out.alloc _) (by rw [hlA, hhdl]; omega)).mono ?_
        rintro e w6 ⟨rfl, g6, hW6, hw6⟩
        have hw6b := wrote_alloc hw6
        obtain ⟨H6, hr6⟩ := HHk.out.wrote hw6b hra HGk.out
        have HW6 := hidden hW6
        have HR6 := hidden (HRk.out.trans hw6b)
        have HH6 := hidden H6
        have HG6 := hidden hr6
        have cE : w6.cell? ⟨wr.heap.size, 1, none⟩ = some (.pointer (some ⟨B en.2, 0, none⟩)) := by
          refine hw6.keeps.cell (p := ⟨wr.heap.size, 1, none⟩) ?_ ?_
          · have := heap_alloc_new wr (.cells #[.string en.1, .pointer (some ⟨B en.2, 0, none⟩)] 83)
            unfold World.cell?
            simp only [this]
            rfl
          · rintro (h | h)
            · have := HWk.out.lt
              simp only at h
              omega
            · have := (HWk.out.rowLt _ h).2
              simp only at this
              omega
        clear hW6 hw6 hw6b H6 hr6
        go_wp2_with fail
        have hl6 : (bs ++ hdrB x ++ heldB f (x.h.take k) ++ textBytes en.1.data.toList).length + (f en.2).length + 200 ≤ 140737488355328 := by
          rw [List.length_append, hlA, textBytes_length, hhdl]
          omega
        have hcall := HIH.out y hy (f en.2) (by rw [HYE.out]; exact HF.out) w6 HH6.out g6 _ HW6.out HG6.out hl6
        rw [HYE.out] at hcall
        refine hcall.mono ?_
        rintro e w7 ⟨rfl, g7, hW7, hw7⟩
        obtain ⟨H7, hr7⟩ := HH6.out.wrote hw7 hra HG6.out
        have HW7 := hidden hW7
        have HR7 := hidden (HR6.out.trans hw7)
        have HH7 := hidden H7
        have HG7 := hidden hr7
        clear hW7 hw7 H7 hr7
        have c70 := (HH7.out.th x HX.out).c10
        rw [hhv] at c70
        go_wp2_with fail
        go_roundw
        case rel =>
          refine ⟨k + 1, g7, by go_num, hlt, ?_, HR7.out, HH7.out, HG7.out⟩
          rw [HTK.out, ← List.append_assoc, ← List.append_assoc]
          exact HW7.out
        case measure => simp [intOf]; omega
      · obtain rfl : k = x.h.length := by omega
        have hi1 : ¬ ((x.h.length : Nat) : Int) < (x.h.length : Int) := by omega
        go_wp2_with fail
        go_end0
        refine ⟨rfl, gk, ?_, HRk.out⟩
        have := HWk.out
        rw [List.take_length] at this
        rw [← List.append_assoc]
        exact this
end

section
variable {w : World} {R : Nat → Role} {a : Nat} {S : Tr} {B : Nat → Nat} {dv hv : Nat → Value} {tv : Value} {pa : Nat → Nat} {nm : Nat → Nm}
/-- What a call of Save gives: the tree's bytes, in memory of their own. -/
def SavePost (w : World) (S : Tr) (e : Ending) (w' : World) : Prop :=
  ∃ v b, e = .returned v ∧ savesTo S b ∧ b.length ≤ 220000008 ∧ w'.ownsRow w.heap.size 5 1 v b.length (bcells b) ∧ Below w.heap.size w w'
set_option maxHeartbeats 4000000 in
set_option maxRecDepth 100000 in
theorem save_c (H : TXb w R a S B dv hv tv) (o : Ok S pa nm) (hnx : S.next ≤ 9000000000000000000) :
    Calls Try.prog 19 #[.pointer (some ⟨a, 0, none⟩)] w (SavePost w S) := by
  have HO := hidden o
  obtain ⟨F, r, hsr⟩ := o.savesRoot
  have hrl := o.root_len hsr
  have HS := hidden hsr
  have hal := lt_of_block H.top
  have hra : R w.heap.size = .no := by
    by_cases e : R w.heap.size = .no
    · exact e
    · have := H.lim _ e; omega
  have HRA := hidden hra
  have hH := H.still ((Keeps.refl (fun _ => False) w).alloc (.cells #[.slice none 0 0] 109))
  have hW := WS.new w (base := w.heap.size) (Nat.le_refl _)
  have c1 := hH.t1
  have hcv : IntKind.u64.wrap (S.next : Int) = (S.next : Int) := by simp [IntKind.wrap, IntKind.bits, IntKind.signed]; omega
  have HH := hidden hH
  have HW := hidden hW
  clear H o hH hsr hra hW
  go_enter Try.func19, Try.ntmps19
  go_wp2_with fail
  refine (newWriter_c _).mono ?_
  rintro e w0 ⟨rfl, hw0⟩
  rw [← hw0] at c1
  have HH0 := hidden (show TXb w0 R a S B dv hv tv by rw [hw0]; exact HH.out)
  have HW0 := hidden (show WS w0 w.heap.size w.heap.size none [] by rw [hw0]; exact HW.out)
  have HB0 := hidden (show Below w.heap.size w w0 by rw [hw0]; exact (Below.refl _ w).alloc (Nat.le_refl _) _)
  clear hw0
  go_wp2_with fail
  refine (u64_c (S.next : Int) (by omega) (by omega) _ HW0.out (by simp)).mono ?_
  rintro e w1 ⟨rfl, g1, hW1, hw1⟩
  rw [Int.toNat_natCast, List.nil_append] at hW1
  obtain ⟨H1, hr1⟩ := HH0.out.wrote hw1 HRA.out (fun k e => by cases e)
  have c0 := H1.t0
  obtain ⟨r0, t0, hr, hr0, _⟩ := HO.out.root
  obtain ⟨ao, cap, htv, hc, hcm, hne⟩ := H1.prow.shape
  have hlen : 0 < S.ths.length := by rw [hr]; simp
  obtain ⟨g, rfl⟩ := hne (by rw [hr]; simp)
  rw [htv] at c0
  obtain ⟨c2, _⟩ := (htv ▸ H1.prow).at 0 hlen
  have hr1' : S.ths[0].id = 0 := by simp only [hr]; exact hr0
  rw [hr1'] at c2
  have hli : (0 : Int) < (S.ths.length : Int) := by omega
  have HH1 := hidden H1
  have HW1 := hidden hW1
  have HR1 := hidden hw1
  have HG1 := hidden hr1
  have hb8 := be_length 8 S.next
  clear H1 hW1 hw1 hr1 hr hr0 hr1' hne c1 htv
  go_wp2_with fail
  obtain ⟨x, hx, hx0⟩ := HO.out.rootMem
  have hcall := save_w HO.out hnx (base := w.heap.size) HRA.out F x hx r (by rw [hx0]; exact HS.out) w1 HH1.out g1 _ HW1.out HG1.out (by rw [hb8]; omega)
  rw [hx0] at hcall
  refine hcall.mono ?_
  rintro e w2 ⟨rfl, g2, hW2, hw2⟩
  have HW2 := hidden hW2
  have HR2 := hidden (HR1.out.trans hw2)
  clear hcall hW2 hw2 c0 c2
  go_wp2_with fail
  refine (done_c _ HW2.out (by rw [List.length_append, hb8]; omega)).mono ?_
  rintro e w3 ⟨v', rfl, hown, hb3⟩
  have hs2 : w.heap.size ≤ w2.heap.size := Nat.le_trans HB0.out.size HR2.out.keeps.size
  have hbelow : Below w.heap.size w w3 := HB0.out.trans ((HR2.out.keeps.below HB0.out.size fun k hk => hk.elim (fun h => by omega) (fun h => by cases h)).trans (hb3.mono hs2))
  have HP : Hid (SavePost w S (.returned v') w3) := ⟨v', _, rfl, ⟨F, r, HS.out, rfl⟩, by rw [List.length_append, hb8]; omega, ownsRow_mono hown hs2, hbelow⟩
  clear hown hb3 hbelow
  go_wp2_with fail
  go_ret
  exact HP.out
end
end Go.Proofs.Ytnigfnikajejaaa
