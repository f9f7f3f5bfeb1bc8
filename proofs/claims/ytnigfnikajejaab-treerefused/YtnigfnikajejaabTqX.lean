/- What Save gives, plainly. -/
import Derived.Test.YtnigfnikajejaabTrE
import Derived.Test.YtnigfnikajejaabAtD
import Derived.Test.YtnigfnikajejaabTmT
import Derived.Test.YtnigfnikajejaabWrE
import Derived.Test.YtnigfnikajejaabPaA
import Derived.Test.YtnigfnikajejaabAtB
import Derived.Deep.CutBlock
import Derived.Test.YtnigfnikajejaabRows
import Derived.ProofKit
import Derived.OpenShut
import Derived.ShutString
import Derived.ChangeOld
import Derived.Deep.Strs
import Derived.SizedLaws
import Derived.ChangeArms
import Derived.Deep.Slices
namespace Go.Proofs.Ytnigfnikajejaab
open Go Go.RowKit

/-- A thing's own bytes, ahead of what it holds. -/
def hdrB (x : Th) : List UInt8 := be 8 x.id ++ [bit x.dir] ++ putA x.a ++ x.d ++ be 4 x.h.length
def heldB (f : Nat → List UInt8) (h : HL) : List UInt8 := h.flatMap fun e => textBytes e.1.data.toList ++ f e.2
/-- A thing and all under it, as bytes, so deep and no deeper. -/
def saveO (l : List Th) : Nat → Nat → Option (List UInt8)
  | 0, _ => none
  | F + 1, i => match findT l i with
    | none => none
    | some x => if x.h.all (fun e => (saveO l F e.2).isSome) then some (hdrB x ++ heldB (fun j => (saveO l F j).getD []) x.h) else none
def savesTo (S : Tr) (b : List UInt8) : Prop := ∃ F r, saveO S.ths F 0 = some r ∧ b = be 8 S.next ++ r
theorem saveO_eq {l : List Th} {F i : Nat} {x : Th} (h : findT l i = some x) : saveO l (F + 1) i = if x.h.all (fun e => (saveO l F e.2).isSome) then some (hdrB x ++ heldB (fun j => (saveO l F j).getD []) x.h) else none := by
  rw [saveO, h]
theorem heldB_congr {f g : Nat → List UInt8} {h : HL} (he : ∀ e ∈ h, f e.2 = g e.2) : heldB f h = heldB g h := by
  unfold heldB
  induction h with
  | nil => rfl
  | cons e h ih => rw [List.flatMap_cons, List.flatMap_cons, he e List.mem_cons_self, ih fun x hx => he x (List.mem_cons_of_mem _ hx)]
theorem heldB_take (f : Nat → List UInt8) (h : HL) (k : Nat) (hk : k < h.length) : heldB f (h.take (k + 1)) = heldB f (h.take k) ++ (textBytes (h[k]).1.data.toList ++ f (h[k]).2) := by
  unfold heldB
  rw [List.take_succ_eq_append_getElem hk, List.flatMap_append]
  simp
theorem heldB_take_le (f : Nat → List UInt8) (h : HL) (k : Nat) : (heldB f (h.take k)).length ≤ (heldB f h).length := by
  conv => rhs; rw [← List.take_append_drop k h]
  unfold heldB
  rw [List.flatMap_append, List.length_append]
  omega
theorem saveO_mono (l : List Th) : ∀ F i b, saveO l F i = some b → saveO l (F + 1) i = some b
  | 0, _, _, h => by cases h
  | F + 1, i, b, h => by
    cases hf : findT l (i : Int) with
    | none => rw [saveO, hf] at h; cases h
    | some x =>
      rw [saveO_eq hf] at h ⊢
      split at h
      · next ha =>
        have ha2 := List.all_eq_true.1 ha
        have key : ∀ e ∈ x.h, saveO l (F + 1) e.2 = saveO l F e.2 := fun e he => by
          obtain ⟨c, hc⟩ := Option.isSome_iff_exists.1 (ha2 e he)
          rw [hc]
          exact saveO_mono l F e.2 c hc
        rw [if_pos (List.all_eq_true.2 fun e he => by rw [key e he]; exact ha2 e he), ← h]
        congr 2
        exact heldB_congr fun e he => by rw [key e he]
      · cases h
theorem saveO_le (l : List Th) {F G i : Nat} {b : List UInt8} (h : saveO l F i = some b) (hg : F ≤ G) : saveO l G i = some b := by
  induction hg with
  | refl => exact h
  | step _ ih => exact saveO_mono l _ _ _ ih
theorem savesTo_uniq {S : Tr} {b c : List UInt8} (h : savesTo S b) (k : savesTo S c) : b = c := by
  obtain ⟨F, r, h1, rfl⟩ := h
  obtain ⟨G, q, k1, rfl⟩ := k
  have h2 := saveO_le _ h1 (Nat.le_max_left F G)
  rw [saveO_le _ k1 (Nat.le_max_right F G)] at h2
  rw [Option.some.inj h2]
/-- The paths to all that is saved, from a thing on. -/
def pathsO (l : List Th) : Nat → Nat → List (List Nm)
  | 0, _ => []
  | F + 1, i => match findT l i with
    | none => []
    | some x => [] :: x.h.flatMap fun e => (pathsO l F e.2).map (e.1 :: ·)

section
variable {S : Tr} {pa : Nat → Nat} {nm : Nat → Nm}
theorem Ok.dsize (o : Ok S pa nm) {x : Th} (hx : x ∈ S.ths) : x.d.length ≤ 1048576 := by
  have := sizeT_at o.inc hx
  have := o.bytes
  omega
theorem Ok.nsize (o : Ok S pa nm) {x : Th} (hx : x ∈ S.ths) {e : Nm × Nat} (he : e ∈ x.h) : e.1.size ≤ 30 := by
  obtain ⟨h0, ⟨y, hy, hye⟩, _, h3⟩ := (o.held x hx e.1 e.2).1 he
  have := o.right y hy (by omega)
  rw [hye, h3] at this
  have := rightP_len this
  rw [size_len]
  exact this
/-- Every thing can be saved. -/
theorem Ok.saves (o : Ok S pa nm) : ∀ x ∈ S.ths, ∃ F b, saveO S.ths F x.id = some b := by
  obtain ⟨rk, hrk⟩ := o.rank
  obtain ⟨M, hM⟩ : ∃ M, ∀ x ∈ S.ths, rk x.id ≤ M := by
    generalize S.ths = l
    induction l with
    | nil => exact ⟨0, fun x hx => by cases hx⟩
    | cons y l ih =>
      obtain ⟨M, hM⟩ := ih
      exact ⟨max M (rk y.id), fun x hx => by
        rcases List.mem_cons.1 hx with rfl | hx
        · exact Nat.le_max_right _ _
        · exact Nat.le_trans (hM x hx) (Nat.le_max_left _ _)⟩
  have main : ∀ (n : Nat), ∀ x ∈ S.ths, M - rk x.id ≤ n → ∃ F b, saveO S.ths F x.id = some b := by
    intro n
    induction n with
    | zero =>
      intro x hx hn
      refine ⟨1, hdrB x, ?_⟩
      rw [saveO_eq (findT_nat o.inc hx rfl)]
      have : x.h = [] := by
        cases hh : x.h with
        | nil => rfl
        | cons e r =>
          obtain ⟨h0, ⟨y, hy, hye⟩, h2, _⟩ := (o.held x hx e.1 e.2).1 (by rw [hh]; exact List.mem_cons_self)
          have h1 := hrk y hy (by omega)
          rw [hye, h2, ← hye] at h1
          have := hM y hy
          omega
      rw [this]
      simp [heldB]
    | succ n ih =>
      intro x hx hn
      have each : ∀ e ∈ x.h, ∃ F b, saveO S.ths F e.2 = some b := fun e he => by
        obtain ⟨h0, ⟨y, hy, hye⟩, h2, _⟩ := (o.held x hx e.1 e.2).1 he
        have h1 := hrk y hy (by omega)
        rw [hye, h2, ← hye] at h1
        rw [← hye]
        exact ih y hy (by omega)
      obtain ⟨F, hF⟩ : ∃ F, ∀ e ∈ x.h, ∃ b, saveO S.ths F e.2 = some b := by
        generalize x.h = h at each
        induction h with
        | nil => exact ⟨0, fun e he => by cases he⟩
        | cons e r ih2 =>
          obtain ⟨F, hF⟩ := ih2 fun x hx => each x (List.mem_cons_of_mem _ hx)
          obtain ⟨G, b, hG⟩ := each e List.mem_cons_self
          refine ⟨max F G, fun x hx => ?_⟩
          rcases List.mem_cons.1 hx with rfl | hx
          · exact ⟨b, saveO_le _ hG (Nat.le_max_right _ _)⟩
          · obtain ⟨c, hc⟩ := hF x hx
            exact ⟨c, saveO_le _ hc (Nat.le_max_left _ _)⟩
      refine ⟨F + 1, hdrB x ++ heldB (fun j => (saveO S.ths F j).getD []) x.h, ?_⟩
      rw [saveO_eq (findT_nat o.inc hx rfl), if_pos (List.all_eq_true.2 fun e he => by obtain ⟨b, hb⟩ := hF e he; rw [hb]; rfl)]
  intro x hx
  exact main (M - rk x.id) x hx (Nat.le_refl _)
theorem Ok.savesRoot (o : Ok S pa nm) : ∃ F r, saveO S.ths F 0 = some r := by
  obtain ⟨x, hx, h0⟩ := o.rootMem
  obtain ⟨F, b, h⟩ := o.saves x hx
  rw [h0] at h
  exact ⟨F, b, h⟩
/-- Each thing is saved once. -/
theorem Ok.paths_walk (o : Ok S pa nm) : ∀ F, ∀ x ∈ S.ths, ∀ p ∈ pathsO S.ths F x.id, ∃ j, walkT S.ths x.id p = some j
  | 0, _, _, p, h => by cases h
  | F + 1, x, hx, p, h => by
    rw [pathsO, findT_nat o.inc hx rfl] at h
    rcases List.mem_cons.1 h with rfl | h
    · exact ⟨x.id, rfl⟩
    · obtain ⟨e, he, h2⟩ := List.mem_flatMap.1 h
      obtain ⟨q, hq, rfl⟩ := List.mem_map.1 h2
      obtain ⟨h0, ⟨y, hy, hye⟩, _, _⟩ := (o.held x hx e.1 e.2).1 he
      obtain ⟨j, hj⟩ := o.paths_walk F y hy q (by rw [hye]; exact hq)
      refine ⟨j, ?_⟩
      rw [walkT, findT_nat o.inc hx rfl]
      simp only [(getH_some (o.srt x hx) e.1 e.2).2 he]
      rw [← hye]; exact hj
theorem Ok.paths_nodup (o : Ok S pa nm) : ∀ F, ∀ x ∈ S.ths, (pathsO S.ths F x.id).Nodup
  | 0, _, _ => List.Pairwise.nil
  | F + 1, x, hx => by
    rw [pathsO, findT_nat o.inc hx rfl]
    refine List.nodup_cons.2 ⟨fun h => ?_, ?_⟩
    · obtain ⟨e, he, h2⟩ := List.mem_flatMap.1 h
      obtain ⟨q, hq, h3⟩ := List.mem_map.1 h2
      cases h3
    · refine List.pairwise_flatMap.2 ?_
      refine ⟨fun e he => ?_, ?_⟩
      · obtain ⟨h0, ⟨y, hy, hye⟩, _, _⟩ := (o.held x hx e.1 e.2).1 he
        have := o.paths_nodup F y hy
        rw [hye] at this
        exact List.pairwise_map.2 (this.imp fun h1 h2 => h1 (List.cons.inj h2).2)
      · refine (o.srt x hx).imp fun {e f} hef => ?_
        intro p h1 p2 h2 h4
        obtain ⟨q, _, rfl⟩ := List.mem_map.1 h1
        obtain ⟨r, _, rfl⟩ := List.mem_map.1 h2
        exact nlt_ne hef (List.cons.inj h4).1
theorem Ok.paths_len (o : Ok S pa nm) (F : Nat) : (pathsO S.ths F 0).length ≤ 200 := by
  obtain ⟨x, hx, h0⟩ := o.rootMem
  have hn := o.paths_nodup F x hx
  have hw := o.paths_walk F x hx
  rw [h0] at hn hw
  have hids : ((pathsO S.ths F 0).map fun p => (walkT S.ths 0 p).getD 0).Nodup := by
    refine List.pairwise_map.2 (List.Pairwise.imp_of_mem ?_ hn)
    intro p q hp hq hne he
    obtain ⟨j, hj⟩ := hw p hp
    obtain ⟨k, hk⟩ := hw q hq
    rw [hj, hk] at he
    have he : j = k := he
    exact hne (o.inj _ p q j (Nat.le_refl _) hj (by rw [he]; exact hk))
  have := nodup_le (m := S.ths.map (·.id)) hids fun j hj => by
    obtain ⟨p, hp, rfl⟩ := List.mem_map.1 hj
    obtain ⟨k, hk⟩ := hw p hp
    rw [hk]
    obtain ⟨y, hy, hye⟩ := o.walk_mem p 0 o.rootMem k hk
    exact List.mem_map.2 ⟨y, hy, hye⟩
  rw [List.length_map, List.length_map] at this
  have := o.cnt
  omega
theorem textBytes_length (xs : List UInt8) : (textBytes xs).length = 4 + xs.length := by unfold textBytes; rw [List.length_append, be_length]
theorem flatMap_le {α β γ : Type} {h : List α} {f : α → List β} {g : α → List γ} {C : Nat} (he : ∀ e ∈ h, (f e).length ≤ C * (g e).length) : (h.flatMap f).length ≤ C * (h.flatMap g).length := by
  induction h with
  | nil => simp
  | cons e h ih =>
    rw [List.flatMap_cons, List.flatMap_cons, List.length_append, List.length_append, Nat.mul_add]
    have := he e List.mem_cons_self
    have := ih fun x hx => he x (List.mem_cons_of_mem _ hx)
    omega
theorem Ok.save_len (o : Ok S pa nm) : ∀ F, ∀ x ∈ S.ths, ∀ b, saveO S.ths F x.id = some b → b.length + 1000 ≤ 1100000 * (pathsO S.ths F x.id).length
  | 0, _, _, _, h => by cases h
  | F + 1, x, hx, b, h => by
    have hf := findT_nat o.inc hx rfl
    rw [saveO_eq hf] at h
    rw [pathsO, hf]
    split at h
    · next ha =>
      have ha := List.all_eq_true.1 ha
      obtain rfl := Option.some.inj h
      have h1 : (hdrB x).length ≤ 1048676 := by
        unfold hdrB
        have := putA_le x.a
        have := o.dsize hx
        simp only [List.length_append, be_length, List.length_cons, List.length_nil]
        omega
      have h2 : (heldB (fun j => (saveO S.ths F j).getD []) x.h).length ≤ 1100000 * (x.h.flatMap fun e => (pathsO S.ths F e.2).map (e.1 :: ·)).length := by
        unfold heldB
        refine flatMap_le fun e he => ?_
        obtain ⟨c, hc⟩ := Option.isSome_iff_exists.1 (ha e he)
        obtain ⟨h0, ⟨y, hy, hye⟩, _, _⟩ := (o.held x hx e.1 e.2).1 he
        have h3 := o.save_len F y hy c (by rw [hye]; exact hc)
        have h4 := o.nsize hx he
        rw [hye] at h3
        rw [size_len] at h4
        show (textBytes e.1.data.toList ++ (saveO S.ths F e.2).getD []).length ≤ _
        rw [hc, List.length_append, textBytes_length, List.length_map]
        show _ + c.length ≤ _
        omega
      rw [List.length_append, List.length_cons, Nat.mul_add]
      omega
    · cases h
theorem Ok.root_len (o : Ok S pa nm) {F : Nat} {r : List UInt8} (h : saveO S.ths F 0 = some r) : r.length ≤ 220000000 := by
  obtain ⟨x, hx, h0⟩ := o.rootMem
  have h1 := o.save_len F x hx r (by rw [h0]; exact h)
  rw [h0] at h1
  have := o.paths_len F
  omega
end

section
variable {w : World} {R : Nat → Role} {a : Nat} {S : Tr} {B : Nat → Nat} {dv hv : Nat → Value} {tv : Value} {pa : Nat → Nat} {nm : Nat → Nm}
/-- A Writer apart from the tree goes on. -/
theorem TXb.wrote {w' : World} {aw : Nat} {g g' : Option Nat} (H : TXb w R a S B dv hv tv) (hW : Wrote aw g g' w w') (ha : R aw = .no) (hg : ∀ k, g = some k → R k = .no) : TXb w' R a S B dv hv tv ∧ ∀ k, g' = some k → R k = .no := by
  refine ⟨H.keep hW.keeps fun k hk h => ?_, fun k e => ?_⟩
  · rcases h with h | h
    · rw [h] at hk; exact hk ha
    · exact hk (hg k h)
  · rcases hW.row with h | ⟨j, h, hj⟩
    · rw [h] at e; exact hg k e
    · rw [h] at e
      cases e
      by_cases hr : R k = .no
      · exact hr
      · have := H.lim k hr; omega
theorem Wrote.then {aw : Nat} {g1 g2 g3 : Option Nat} {w1 w2 w3 : World} (h : Wrote aw g1 g2 w1 w2) (k : Wrote aw g2 g3 w2 w3) : Wrote aw g1 g3 w1 w3 := h.trans k

set_option maxHeartbeats 8000000 in
set_option maxRecDepth 100000 in
theorem save_w (o : Ok S pa nm) (hnx : S.next ≤ 9000000000000000000) {base aw : Nat} (hra : R aw = .no) (F : Nat) : ∀ (x : Th), x ∈ S.ths → ∀ (b : List UInt8), saveO S.ths F x.id = some b → ∀ (w : World), TXb w R a S B dv hv tv → ∀ (g : Option Nat) (bs : List UInt8), WS w base aw g bs → (∀ k, g = some k → R k = .no) → bs.length + b.length + 200 ≤ 140737488355328 →
    Calls Try.prog 34 #[.pointer (some ⟨B x.id, 0, none⟩), .pointer (some ⟨aw, 0, none⟩)] w fun e w' => e = .returned (.tuple #[]) ∧ ∃ g', WS w' base aw g' (bs ++ b) ∧ Wrote aw g g' w w' := by
  induction F with
  | zero => intro _ _ _ h; cases h
  | succ F ih =>
    intro x hx b h w H g bs hW hrg hl
    have hf := findT_nat o.inc hx rfl
    rw [saveO_eq hf] at h
    split at h
    case isFalse => cases h
    next ha =>
    have ha := List.all_eq_true.1 ha
    obtain rfl := Option.some.inj h
    obtain ⟨f, hfd⟩ : ∃ f : Nat → List UInt8, f = fun j => (saveO S.ths F j).getD [] := ⟨_, rfl⟩
    have HFC : Hid (∀ e ∈ x.h, saveO S.ths F e.2 = some (f e.2)) := fun e he => by
      obtain ⟨c, hc⟩ := Option.isSome_iff_exists.1 (ha e he)
      rw [hc, hfd]; simp only [hc, Option.getD_some]
    rw [← hfd] at hl ⊢
    have HCH : Hid (∀ e ∈ x.h, ∃ y ∈ S.ths, y.id = e.2) := fun e he => ((o.held x hx e.1 e.2).1 he).2.1
    have HNS := hidden (fun e (he : e ∈ x.h) => o.nsize hx he)
    have HIH := hidden ih
    have hat := (o.att x hx).1
    have hhl := o.hlen hx
    have hidl := o.lt x hx
    have hds := o.dsize hx
    have hHL : (hdrB x ++ heldB f x.h).length = 8 + 1 + (putA x.a).length + x.d.length + 4 + (heldB f x.h).length := by
      unfold hdrB
      simp only [List.length_append, be_length, List.length_cons, List.length_nil]
    rw [hHL] at hl
    have HAL := hidden (putA_le x.a)
    have HH := hidden H
    have HX := hidden hx
    have HWS := hidden hW
    have HRG := hidden hrg
    have hT := H.th x hx
    have c0 := hT.c0
    clear H hW hrg ih h hf ha hfd hHL
    go_enter Try.func34, Try.ntmps34
    have hcv : IntKind.u64.wrap (x.id : Int) = (x.id : Int) := by simp [IntKind.wrap, IntKind.bits, IntKind.signed]; omega
    go_wp2_with fail
    refine (u64_c (x.id : Int) (by omega) (by omega) _ HWS.out (by omega)).mono ?_
    rintro e w1 ⟨rfl, g1, hW1, hw1⟩
    rw [Int.toNat_natCast] at hW1
    obtain ⟨H1, hr1⟩ := HH.out.wrote hw1 hra HRG.out
    have HW1 := hidden hW1
    have HR1 := hidden hw1
    have HH1 := hidden H1
    have HG1 := hidden hr1
    have c1 := (H1.th x HX.out).c1
    have hl1 := be_length 8 x.id
    clear hW1 hw1 H1 hr1 c0
    go_wp2_with fail
    refine (bool_c x.dir _ HW1.out (by rw [List.length_append, hl1]; omega)).mono ?_
    rintro e w2 ⟨rfl, g2, hW2, hw2⟩
    obtain ⟨H2, hr2⟩ := HH1.out.wrote hw2 hra HG1.out
    have HW2 := hidden hW2
    have HR2 := hidden (HR1.out.trans hw2)
    have HH2 := hidden H2
    have HG2 := hidden hr2
    obtain ⟨c2, c3, c4, c5, c6, c7, c8⟩ := (H2.th x HX.out).ca
    clear hW2 hw2 H2 hr2 c1
    go_wp2_with fail
    refine (put_c x.a hat _ HW2.out (by rw [List.length_append, List.length_append, hl1]; simp; omega)).mono ?_
    rintro e w3 ⟨rfl, g3, hW3, hw3⟩
    obtain ⟨H3, hr3⟩ := HH2.out.wrote hw3 hra HG2.out
    have HW3 := hidden hW3
    have HR3 := hidden (HR2.out.trans hw3)
    have HH3 := hidden H3
    have HG3 := hidden hr3
    have c9 := (H3.th x HX.out).c9
    obtain ⟨dao, dcap, hdv⟩ := (H3.dat x HX.out).len
    have hbd := (H3.dat x HX.out).bsl
    rw [hdv] at c9 hbd
    have HBD := hidden hbd
    have HL3 := hidden (show (bs ++ be 8 x.id ++ [bit x.dir] ++ putA x.a).length + x.d.length + 100 ≤ 140737488355328 by rw [List.length_append, List.length_append, List.length_append, hl1]; simp only [List.length_cons, List.length_nil]; omega)
    clear hbd
    clear hW3 hw3 H3 hr3 c2 c3 c4 c5 c6 c7 c8
    go_wp2_with fail
    refine (raw_c _ x.d _ HBD.out HW3.out (by have := HL3.out; omega)).mono ?_
    rintro e w4 ⟨rfl, g4, hW4, hw4⟩
    obtain ⟨H4, hr4⟩ := HH3.out.wrote hw4 hra HG3.out
    have HW4 := hidden hW4
    have HR4 := hidden (HR3.out.trans hw4)
    have HH4 := hidden H4
    have HG4 := hidden hr4
    have c10 := (H4.th x HX.out).c10
    obtain ⟨hao, hcap, hhv, hhc, hhm, hhn⟩ := (H4.hel x HX.out).shape
    rw [hhv] at c10
    unfold maxLen at hhm
    have hcl : IntKind.u32.wrap (x.h.length : Int) = (x.h.length : Int) := by simp [IntKind.wrap, IntKind.bits, IntKind.signed]; omega
    clear hW4 hw4 H4 hr4 c9
    go_wp2_with fail
    refine (u32_c (x.h.length : Int) (by omega) (by omega) _ HW4.out (by rw [List.length_append, List.length_append, List.length_append, List.length_append, hl1]; simp; omega)).mono ?_
    rintro e w5 ⟨rfl, g5, hW5, hw5⟩
    rw [Int.toNat_natCast] at hW5
    have hW5b : WS w5 base aw g5 (bs ++ hdrB x) := by
      have e : bs ++ hdrB x = bs ++ be 8 x.id ++ [bit x.dir] ++ putA x.a ++ x.d ++ be 4 x.h.length := by unfold hdrB; simp [List.append_assoc]
      rw [e]; exact hW5
    have hhdl : (hdrB x).length = 8 + 1 + (putA x.a).length + x.d.length + 4 := by
      unfold hdrB
      simp only [List.length_append, be_length, List.length_cons, List.length_nil]
    obtain ⟨H5, hr5⟩ := HH4.out.wrote hw5 hra HG4.out
    have HW5 := hidden hW5b
    have HR5 := hidden (HR4.out.trans hw5)
    have HH5 := hidden H5
    have HG5 := hidden hr5
    have c50 := (H5.th x HX.out).c10
    rw [hhv] at c50
    clear hW5 hW5b hw5 H5 hr5 c10
    go_wp2_with fail
    go_loopw [44] (fun c wr => ∃ (k : Nat) (gk : Option Nat), c = .int .i64 k ∧ k ≤ x.h.length ∧ WS wr base aw gk (bs ++ hdrB x ++ heldB f (x.h.take k)) ∧ Wrote aw g gk w wr ∧ TXb wr R a S B dv hv tv ∧ ∀ k, gk = some k → R k = .no) (fun c _ => x.h.length - (intOf c).toNat)
    case atStart => exact ⟨0, g5, rfl, Nat.zero_le _, by simpa [heldB] using HW5.out, HR5.out, HH5.out, HG5.out⟩
    case round =>
      obtain ⟨k, gk, rfl, hk, hwk, hwr, hxk, hgk⟩ := hrel
      have HWk := hidden hwk
      have HRk := hidden hwr
      have HHk := hidden hxk
      have HGk := hidden hgk
      clear hwk hwr hxk hgk
      by_cases hlt : k < x.h.length
      · have hi1 : (k : Int) < (x.h.length : Int) := by omega
        obtain ⟨eg, rfl⟩ := hhn (by intro e; rw [e] at hlt; simp at hlt)
        have hE := HHk.out.hel x HX.out
        rw [hhv] at hE
        obtain ⟨e0, e1⟩ := hE.at k hlt
        have HTK := hidden (heldB_take f x.h k hlt)
        have hle := heldB_take_le f x.h (k + 1)
        have hmem : x.h[k] ∈ x.h := List.getElem_mem hlt
        have HF := hidden (HFC.out _ hmem)
        obtain ⟨y, hy, hye⟩ := HCH.out _ hmem
        have hns := HNS.out _ hmem
        clear hE hmem
        generalize x.h[k] = en at e0 e1 HTK HF hye hns
        rw [HTK.out, List.length_append, List.length_append, textBytes_length] at hle
        have HYE := hidden hye
        clear hye
        have hsl := size_len en.1
        go_wp2_with fail
        have hlA : (bs ++ hdrB x ++ heldB f (x.h.take k)).length = bs.length + (hdrB x).length + (heldB f (x.h.take k)).length := by simp only [List.length_append]
        refine (text_c en.1 (by omega) _ (HWk.out.alloc _) (by rw [hlA, hhdl]; omega)).mono ?_
        rintro e w6 ⟨rfl, g6, hW6, hw6⟩
        have hw6b := wrote_alloc hw6
        obtain ⟨H6, hr6⟩ := HHk.out.wrote hw6b hra HGk.out
        have HW6 := hidden hW6
        have HR6 := hidden (HRk.out.trans hw6b)
        have HH6 := hidden H6
        have HG6 := hidden hr6
        have cE : w6.cell? ⟨wr.heap.size, 1, none⟩ = some (.pointer (some ⟨B en.2, 0, none⟩)) := by
          refine hw6.keeps.cell (p := ⟨wr.heap.size, 1, none⟩) ?_ ?_
          · have := heap_alloc_new wr (.cells #[.string en.1, .pointer (some ⟨B en.2, 0, none⟩)] 90)
            unfold World.cell?
            simp only [this]
            rfl
          · rintro (h | h)
            · have := HWk.out.lt
              simp only at h
              omega
            · have := (HWk.out.rowLt _ h).2
              simp only at this
              omega
        clear hW6 hw6 hw6b H6 hr6
        go_wp2_with fail
        have hl6 : (bs ++ hdrB x ++ heldB f (x.h.take k) ++ textBytes en.1.data.toList).length + (f en.2).length + 200 ≤ 140737488355328 := by
          rw [List.length_append, hlA, textBytes_length, hhdl]
          omega
        have hcall := HIH.out y hy (f en.2) (by rw [HYE.out]; exact HF.out) w6 HH6.out g6 _ HW6.out HG6.out hl6
        rw [HYE.out] at hcall
        refine hcall.mono ?_
        rintro e w7 ⟨rfl, g7, hW7, hw7⟩
        obtain ⟨H7, hr7⟩ := HH6.out.wrote hw7 hra HG6.out
        have HW7 := hidden hW7
        have HR7 := hidden (HR6.out.trans hw7)
        have HH7 := hidden H7
        have HG7 := hidden hr7
        clear hW7 hw7 H7 hr7
        have c70 := (HH7.out.th x HX.out).c10
        rw [hhv] at c70
        go_wp2_with fail
        go_roundw
        case rel =>
          refine ⟨k + 1, g7, by go_num, hlt, ?_, HR7.out, HH7.out, HG7.out⟩
          rw [HTK.out, ← List.append_assoc, ← List.append_assoc]
          exact HW7.out
        case measure => simp [intOf]; omega
      · obtain rfl : k = x.h.length := by omega
        have hi1 : ¬ ((x.h.length : Nat) : Int) < (x.h.length : Int) := by omega
        go_wp2_with fail
        go_end0
        refine ⟨rfl, gk, ?_, HRk.out⟩
        have := HWk.out
        rw [List.take_length] at this
        rw [← List.append_assoc]
        exact this
end

section
variable {w : World} {R : Nat → Role} {a : Nat} {S : Tr} {B : Nat → Nat} {dv hv : Nat → Value} {tv : Value} {pa : Nat → Nat} {nm : Nat → Nm}
/-- What a call of Save gives: the tree's bytes, in memory of their own. -/
def SavePost (w : World) (S : Tr) (e : Ending) (w' : World) : Prop :=
  ∃ v b, e = .returned v ∧ savesTo S b ∧ b.length ≤ 220000008 ∧ w'.ownsRow w.heap.size 5 1 v b.length (bcells b) ∧ Below w.heap.size w w'
set_option maxHeartbeats 4000000 in
set_option maxRecDepth 100000 in
theorem save_c (H : TXb w R a S B dv hv tv) (o : Ok S pa nm) (hnx : S.next ≤ 9000000000000000000) :
    Calls Try.prog 13 #[.pointer (some ⟨a, 0, none⟩)] w (SavePost w S) := by
  have HO := hidden o
  obtain ⟨F, r, hsr⟩ := o.savesRoot
  have hrl := o.root_len hsr
  have HS := hidden hsr
  have hal := lt_of_block H.top
  have hra : R w.heap.size = .no := by
    by_cases e : R w.heap.size = .no
    · exact e
    · have := H.lim _ e; omega
  have HRA := hidden hra
  have hH := H.still ((Keeps.refl (fun _ => False) w).alloc (.cells #[.slice none 0 0] 99))
  have hW := WS.new w (base := w.heap.size) (Nat.le_refl _)
  have c1 := hH.t1
  have hcv : IntKind.u64.wrap (S.next : Int) = (S.next : Int) := by simp [IntKind.wrap, IntKind.bits, IntKind.signed]; omega
  have HH := hidden hH
  have HW := hidden hW
  clear H o hH hsr hra hW
  go_enter Try.func13, Try.ntmps13
  go_wp2_with fail
  refine (newWriter_c _).mono ?_
  rintro e w0 ⟨rfl, hw0⟩
  rw [← hw0] at c1
  have HH0 := hidden (show TXb w0 R a S B dv hv tv by rw [hw0]; exact HH.out)
  have HW0 := hidden (show WS w0 w.heap.size w.heap.size none [] by rw [hw0]; exact HW.out)
  have HB0 := hidden (show Below w.heap.size w w0 by rw [hw0]; exact (Below.refl _ w).alloc (Nat.le_refl _) _)
  clear hw0
  go_wp2_with fail
  refine (u64_c (S.next : Int) (by omega) (by omega) _ HW0.out (by simp)).mono ?_
  rintro e w1 ⟨rfl, g1, hW1, hw1⟩
  rw [Int.toNat_natCast, List.nil_append] at hW1
  obtain ⟨H1, hr1⟩ := HH0.out.wrote hw1 HRA.out (fun k e => by cases e)
  have c0 := H1.t0
  obtain ⟨r0, t0, hr, hr0, _⟩ := HO.out.root
  obtain ⟨ao, cap, htv, hc, hcm, hne⟩ := H1.prow.shape
  have hlen : 0 < S.ths.length := by rw [hr]; simp
  obtain ⟨g, rfl⟩ := hne (by rw [hr]; simp)
  rw [htv] at c0
  obtain ⟨c2, _⟩ := (htv ▸ H1.prow).at 0 hlen
  have hr1' : S.ths[0].id = 0 := by simp only [hr]; exact hr0
  rw [hr1'] at c2
  have hli : (0 : Int) < (S.ths.length : Int) := by omega
  have HH1 := hidden H1
  have HW1 := hidden hW1
  have HR1 := hidden hw1
  have HG1 := hidden hr1
  have hb8 := be_length 8 S.next
  clear H1 hW1 hw1 hr1 hr hr0 hr1' hne c1 htv
  go_wp2_with fail
  obtain ⟨x, hx, hx0⟩ := HO.out.rootMem
  have hcall := save_w HO.out hnx (base := w.heap.size) HRA.out F x hx r (by rw [hx0]; exact HS.out) w1 HH1.out g1 _ HW1.out HG1.out (by rw [hb8]; omega)
  rw [hx0] at hcall
  refine hcall.mono ?_
  rintro e w2 ⟨rfl, g2, hW2, hw2⟩
  have HW2 := hidden hW2
  have HR2 := hidden (HR1.out.trans hw2)
  clear hcall hW2 hw2 c0 c2
  go_wp2_with fail
  refine (done_c _ HW2.out (by rw [List.length_append, hb8]; omega)).mono ?_
  rintro e w3 ⟨v', rfl, hown, hb3⟩
  have hs2 : w.heap.size ≤ w2.heap.size := Nat.le_trans HB0.out.size HR2.out.keeps.size
  have hbelow : Below w.heap.size w w3 := HB0.out.trans ((HR2.out.keeps.below HB0.out.size fun k hk => hk.elim (fun h => by omega) (fun h => by cases h)).trans (hb3.mono hs2))
  have HP : Hid (SavePost w S (.returned v') w3) := ⟨v', _, rfl, ⟨F, r, HS.out, rfl⟩, by rw [List.length_append, hb8]; omega, ownsRow_mono hown hs2, hbelow⟩
  clear hown hb3 hbelow
  go_wp2_with fail
  go_ret
  exact HP.out
end

/-- What is told of a directory: each name, and the attributes of the thing there. -/
def attrsOf (S : Tr) (j : Nat) : At := match findT S.ths j with
  | none => zeroA
  | some y => y.a
def listT (S : Tr) (i : Int) : List (Nm × At) × Nat := match findT S.ths i with
  | none => ([], 22)
  | some x => if x.dir then (x.h.map fun e => (e.1, attrsOf S e.2), 0) else ([], 23)
/-- The cells of such names. -/
def nameC (e : Nm × At) : List Value := [.string e.1, .int .u32 e.2.f, .int .u64 e.2.s, .int .u32 e.2.u, .int .u32 e.2.g, .int .u32 e.2.m, .int .u32 e.2.a, .int .u32 e.2.t]
def nameCs (l : List (Nm × At)) : List Value := l.flatMap nameC
theorem nameCs_length (l : List (Nm × At)) : (nameCs l).length = l.length * 8 := by
  unfold nameCs
  induction l with
  | nil => rfl
  | cons e l ih => rw [List.flatMap_cons, List.length_append, ih, List.length_cons]; show 8 + _ = _; omega
theorem nameCs_snoc (l : List (Nm × At)) (e : Nm × At) : nameCs (l ++ [e]) = nameCs l ++ nameC e := by simp [nameCs, List.flatMap_append]
theorem Try.infoName : (Try.prog.info? 75).map (fun i => (i.zero, i.size, i.bytes)) = some (some (.agg #[.string ⟨#[]⟩, .int .u32 0, .int .u64 0, .int .u32 0, .int .u32 0, .int .u32 0, .int .u32 0, .int .u32 0]), 8, 56) := by kernel_rfl
theorem nameC_one (e : Nm × At) : ∀ u ∈ nameC e, u.oneCell' = true := by
  intro u hu
  unfold nameC at hu
  simp only [List.mem_cons, List.not_mem_nil, or_false] at hu
  rcases hu with rfl | rfl | rfl | rfl | rfl | rfl | rfl | rfl <;> rfl

section
variable {w : World} {R : Nat → Role} {a : Nat} {S : Tr} {B : Nat → Nat} {dv hv : Nat → Value} {tv : Value} {pa : Nat → Nat} {nm : Nat → Nm}
/-- What a call of List gives. -/
def ListPost (w : World) (r : List (Nm × At) × Nat) (e : Ending) (w' : World) : Prop :=
  ∃ v, e = .returned (.tuple #[v, .int .i64 r.2]) ∧ w'.ownsRow w.heap.size 75 8 v r.1.length (nameCs r.1) ∧ Below w.heap.size w w'
set_option maxHeartbeats 4000000 in
set_option maxRecDepth 100000 in
theorem list_c (H : TXb w R a S B dv hv tv) (o : Ok S pa nm) (i : Int) :
    Calls Try.prog 19 #[.pointer (some ⟨a, 0, none⟩), .int .i64 i] w (ListPost w (listT S i)) := by
  have HH := hidden H
  have HI := hidden o.inc
  have HO := hidden o
  have HR : Hid (listT S i = match findT S.ths i with | none => ([], 22) | some x => if x.dir then (x.h.map fun e => (e.1, attrsOf S e.2), 0) else ([], 23)) := rfl
  generalize listT S i = rr at HR ⊢
  clear H o
  go_enter Try.func19, Try.ntmps19
  go_wp2_with fail
  refine (find_c HH.out HO.out i).mono ?_
  rintro e w1 ⟨rfl, hb⟩
  have HB := hidden hb
  have H1 := hidden (HH.out.fresh hb)
  clear hb
  cases hf : findT S.ths i with
  | none =>
    rw [hf] at HR
    rw [show ptrT B none = .pointer none from rfl]
    clear hf
    go_wp2_with fail
    have hx := HR.out
    subst hx
    go_ret2
    exact ⟨_, rfl, World.ownsRow_nil _ _ _ _, HB.out⟩
  | some x =>
    rw [hf] at HR
    obtain ⟨hx, _⟩ := (findT_some HI.out _ _).1 hf
    have c1 := (H1.out.th x hx).c1
    have HX := hidden hx
    have HCH : Hid (∀ e ∈ x.h, ∃ y ∈ S.ths, y.id = e.2) := fun e he => ((HO.out.held x hx e.1 e.2).1 he).2.1
    have HNS := hidden (fun e (he : e ∈ x.h) => HO.out.nsize hx he)
    have c10 := (H1.out.th x hx).c10
    obtain ⟨hao, hcap, hhv, hhc, hhm, hhn⟩ := (H1.out.hel x hx).shape
    have hhl := HO.out.hlen hx
    rw [hhv] at c10
    unfold maxLen at hhm
    rw [show ptrT B (some x) = .pointer (some ⟨B x.id, 0, none⟩) from rfl]
    clear hf hx
    cases hd : x.dir with
    | false =>
      rw [hd] at c1
      go_wp2_with fail
      have hx := HR.out
      simp only [hd] at hx
      subst hx
      go_ret2
      exact ⟨_, rfl, World.ownsRow_nil _ _ _ _, HB.out⟩
    | true =>
      rw [hd] at c1
      go_wp2_with fail
      obtain ⟨L, hL⟩ : ∃ L : List (Nm × At), L = x.h.map fun e => (e.1, attrsOf S e.2) := ⟨_, rfl⟩
      have HL := hidden hL
      have HLL : Hid (L.length = x.h.length) := by show _ = _; rw [hL, List.length_map]
      clear hL
      go_loopw [7, 25] (fun l c wr => ∃ k : Nat, c = .int .i64 k ∧ k ≤ x.h.length ∧ wr.ownsRow w.heap.size 75 8 l k (nameCs (L.take k)) ∧ Below w.heap.size w wr) (fun _ c _ => x.h.length - (intOf c).toNat)
      case atStart => exact ⟨0, rfl, Nat.zero_le _, World.ownsRow_nil _ _ _ _, HB.out⟩
      case round =>
        obtain ⟨k, rfl, hk, hown, hb⟩ := hrel
        have HOW := hidden hown
        have HBW := hidden hb
        have hHr := HH.out.fresh hb
        obtain ⟨lo, lc, rfl⟩ := ownsRow_shape hown
        clear hown hb
        by_cases hlt : k < x.h.length
        · have hi1 : (k : Int) < (x.h.length : Int) := by omega
          obtain ⟨eg, rfl⟩ := hhn (by intro e; rw [e] at hlt; simp at hlt)
          have hE := hHr.hel x HX.out
          rw [hhv] at hE
          obtain ⟨e0, e1⟩ := hE.at k hlt
          have hmem : x.h[k] ∈ x.h := List.getElem_mem hlt
          obtain ⟨y, hy, hye⟩ := HCH.out _ hmem
          have hns := HNS.out _ hmem
          have HTK : Hid (L.take (k + 1) = L.take k ++ [((x.h[k]).1, y.a)]) := by
            show _ = _
            rw [List.take_succ_eq_append_getElem (by rw [HLL.out]; exact hlt)]
            congr 1
            simp only [HL.out, List.getElem_map, List.cons.injEq, and_true]
            rw [attrsOf, ← hye, findT_nat HI.out hy rfl]
          have HYE := hidden hye
          have HY := hidden hy
          have HHr := hidden hHr
          clear hE hmem hye hy hHr
          generalize x.h[k] = en at e0 e1 HTK HYE hns
          go_wp2_with fail
          obtain ⟨w2, hw2⟩ : ∃ W, W = wr.alloc (.cells #[.string en.1, .pointer (some ⟨B en.2, 0, none⟩)] 90) := ⟨_, rfl⟩
          rw [← hw2]
          have hHw2 : TXb w2 R a S B dv hv tv := by rw [hw2]; exact HHr.out.still ((Keeps.refl (fun _ => False) wr).alloc _)
          have hsz2 : w2.heap.size = wr.heap.size + 1 := by rw [hw2]; simp
          have hblk : w2.heap[wr.heap.size]? = some (.cells #[.string en.1, .pointer (some ⟨B en.2, 0, none⟩)] 90 (0, 0)) := by rw [hw2]; exact heap_alloc_new wr _
          have how2 : w2.ownsRow w.heap.size 75 8 (.slice lo k lc) k (nameCs (L.take k)) := by rw [hw2]; exact HOW.out.alloc _
          have hbw2 : Below w.heap.size w w2 := by rw [hw2]; exact HBW.out.alloc HBW.out.size _
          have HCells : Hid (∀ W, Below w2.heap.size w2 W → (W.cell? ⟨wr.heap.size, 0, none⟩ = some (.string en.1) ∧ W.cell? ⟨wr.heap.size, 1, none⟩ = some (.pointer (some ⟨B en.2, 0, none⟩))) ∧ W.cell? ⟨B en.2, 2, none⟩ = some (.int .u32 y.a.f) ∧ W.cell? ⟨B en.2, 3, none⟩ = some (.int .u64 y.a.s) ∧ W.cell? ⟨B en.2, 4, none⟩ = some (.int .u32 y.a.u) ∧ W.cell? ⟨B en.2, 5, none⟩ = some (.int .u32 y.a.g) ∧ W.cell? ⟨B en.2, 6, none⟩ = some (.int .u32 y.a.m) ∧ W.cell? ⟨B en.2, 7, none⟩ = some (.int .u32 y.a.a) ∧ W.cell? ⟨B en.2, 8, none⟩ = some (.int .u32 y.a.t)) := fun W hW => by
            have h1 := ((hHw2.fresh hW).th y HY.out).ca
            rw [HYE.out] at h1
            refine ⟨?_, h1⟩
            have h2 : W.heap[wr.heap.size]? = _ := (hW.block wr.heap.size (by omega)).trans hblk
            constructor <;> (unfold World.cell?; simp only [h2]; rfl)
          have HAP : Hid (∀ W, Below w2.heap.size w2 W → ∃ v' w', (Builtin.append_ #[50, 50] 50 #[.slice lo k lc, .slice (some ⟨W.heap.size, 0, none⟩) 1 1]).run Try.prog (W.alloc (.cells (nameC (en.1, y.a)).toArray 75)) = .ok v' w' ∧ w'.ownsRow w.heap.size 75 8 v' (k + 1) (nameCs (L.take (k + 1))) ∧ Below w.heap.size w w') := fun W hW => by
            obtain ⟨i0, hi, hz0, hz1, hz2⟩ := info_parts Try.infoName
            have hsW := hW.size
            have ho := ((Keeps.ofFresh hW).row how2 (fun _ _ h => h)).alloc (.cells (nameC (en.1, y.a)).toArray 75)
            obtain ⟨v', w', hr, hown, hg, _⟩ := run_append_own (P := Try.prog) (W.alloc (.cells (nameC (en.1, y.a)).toArray 75)) w.heap.size 50 50 75 i0 _ 8 56 Try.underlying50 hi hz0 hz1 hz2 rfl (by omega) _ _ _ ho ⟨W.heap.size, 0, none⟩ 1 1 (nameC (en.1, y.a)) rfl (World.news_of_block (t := 75) (fr := (0, 0)) (heap_alloc_new W _)) (nameC_one _) (by unfold maxLen; omega) (by omega) (by have := hbw2.size; simp; omega)
            refine ⟨v', w', hr, ?_, ?_⟩
            · rw [HTK.out, nameCs_snoc]
              exact hown
            · refine hbw2.trans ((hW.mono hbw2.size).trans ?_)
              exact ((Below.refl w.heap.size W).alloc (by have := hbw2.size; omega) _).trans (Keeps.below (Keeps.ofGrown hg fun k e => e) (by have := hbw2.size; simp; omega) fun k' e => (ho.lt k' e).1)
          clear how2 hbw2 hHw2 hblk hw2 e0 e1
          obtain ⟨⟨k0, k1⟩, k2, k3, k4, k5, k6, k7, k8⟩ := HCells.out w2 (Below.refl _ _)
          go_region_law (first
            | (go_simp; go_at_call 45; refine (sclone_c en.1 _ (by omega)).mono ?_; rintro e w3 ⟨rfl, hb3⟩; have HB3 := hidden (((Below.refl w2.heap.size w2).drew).trans hb3); obtain ⟨⟨m0, m1⟩, m2, m3, m4, m5, m6, m7, m8⟩ := HCells.out w3 HB3.out; clear hb3)
            | (obtain ⟨v4, w4, hrun, ho4, hb4⟩ := HAP.out w3 HB3.out; refine step_append_run _ rfl (.tmp 29) (.tmp 39) 50 50 rfl _ _ (by simp [Act.eval]) (by simp [Act.eval]) hrun ?_))
          all_goals
            have HO4 := hidden ho4
            have HB4 := hidden hb4
            clear ho4 hb4 k0 k1 k2 k3 k4 k5 k6 k7 k8 m0 m1 m2 m3 m4 m5 m6 m7 m8
            go_wp2_with fail
            go_roundw
            case rel => exact ⟨k + 1, by go_num, hlt, HO4.out, HB4.out⟩
            case measure => simp [intOf]; omega
        · obtain rfl : k = x.h.length := by omega
          have hi1 : ¬ ((x.h.length : Nat) : Int) < (x.h.length : Int) := by omega
          go_wp2_with fail
          go_ret2
          have hx := HR.out
          simp only [hd, if_true] at hx
          rw [← HL.out] at hx
          subst hx
          refine ⟨.slice lo x.h.length lc, rfl, ?_, HBW.out⟩
          have h1 := HOW.out
          have h2 : L.take x.h.length = L := by rw [← HLL.out, List.take_length]
          rw [h2] at h1
          show wr.ownsRow _ _ _ _ L.length (nameCs L)
          rw [HLL.out]
          exact h1
end

theorem findT_mapd (l : List Th) (g : Th → Th) (hg : ∀ z, (g z).id = z.id) (i : Int) : findT (l.map g) i = (findT l i).map g := by
  unfold findT
  rw [List.find?_map]
  simp only [Function.comp_def, hg]
/-- What becomes of a thing when something moves. -/
def movedT (i1 i2 : Nat) (n1 n2 : Nm) (j : Nat) (z : Th) : Th := if z.id = i2 then putH n2 j (if z.id = i1 then cutH n1 z else z) else (if z.id = i1 then cutH n1 z else z)
theorem movedT_eq (l : List Th) (i1 i2 : Nat) (n1 n2 : Nm) (j : Nat) : setT (setT l i1 (cutH n1)) i2 (putH n2 j) = l.map (movedT i1 i2 n1 n2 j) := by
  unfold setT
  rw [List.map_map]
  apply List.map_congr_left
  intro z _
  simp only [Function.comp, movedT]
  by_cases e1 : z.id = i1
  · rw [if_pos e1]; rfl
  · rw [if_neg e1]
theorem movedT_id (i1 i2 : Nat) (n1 n2 : Nm) (j : Nat) (z : Th) : (movedT i1 i2 n1 n2 j z).id = z.id := by unfold movedT; split <;> split <;> rfl
theorem movedT_dir (i1 i2 : Nat) (n1 n2 : Nm) (j : Nat) (z : Th) : (movedT i1 i2 n1 n2 j z).dir = z.dir := by unfold movedT; split <;> split <;> rfl
theorem movedT_a (i1 i2 : Nat) (n1 n2 : Nm) (j : Nat) (z : Th) : (movedT i1 i2 n1 n2 j z).a = z.a := by unfold movedT; split <;> split <;> rfl
theorem movedT_d (i1 i2 : Nat) (n1 n2 : Nm) (j : Nat) (z : Th) : (movedT i1 i2 n1 n2 j z).d = z.d := by unfold movedT; split <;> split <;> rfl

section
variable {S : Tr} {pa : Nat → Nat} {nm : Nat → Nm}
/-- What lies where tells what is held. -/
theorem Ok.ext {m : Nat} {g : Th → Th} {pa' : Nat → Nat} {nm' : Nat → Nm} (o : Ok S pa nm) (k : Ok ⟨S.ths.map g, m⟩ pa' nm') (h1 : ∀ z, (g z).id = z.id) (h2 : ∀ z, (g z).dir = z.dir) (h3 : ∀ z, (g z).a = z.a) (h4 : ∀ z, (g z).d = z.d)
    (hp : ∀ i, pa' i = pa i) (hn : ∀ i, nm' i = nm i) : S.ths.map g = S.ths := by
  conv => rhs; rw [← List.map_id S.ths]
  apply List.map_congr_left
  intro z hz
  have hgz : g z ∈ S.ths.map g := List.mem_map_of_mem hz
  have hh : (g z).h = z.h := by
    refine srt_ext (k.srt _ hgz) (o.srt z hz) ?_
    rintro ⟨n, j⟩
    rw [k.held _ hgz, o.held z hz, hp, hn, h1]
    have : (∃ y ∈ S.ths.map g, y.id = j) ↔ ∃ y ∈ S.ths, y.id = j := by
      constructor
      · rintro ⟨y, hy, e⟩
        obtain ⟨u, hu, rfl⟩ := List.mem_map.1 hy
        exact ⟨u, hu, by rw [← h1 u]; exact e⟩
      · rintro ⟨y, hy, e⟩
        exact ⟨g y, List.mem_map_of_mem hy, by rw [h1]; exact e⟩
    rw [show (∃ y ∈ (⟨S.ths.map g, m⟩ : Tr).ths, y.id = j) ↔ ∃ y ∈ S.ths, y.id = j from this]
  have a1 := h1 z
  have a2 := h2 z
  have a3 := h3 z
  have a4 := h4 z
  generalize g z = y at *
  obtain ⟨y1, y2, y3, y4, y5⟩ := y
  obtain ⟨z1, z2, z3, z4, z5⟩ := z
  simp only at a1 a2 a3 a4 hh
  subst a1 a2 a3 a4 hh
  rfl
/-- What does not lie under what moves stays at its path. -/
theorem Ok.stays {S' : Tr} {pa' : Nat → Nat} {nm' : Nat → Nm} {j : Nat} (o : Ok S pa nm) (k : Ok S' pa' nm') (hid : ∀ i, (∃ y ∈ S'.ths, y.id = i) ↔ ∃ y ∈ S.ths, y.id = i) (hp : ∀ i, i ≠ j → pa' i = pa i) (hn : ∀ i, i ≠ j → nm' i = nm i) :
    ∀ (m : Nat) (r : List Nm) (i : Nat), r.length ≤ m → walkT S.ths 0 r = some i → ¬ Under S.ths j i → walkT S'.ths 0 r = some i := by
  intro m
  induction m with
  | zero =>
    intro r i hr h _
    obtain rfl : r = [] := List.eq_nil_of_length_eq_zero (by omega)
    exact h
  | succ m ih =>
    intro r i hr h hu
    rcases List.eq_nil_or_concat r with rfl | ⟨r', n, rfl⟩
    · exact h
    · rw [List.concat_eq_append] at h hr ⊢
      obtain ⟨x, hx, a1, a2, a3, a4, a5, a6⟩ := o.step o.rootMem h
      have hij : i ≠ j := by rintro rfl; exact hu ⟨[], rfl⟩
      have hux : ¬ Under S.ths j x.id := by
        rintro ⟨q, hq⟩
        refine hu ⟨q ++ [n], ?_⟩
        rw [walk_snoc, hq]
        simp only [findT_nat o.inc hx rfl]
        exact a2
      have h1 := ih r' x.id (by simp at hr; omega) a1 hux
      obtain ⟨y, hy, hye⟩ := (hid x.id).2 ⟨x, hx, rfl⟩
      rw [walk_snoc, h1]
      simp only [findT_nat k.inc hy hye]
      rw [getH_some (k.srt y hy), k.held y hy]
      exact ⟨a3, (hid i).2 a4, by rw [hp i hij, hye, a5], by rw [hn i hij, a6]⟩
theorem renameT_no {p q : List Nm} (h : (renameT S p q).1 ≠ 0) : (renameT S p q).2 = S := by
  unfold renameT at h ⊢
  split
  · rfl
  · next hc =>
    rw [if_neg hc] at h
    split
    · rfl
    · next j hj =>
      simp only [hj] at h
      split
      · rfl
      · next h1 =>
        rw [if_neg h1] at h
        split
        · rfl
        · next h2 => rw [if_neg h2] at h; exact absurd rfl h
/-- A thing that is moved is the same at the other place, and is gone from the first; moved back, all is as it was. -/
theorem Ok.moves (o : Ok S pa nm) {p q : List Nm} (h : (renameT S p q).1 = 0) : ∃ j S', renameT S p q = (0, S') ∧ walkT S.ths 0 p = some j ∧ walkT S.ths 0 q = none ∧ walkT S'.ths 0 q = some j ∧ walkT S'.ths 0 p = none ∧
    (∀ i, attrsT S' i = attrsT S i) ∧ listT S' j = listT S j ∧ renameT S' q p = (0, S) := by
  have hr := h
  unfold renameT at hr
  split at hr
  · cases hr
  next hpq =>
  have hpe : p ≠ [] := fun e => hpq (.inl e)
  have hqe : q ≠ [] := fun e => hpq (.inr e)
  split at hr
  · cases hr
  next j hj =>
  split at hr
  · next h1 => exact absurd hr h1
  next h1 =>
  split at hr
  · cases hr
  next h2 =>
  have h1' : (roomT S.ths q).2 = 0 := Classical.not_not.1 h1
  obtain ⟨i2, hi2⟩ := roomT_zero h1'
  obtain ⟨hright, hw, x2, hx2, hx2i, hx2d, hx2g⟩ := roomT_ok o hi2
  obtain ⟨x1, hx1, b1, b2, b3, b4, b5⟩ := o.walk_holder hpe hj
  have hU : ¬ Under S.ths j i2 := fun e => h2 ((o.leads hj hw hqe).2 e)
  obtain ⟨ok, _⟩ := o.rename hpe b1 hj hi2 hU
  have hval : renameT S p q = (0, ⟨setT (setT S.ths x1.id (cutH (lastN p))) i2 (putH (lastN q) j), S.next⟩) := by
    unfold renameT
    rw [if_neg hpq, hj]
    simp only
    rw [if_neg h1, if_neg h2, hi2, b1]
    rfl
  rw [movedT_eq] at hval ok
  generalize hg : movedT x1.id i2 (lastN p) (lastN q) j = g at hval ok
  have g1 : ∀ z, (g z).id = z.id := fun z => by rw [← hg]; exact movedT_id _ _ _ _ _ z
  have g2 : ∀ z, (g z).dir = z.dir := fun z => by rw [← hg]; exact movedT_dir _ _ _ _ _ z
  have g3 : ∀ z, (g z).a = z.a := fun z => by rw [← hg]; exact movedT_a _ _ _ _ _ z
  have g4 : ∀ z, (g z).d = z.d := fun z => by rw [← hg]; exact movedT_d _ _ _ _ _ z
  have hid : ∀ i, (∃ y ∈ S.ths.map g, y.id = i) ↔ ∃ y ∈ S.ths, y.id = i := fun i => by
    constructor
    · rintro ⟨y, hy, e⟩
      obtain ⟨u, hu, rfl⟩ := List.mem_map.1 hy
      exact ⟨u, hu, by rw [← g1 u]; exact e⟩
    · rintro ⟨y, hy, e⟩
      exact ⟨g y, List.mem_map_of_mem hy, by rw [g1]; exact e⟩
  obtain ⟨xj, hxj, hxje⟩ := o.walk_mem _ 0 o.rootMem j hj
  have hU1 : ¬ Under S.ths j x1.id := by
    rintro ⟨r, hr⟩
    have h3 : walkT S.ths 0 (p ++ r) = some x1.id := by rw [walk_append, hj]; exact hr
    have h4 := o.inj _ _ _ _ (Nat.le_refl _) b1 h3
    have h5 := congrArg List.length h4
    rw [List.length_dropLast, List.length_append] at h5
    have := List.length_pos_iff.2 hpe
    omega
  have st := o.stays ok hid (j := j) (fun i hi => upd_ne _ _ hi) (fun i hi => upd_ne _ _ hi)
  have w2 := st _ _ _ (Nat.le_refl _) hw hU
  have w1 := st _ _ _ (Nat.le_refl _) b1 hU1
  have hf : ∀ {z : Th}, z ∈ S.ths → findT (S.ths.map g) (z.id : Int) = some (g z) := fun {z} hz => by rw [findT_mapd _ _ g1, findT_nat o.inc hz rfl]; rfl
  have wq : walkT (S.ths.map g) 0 q = some j := by
    rw [last_split hqe, walk_snoc, show walkT (S.ths.map g) 0 q.dropLast = some i2 from w2]
    simp only
    rw [← hx2i, hf hx2]
    have := List.mem_map_of_mem (f := g) hx2
    simp only
    rw [getH_some (ok.srt _ this), ok.held _ this]
    exact ⟨b3, (hid j).2 ⟨xj, hxj, hxje⟩, by rw [upd_self, g1, hx2i], upd_self _ _ _⟩
  have hgn : getH (g x1).h (lastN p) = none := by
    rw [getH_none]
    intro k hk
    have hm := List.mem_map_of_mem (f := g) hx1
    obtain ⟨k0, ke, k1, k2⟩ := (ok.held _ hm _ _).1 hk
    rw [g1] at k1
    by_cases e : k = j
    · subst e
      rw [upd_self] at k1 k2
      have : x2 = x1 := o.inc.uniq hx2 hx1 (by rw [hx2i, k1])
      subst this
      rw [k2, b2] at hx2g
      cases hx2g
    · rw [upd_ne _ _ e] at k1 k2
      obtain ⟨y, hy, hye⟩ := (hid k).1 ke
      have := o.sib y hy xj hxj (by omega) (by omega) (by rw [hye, hxje, k1, b4]) (by rw [hye, hxje, k2, b5])
      omega
  have wp : walkT (S.ths.map g) 0 p = none := by
    rw [last_split hpe, walk_snoc, show walkT (S.ths.map g) 0 p.dropLast = some x1.id from w1]
    simp only
    rw [hf hx1]
    exact hgn
  have sq : walkT S.ths 0 q = none := by
    rw [last_split hqe, walk_snoc, hw]
    simp only
    rw [← hx2i, findT_nat o.inc hx2 rfl]
    exact hx2g
  have hx1d : x1.dir = true := by
    obtain ⟨u, hu, hu1, hu2⟩ := o.par xj hxj (by omega)
    have : u = x1 := o.inc.uniq hu hx1 (by rw [hu1, hxje, b4])
    rw [← this]; exact hu2
  have hroom : roomT (S.ths.map g) p = (x1.id, 0) := by
    unfold roomT
    have hrt := o.right xj hxj (by omega)
    rw [hxje, b5] at hrt
    rw [if_neg (by rw [hrt]; simp), show walkT (S.ths.map g) 0 p.dropLast = some x1.id from w1]
    simp only
    rw [hf hx1]
    simp only
    rw [if_neg (by rw [g2, hx1d]; simp), hgn]
    rfl
  have hU3 : ¬ Under (S.ths.map g) j x1.id := by
    rintro ⟨r, hr⟩
    have h3 : walkT (S.ths.map g) 0 (q ++ r) = some x1.id := by rw [walk_append, wq]; exact hr
    have h4 := ok.inj _ _ _ _ (Nat.le_refl _) h3 w1
    have h5 : walkT S.ths 0 (q ++ r) = none := by rw [walk_append, sq]
    rw [h4, b1] at h5
    cases h5
  have hld : ¬ Proofs.Ytnigfnikajejaab.leads p q = true := fun e => hU3 ((ok.leads wq w1 hpe).1 e)
  obtain ⟨ok2, _⟩ := ok.rename (S := ⟨S.ths.map g, S.next⟩) hqe w2 wq hroom hU3
  rw [movedT_eq] at ok2
  have hback : renameT ⟨S.ths.map g, S.next⟩ q p = (0, S) := by
    unfold renameT
    rw [if_neg fun e => hpq e.symm, show walkT (⟨S.ths.map g, S.next⟩ : Tr).ths 0 q = some j from wq]
    simp only
    rw [if_neg (by rw [hroom]; simp), if_neg hld, hroom, show walkT (S.ths.map g) 0 q.dropLast = some i2 from w2]
    simp only [Option.getD_some]
    rw [movedT_eq]
    rw [List.map_map] at ok2 ⊢
    rw [o.ext ok2 (fun z => by simp only [Function.comp]; rw [movedT_id, g1]) (fun z => by simp only [Function.comp]; rw [movedT_dir, g2]) (fun z => by simp only [Function.comp]; rw [movedT_a, g3]) (fun z => by simp only [Function.comp]; rw [movedT_d, g4]) (fun i => ?_) (fun i => ?_)]
    · by_cases e : i = j
      · subst e; rw [upd_self, b4]
      · rw [upd_ne _ _ e, upd_ne _ _ e]
    · by_cases e : i = j
      · subst e; rw [upd_self, b5]
      · rw [upd_ne _ _ e, upd_ne _ _ e]
  have hat : ∀ i, attrsT ⟨S.ths.map g, S.next⟩ i = attrsT S i := fun i => by
    unfold attrsT
    rw [show findT (⟨S.ths.map g, S.next⟩ : Tr).ths i = (findT S.ths i).map g from findT_mapd _ _ g1 i]
    cases findT S.ths i with
    | none => rfl
    | some x => simp only [Option.map_some, g3]
  have hao : ∀ i, attrsOf ⟨S.ths.map g, S.next⟩ i = attrsOf S i := fun i => by
    unfold attrsOf
    rw [show findT (⟨S.ths.map g, S.next⟩ : Tr).ths i = (findT S.ths i).map g from findT_mapd _ _ g1 i]
    cases findT S.ths i with
    | none => rfl
    | some x => simp only [Option.map_some, g3]
  have hgj : g xj = xj := by
    rw [← hg]
    unfold movedT
    rw [if_neg (fun e => hU ⟨[], by rw [← e, hxje]; rfl⟩), if_neg (fun e => hU1 ⟨[], by rw [← e, hxje]; rfl⟩)]
  refine ⟨j, ⟨S.ths.map g, S.next⟩, hval, hj, sq, wq, wp, hat, ?_, hback⟩
  unfold listT
  rw [show findT (⟨S.ths.map g, S.next⟩ : Tr).ths (j : Int) = (findT S.ths j).map g from findT_mapd _ _ g1 j, findT_nat o.inc hxj hxje]
  simp only [Option.map_some, hgj, hao]
end

/-- An ask. -/
structure Ask where
  kind : Int
  id : Int
  P : List Nm
  To : List Nm
  dir : Bool
  at_ : Nat
  n : Nat
  b : List UInt8
  a : At
def askC (x : Ask) (pv tv bv : Value) : Array Value := #[.int .i64 x.kind, .int .i64 x.id, pv, tv, .bool x.dir, .int .u64 x.at_, .int .u32 x.n, bv, .int .u32 x.a.f, .int .u64 x.a.s, .int .u32 x.a.u, .int .u32 x.a.g, .int .u32 x.a.m, .int .u32 x.a.a, .int .u32 x.a.t]
/-- The ask as the laws take it. -/
def shortA (x : Ask) : Ask := { x with P := fewL x.P 5 32, To := fewL x.To 5 32, b := x.b.take 200 }
theorem sizeAsk : (Try.prog.info? 32).map (·.size) = some 15 := by kernel_rfl
theorem cells15 {w : World} {B : Nat} {t : TypeId} {v0 v1 v2 v3 v4 v5 v6 v7 v8 v9 v10 v11 v12 v13 v14 : Value} (h : w.heap[B]? = some (.cells #[v0, v1, v2, v3, v4, v5, v6, v7, v8, v9, v10, v11, v12, v13, v14] t (0, 0))) :
    w.cell? ⟨B, 0, none⟩ = some v0 ∧ w.cell? ⟨B, 1, none⟩ = some v1 ∧ w.cell? ⟨B, 2, none⟩ = some v2 ∧ w.cell? ⟨B, 3, none⟩ = some v3 ∧ w.cell? ⟨B, 4, none⟩ = some v4 ∧ w.cell? ⟨B, 5, none⟩ = some v5 ∧ w.cell? ⟨B, 6, none⟩ = some v6 ∧ w.cell? ⟨B, 7, none⟩ = some v7 ∧ w.cell? ⟨B, 8, none⟩ = some v8 ∧ w.cell? ⟨B, 9, none⟩ = some v9 ∧ w.cell? ⟨B, 10, none⟩ = some v10 ∧ w.cell? ⟨B, 11, none⟩ = some v11 ∧ w.cell? ⟨B, 12, none⟩ = some v12 ∧ w.cell? ⟨B, 13, none⟩ = some v13 ∧ w.cell? ⟨B, 14, none⟩ = some v14 ∧ ∀ j, w.frozen? ⟨B, j, none⟩ = false := by
  refine ⟨?_, ?_, ?_, ?_, ?_, ?_, ?_, ?_, ?_, ?_, ?_, ?_, ?_, ?_, ?_, fun j => by simp [World.frozen?, h]⟩ <;> simp [World.cell?, h]
def ABox (w : World) (g : Nat) (x : Ask) (pv tv bv : Value) : Prop := w.heap[g]? = some (.cells (askC x pv tv bv) 32 (0, 0))
section
variable {g : Nat}
theorem ABox.set2 {w : World} {x : Ask} {pv tv bv : Value} (h : ABox w g x pv tv bv) (v : Value) : ABox (w.setCell ⟨g, 2, none⟩ v) g x v tv bv := by
  unfold ABox at h ⊢
  rw [heap_setCell_same _ _ _ _ _ _ h]; rfl
theorem ABox.set3 {w : World} {x : Ask} {pv tv bv : Value} (h : ABox w g x pv tv bv) (v : Value) : ABox (w.setCell ⟨g, 3, none⟩ v) g x pv v bv := by
  unfold ABox at h ⊢
  rw [heap_setCell_same _ _ _ _ _ _ h]; rfl
theorem ABox.set7 {w : World} {x : Ask} {pv tv bv : Value} (h : ABox w g x pv tv bv) (v : Value) : ABox (w.setCell ⟨g, 7, none⟩ v) g x pv tv v := by
  unfold ABox at h ⊢
  rw [heap_setCell_same _ _ _ _ _ _ h]; rfl
theorem setCells_heap (t : TypeId) : ∀ (vs pre old : List Value) (w : World), w.heap[g]? = some (.cells (pre ++ old).toArray t (0, 0)) → old.length = vs.length → (w.setCells g pre.length vs).heap[g]? = some (.cells (pre ++ vs).toArray t (0, 0))
  | [], pre, old, w, h, hl => by
    obtain rfl : old = [] := List.eq_nil_of_length_eq_zero hl
    exact h
  | v :: vs, pre, [], w, h, hl => by cases hl
  | v :: vs, pre, o :: old, w, h, hl => by
    have h1 : (w.setCell ⟨g, pre.length, none⟩ v).heap[g]? = some (.cells ((pre ++ [v]) ++ old).toArray t (0, 0)) := by
      rw [heap_setCell_same _ _ _ _ _ _ h]
      congr 2
      simp
    have h2 := setCells_heap t vs (pre ++ [v]) old _ h1 (by simpa using hl)
    rw [List.length_append, List.length_singleton] at h2
    rw [World.setCells]
    simpa using h2
theorem setCells_keeps : ∀ (vs : List Value) (o : Nat) (w : World), Keeps (fun k => k = g) w (w.setCells g o vs)
  | [], _, _ => Keeps.refl _ _
  | v :: vs, o, w => (keeps_set w g o v).trans (setCells_keeps vs (o + 1) _)
end
set_option maxHeartbeats 4000000 in
set_option maxRecDepth 100000 in
theorem short_c (x : Ask) (pv tv bv : Value) (w : World) (hp : SSl w pv x.P) (ht : SSl w tv x.To) (hb : BSl w bv x.b) :
    Calls Try.prog 6 #[.agg (askC x pv tv bv)] w fun e w' => ∃ pv' tv' bv', e = .returned (.agg (askC (shortA x) pv' tv' bv')) ∧ SOwn w' w.heap.size pv' (shortA x).P ∧ SOwn w' w.heap.size tv' (shortA x).To ∧ BSl w' bv' (shortA x).b ∧ bv'.ownBlock = bv.ownBlock ∧ Below w.heap.size w w' := by
  have HP := hidden hp
  have HT := hidden ht
  have HBV := hidden hb
  clear hp ht hb
  unfold askC
  go_enter Try.func6, Try.ntmps6
  go_wp2_with fail
  have hz := heap_alloc_new (w.alloc (.cells (askC x pv tv bv) 32)) (.cells #[.int .i64 0, .int .i64 0, .slice none 0 0, .slice none 0 0, .bool false, .int .u64 0, .int .u32 0, .slice none 0 0, .int .u32 0, .int .u64 0, .int .u32 0, .int .u32 0, .int .u32 0, .int .u32 0, .int .u32 0] 32)
  have hab : ABox ((w.alloc (.cells (askC x pv tv bv) 32)).alloc (.cells #[.int .i64 0, .int .i64 0, .slice none 0 0, .slice none 0 0, .bool false, .int .u64 0, .int .u32 0, .slice none 0 0, .int .u32 0, .int .u64 0, .int .u32 0, .int .u32 0, .int .u32 0, .int .u32 0, .int .u32 0] 32)) w.heap.size x pv tv bv := heap_alloc2_old w _ _
  have hb0 : Below w.heap.size w ((w.alloc (.cells (askC x pv tv bv) 32)).alloc (.cells #[.int .i64 0, .int .i64 0, .slice none 0 0, .slice none 0 0, .bool false, .int .u64 0, .int .u32 0, .slice none 0 0, .int .u32 0, .int .u64 0, .int .u32 0, .int .u32 0, .int .u32 0, .int .u32 0, .int .u32 0] 32)) := ((Below.refl _ w).alloc (Nat.le_refl _) _).alloc (by simp) _
  unfold askC at hz hab hb0
  rw [show ∀ A : Obj, (w.alloc A).heap.size = w.heap.size + 1 from fun A => by simp] at hz
  generalize hW0 : (w.alloc (.cells #[.int .i64 x.kind, .int .i64 x.id, pv, tv, .bool x.dir, .int .u64 x.at_, .int .u32 x.n, bv, .int .u32 x.a.f, .int .u64 x.a.s, .int .u32 x.a.u, .int .u32 x.a.g, .int .u32 x.a.m, .int .u32 x.a.a, .int .u32 x.a.t] 32)).alloc (.cells #[.int .i64 0, .int .i64 0, .slice none 0 0, .slice none 0 0, .bool false, .int .u64 0, .int .u32 0, .slice none 0 0, .int .u32 0, .int .u64 0, .int .u32 0, .int .u32 0, .int .u32 0, .int .u32 0, .int .u32 0] 32) = W0 at hz hab hb0 ⊢
  clear hW0
  have hl0 := lt_of_block hz
  refine (few_n 5 32 (by omega) (by omega) pv x.P _ (HP.out.fresh hb0)).mono ?_
  rintro e w1 ⟨v1, rfl, ho1, hb1⟩
  obtain ⟨a1, k1, rfl⟩ := ownsRow_shape ho1
  have hz1 := (hb1.block _ hl0).trans hz
  have hab1 : ABox w1 w.heap.size x pv tv bv := (hb1.block _ (by omega)).trans hab
  have hB1 := hb0.trans (hb1.mono hb0.size)
  have hs1 := hb1.size
  obtain ⟨c0, c1, c2, c3, c4, c5, c6, c7, c8, c9, c10, c11, c12, c13, c14, cf⟩ := cells15 hab1
  -- behind the first store
  have hB1s : Below w.heap.size w (w1.setCell ⟨w.heap.size, 2, none⟩ (.slice a1 (fewL x.P 5 32).length k1)) := hB1.trans ((keeps_set w1 w.heap.size 2 _).below hB1.size fun k h => by omega)
  have hS1 : SOwn (w1.setCell ⟨w.heap.size, 2, none⟩ (.slice a1 (fewL x.P 5 32).length k1)) W0.heap.size (.slice a1 (fewL x.P 5 32).length k1) (fewL x.P 5 32) := (keeps_set w1 w.heap.size 2 _).row ho1 fun k e h => by have := (World.ownsRow.lt ho1 k e).1; omega
  have hA1 : ABox (w1.setCell ⟨w.heap.size, 2, none⟩ (.slice a1 (fewL x.P 5 32).length k1)) w.heap.size x (.slice a1 (fewL x.P 5 32).length k1) tv bv := hab1.set2 _
  have hZ1 := ((keeps_set w1 w.heap.size 2 (.slice a1 (fewL x.P 5 32).length k1)).block (w.heap.size + 1) (by omega) (by omega)).trans hz1
  clear ho1 hz1 hab1 hB1 hz hab hb0 hb1
  go_wp2_with fail
  generalize w1.setCell ⟨w.heap.size, 2, none⟩ (.slice a1 (fewL x.P 5 32).length k1) = W1 at hB1s hS1 hA1 hZ1 ⊢
  clear c0 c1 c2 c3 c4 c5 c6 c7 c8 c9 c10 c11 c12 c13 c14 cf
  have hl1 := lt_of_block hZ1
  refine (few_n 5 32 (by omega) (by omega) tv x.To _ (HT.out.fresh hB1s)).mono ?_
  rintro e w2 ⟨v2, rfl, ho2, hb2⟩
  obtain ⟨a2, k2, rfl⟩ := ownsRow_shape ho2
  have hz2 := (hb2.block _ hl1).trans hZ1
  have hab2 : ABox w2 w.heap.size x (.slice a1 (fewL x.P 5 32).length k1) tv bv := (hb2.block _ (by omega)).trans hA1
  have hB2 := hB1s.trans (hb2.mono hB1s.size)
  have hs2 := hb2.size
  have hS12 : SOwn w2 W0.heap.size (.slice a1 (fewL x.P 5 32).length k1) (fewL x.P 5 32) := (Keeps.ofFresh (S := fun _ => False) hb2).row hS1 fun _ _ h => h
  obtain ⟨c0, c1, c2, c3, c4, c5, c6, c7, c8, c9, c10, c11, c12, c13, c14, cf⟩ := cells15 hab2
  have hB2s : Below w.heap.size w (w2.setCell ⟨w.heap.size, 3, none⟩ (.slice a2 (fewL x.To 5 32).length k2)) := hB2.trans ((keeps_set w2 w.heap.size 3 _).below hB2.size fun k h => by omega)
  have hS2 : SOwn (w2.setCell ⟨w.heap.size, 3, none⟩ (.slice a2 (fewL x.To 5 32).length k2)) W1.heap.size (.slice a2 (fewL x.To 5 32).length k2) (fewL x.To 5 32) := (keeps_set w2 w.heap.size 3 _).row ho2 fun k e h => by have := (World.ownsRow.lt ho2 k e).1; omega
  have hS1b : SOwn (w2.setCell ⟨w.heap.size, 3, none⟩ (.slice a2 (fewL x.To 5 32).length k2)) W0.heap.size (.slice a1 (fewL x.P 5 32).length k1) (fewL x.P 5 32) := (keeps_set w2 w.heap.size 3 _).row hS12 fun k e h => by have := (World.ownsRow.lt hS12 k e).1; omega
  have hA2 : ABox (w2.setCell ⟨w.heap.size, 3, none⟩ (.slice a2 (fewL x.To 5 32).length k2)) w.heap.size x (.slice a1 (fewL x.P 5 32).length k1) (.slice a2 (fewL x.To 5 32).length k2) bv := hab2.set3 _
  have hZ2 := ((keeps_set w2 w.heap.size 3 (.slice a2 (fewL x.To 5 32).length k2)).block (w.heap.size + 1) (by omega) (by omega)).trans hz2
  clear ho2 hz2 hab2 hB2 hb2 hB1s hS1 hS12 hA1 hZ1
  go_wp2_with fail
  generalize w2.setCell ⟨w.heap.size, 3, none⟩ (.slice a2 (fewL x.To 5 32).length k2) = W2 at hB2s hS2 hS1b hA2 hZ2 ⊢
  clear c0 c1 c2 c3 c4 c5 c6 c7 c8 c9 c10 c11 c12 c13 c14 cf
  have hl2 := lt_of_block hZ2
  refine (cut_c 200 (by omega) bv x.b _ (HBV.out.fresh hB2s)).mono ?_
  rintro e w3 ⟨bv', rfl, hbs, hob, rfl⟩
  have hbs0 := hbs
  obtain ⟨m3, hm3⟩ : ∃ m, m = (x.b.take 200).length := ⟨_, rfl⟩
  obtain ⟨a3, k3, hv3, _⟩ := hbs0
  rw [← hm3] at hv3
  subst hv3
  have HM3 := hidden hm3
  clear hm3
  obtain ⟨c0, c1, c2, c3, c4, c5, c6, c7, c8, c9, c10, c11, c12, c13, c14, cf⟩ := cells15 hA2
  have hA3 := hA2.set7 (.slice a3 m3 k3)
  obtain ⟨d0, d1, d2, d3, d4, d5, d6, d7, d8, d9, d10, d11, d12, d13, d14, df⟩ := cells15 hA3
  have hZ3 := ((keeps_set w3 w.heap.size 7 (.slice a3 m3 k3)).block (w.heap.size + 1) (by omega) (by omega)).trans hZ2
  obtain ⟨z0, z1, z2, z3, z4, z5, z6, z7, z8, z9, z10, z11, z12, z13, z14, zf⟩ := cells15 hZ3
  go_wp2_with fail
  have hfin := setCells_heap (g := w.heap.size + 1) 32 (askC x (.slice a1 (fewL x.P 5 32).length k1) (.slice a2 (fewL x.To 5 32).length k2) (.slice a3 m3 k3)).toList [] [.int .i64 0, .int .i64 0, .slice none 0 0, .slice none 0 0, .bool false, .int .u64 0, .int .u32 0, .slice none 0 0, .int .u32 0, .int .u64 0, .int .u32 0, .int .u32 0, .int .u32 0, .int .u32 0, .int .u32 0] _ hZ3 rfl
  have hkp := setCells_keeps (g := w.heap.size + 1) (askC x (.slice a1 (fewL x.P 5 32).length k1) (.slice a2 (fewL x.To 5 32).length k2) (.slice a3 m3 k3)).toList 0 (w3.setCell ⟨w.heap.size, 7, none⟩ (.slice a3 m3 k3))
  change bodyPost _ _ _ _ _ ((w3.setCell ⟨w.heap.size, 7, none⟩ (.slice a3 m3 k3)).setCells (w.heap.size + 1) 0 (askC x (.slice a1 (fewL x.P 5 32).length k1) (.slice a2 (fewL x.To 5 32).length k2) (.slice a3 m3 k3)).toList)
  rw [show ([] : List Value).length = 0 from rfl] at hfin
  have hkA := (keeps_set w3 w.heap.size 7 (.slice a3 m3 k3)).mono (S' := fun k => k = w.heap.size ∨ k = w.heap.size + 1) fun k _ h => .inl h
  have hkB := hkA.trans (hkp.mono (S' := fun k => k = w.heap.size ∨ k = w.heap.size + 1) fun k _ h => .inr h)
  generalize (w3.setCell ⟨w.heap.size, 7, none⟩ (.slice a3 m3 k3)).setCells (w.heap.size + 1) 0 (askC x (.slice a1 (fewL x.P 5 32).length k1) (.slice a2 (fewL x.To 5 32).length k2) (.slice a3 m3 k3)).toList = W4 at hfin hkB ⊢
  have r1 : SOwn W4 W0.heap.size (.slice a1 (fewL x.P 5 32).length k1) (fewL x.P 5 32) := hkB.row hS1b fun k e h => by have := (World.ownsRow.lt hS1b k e).1; omega
  have r2 : SOwn W4 W1.heap.size (.slice a2 (fewL x.To 5 32).length k2) (fewL x.To 5 32) := hkB.row hS2 fun k e h => by have := (World.ownsRow.lt hS2 k e).1; omega
  have r3 : BSl W4 (.slice a3 m3 k3) (x.b.take 200) := hbs.keepE hkB fun hne k e h => by
    have hxb : x.b ≠ [] := by rintro h0; rw [h0] at hne; simp at hne
    rw [hob] at e
    have := BSl.apartB HBV.out (B := k) (by omega) hxb k e
    exact this rfl
  have r4 : Below w.heap.size w W4 := hB2s.trans (hkB.below hB2s.size fun k h => by omega)
  refine bodyPost_ret (results_agg1 rfl _ _ _ (w.heap.size + 1) _ 32 (0, 0) rfl hfin Try.underlying32 sizeAsk) rfl ?_
  exact ⟨_, _, _, rfl, ownsRow_mono r1 (by omega), ownsRow_mono r2 (by omega), r3, hob, r4⟩

theorem nameCs_at : ∀ (L : List (Nm × At)) (k : Nat) (hk : k < L.length) (i : Nat), i < 8 → (nameCs L)[k * 8 + i]? = (nameC L[k])[i]?
  | [], k, hk, _, _ => by simp at hk
  | e :: L, 0, _, i, hi => by
    unfold nameCs
    rw [List.flatMap_cons, Nat.zero_mul, Nat.zero_add, List.getElem?_append_left (by show i < 8; exact hi)]
    rfl
  | e :: L, k + 1, hk, i, hi => by
    unfold nameCs
    rw [List.flatMap_cons, List.getElem?_append_right (by show 8 ≤ _; omega)]
    have h := nameCs_at L k (by simpa using hk) i hi
    unfold nameCs at h
    rw [show (k + 1) * 8 + i - (nameC e).length = k * 8 + i by show _ - 8 = _; omega, h]
    rfl
/-- A row of names, as it reads. -/
def NRow (w : World) (v : Value) (L : List (Nm × At)) : Prop := ∃ base, w.ownsRow base 75 8 v L.length (nameCs L)
section
variable {w : World} {v : Value} {L : List (Nm × At)}
theorem NRow.keep {S : Nat → Prop} {w' : World} (h : NRow w v L) (hk : Keeps S w w') (hn : ∀ k, v.ownBlock = some k → ¬ S k) : NRow w' v L := by
  obtain ⟨b, h⟩ := h
  exact ⟨b, hk.row h hn⟩
theorem NRow.fresh {w' : World} (h : NRow w v L) (hb : Below w.heap.size w w') : NRow w' v L := h.keep (S := fun _ => False) (Keeps.ofFresh hb) fun _ _ h => h
theorem NRow.shape (h : NRow w v L) : ∃ ao cap, v = .slice ao L.length cap ∧ L.length ≤ cap ∧ cap ≤ maxLen ∧ (L ≠ [] → ∃ g, ao = some ⟨g, 0, none⟩) := by
  obtain ⟨b, h1, h2⟩ := h
  rcases h2 with ⟨rfl, hl⟩ | ⟨g, cap, cur, rfl, hb, hg, hn, hm, _⟩
  · obtain rfl : L = [] := List.eq_nil_of_length_eq_zero hl
    exact ⟨none, 0, rfl, by simp, by simp [maxLen], fun h => absurd rfl h⟩
  · exact ⟨some ⟨g, 0, none⟩, cap, rfl, hn, hm, fun _ => ⟨g, rfl⟩⟩
theorem NRow.at {g n cap : Nat} (h : NRow w (.slice (some ⟨g, 0, none⟩) n cap) L) (k : Nat) (hk : k < L.length) :
    w.cell? ⟨g, k * 8, none⟩ = some (.string (L[k]).1) ∧ w.cell? ⟨g, k * 8 + 1, none⟩ = some (.int .u32 (L[k]).2.f) ∧ w.cell? ⟨g, k * 8 + 2, none⟩ = some (.int .u64 (L[k]).2.s) ∧ w.cell? ⟨g, k * 8 + 3, none⟩ = some (.int .u32 (L[k]).2.u) ∧ w.cell? ⟨g, k * 8 + 4, none⟩ = some (.int .u32 (L[k]).2.g) ∧ w.cell? ⟨g, k * 8 + 5, none⟩ = some (.int .u32 (L[k]).2.m) ∧ w.cell? ⟨g, k * 8 + 6, none⟩ = some (.int .u32 (L[k]).2.a) ∧ w.cell? ⟨g, k * 8 + 7, none⟩ = some (.int .u32 (L[k]).2.t) := by
  obtain ⟨b, h⟩ := h
  have hn : n = L.length := by
    rcases h.2 with ⟨e, hl⟩ | ⟨g', cap', cur, e, _⟩
    · cases e
    · cases e; rfl
  subst hn
  have e : ∀ i, i < 8 → w.cell? ⟨g, k * 8 + i, none⟩ = (nameC L[k])[i]? := fun i hi => by
    rw [← nameCs_at L k hk i hi]
    exact World.ownsRow.cellAt h (k * 8 + i) (by omega)
  exact ⟨e 0 (by omega), e 1 (by omega), e 2 (by omega), e 3 (by omega), e 4 (by omega), e 5 (by omega), e 6 (by omega), e 7 (by omega)⟩

end

/-- An ask, with its values. -/
structure AskD where
  x : Ask
  pv : Value
  tv : Value
  bv : Value
def AskD.good (w : World) (p : AskD) : Prop := SSl w p.pv p.x.P ∧ SSl w p.tv p.x.To ∧ BSl w p.bv p.x.b ∧ p.x.at_ ≤ 18446744073709551615 ∧ p.x.n ≤ 4294967295 ∧ p.x.a.Ok
/-- The slice value v reads as the asks qs in w. -/
def ASl (w : World) (v : Value) (qs : List AskD) : Prop :=
  ∃ ao cap, v = .slice ao qs.length cap ∧ qs.length ≤ cap ∧ cap ≤ maxLen ∧ (∀ p ∈ qs, p.good w) ∧
    ∀ (i : Nat) (hi : i < qs.length), ∃ b off, ao = some ⟨b, off, none⟩ ∧ ∀ (j : Nat) (c : Value), (askC qs[i].x qs[i].pv qs[i].tv qs[i].bv)[j]? = some c → w.cell? ⟨b, off + i * 15 + j, none⟩ = some c
theorem AskD.good.fresh {w w' : World} {p : AskD} (h : p.good w) (hb : Below w.heap.size w w') : p.good w' := ⟨h.1.fresh hb, h.2.1.fresh hb, h.2.2.1.fresh hb, h.2.2.2⟩
theorem ASl.fresh {w w' : World} {v : Value} {qs : List AskD} (h : ASl w v qs) (hb : Below w.heap.size w w') : ASl w' v qs := by
  obtain ⟨ao, cap, e, h1, h2, h3, hc⟩ := h
  refine ⟨ao, cap, e, h1, h2, fun p hp => (h3 p hp).fresh hb, fun i hi => ?_⟩
  obtain ⟨b, off, e, hcell⟩ := hc i hi
  exact ⟨b, off, e, fun j c hj => (Keeps.ofFresh (S := fun _ => False) hb).cell (hcell j c hj) fun h => h⟩
theorem ASl.len {w : World} {v : Value} {qs : List AskD} (h : ASl w v qs) : ∃ ao cap, v = .slice ao qs.length cap ∧ qs.length ≤ cap ∧ cap ≤ maxLen := by
  obtain ⟨ao, cap, e, h1, h2, _⟩ := h
  exact ⟨ao, cap, e, h1, h2⟩
theorem ASl.good {w : World} {v : Value} {qs : List AskD} (h : ASl w v qs) {p : AskD} (hp : p ∈ qs) : p.good w := by
  obtain ⟨ao, cap, e, h1, h2, h3, hc⟩ := h
  exact h3 p hp
theorem ASl.at {w : World} {ao : Option Addr} {n cap : Nat} {qs : List AskD} (h : ASl w (.slice ao n cap) qs) (k : Nat) (hk : k < qs.length) : ∃ b off, ao = some ⟨b, off, none⟩ ∧
    w.cell? ⟨b, off + k * 15, none⟩ = some (.int .i64 qs[k].x.kind) ∧ w.cell? ⟨b, off + k * 15 + 1, none⟩ = some (.int .i64 qs[k].x.id) ∧ w.cell? ⟨b, off + k * 15 + 2, none⟩ = some qs[k].pv ∧ w.cell? ⟨b, off + k * 15 + 3, none⟩ = some qs[k].tv ∧ w.cell? ⟨b, off + k * 15 + 4, none⟩ = some (.bool qs[k].x.dir) ∧ w.cell? ⟨b, off + k * 15 + 5, none⟩ = some (.int .u64 qs[k].x.at_) ∧ w.cell? ⟨b, off + k * 15 + 6, none⟩ = some (.int .u32 qs[k].x.n) ∧ w.cell? ⟨b, off + k * 15 + 7, none⟩ = some qs[k].bv ∧
    w.cell? ⟨b, off + k * 15 + 8, none⟩ = some (.int .u32 qs[k].x.a.f) ∧ w.cell? ⟨b, off + k * 15 + 9, none⟩ = some (.int .u64 qs[k].x.a.s) ∧ w.cell? ⟨b, off + k * 15 + 10, none⟩ = some (.int .u32 qs[k].x.a.u) ∧ w.cell? ⟨b, off + k * 15 + 11, none⟩ = some (.int .u32 qs[k].x.a.g) ∧ w.cell? ⟨b, off + k * 15 + 12, none⟩ = some (.int .u32 qs[k].x.a.m) ∧ w.cell? ⟨b, off + k * 15 + 13, none⟩ = some (.int .u32 qs[k].x.a.a) ∧ w.cell? ⟨b, off + k * 15 + 14, none⟩ = some (.int .u32 qs[k].x.a.t) := by
  obtain ⟨ao, cap, e, h1, h2, h3, hc⟩ := h
  cases e
  obtain ⟨b, off, rfl, f⟩ := hc k hk
  exact ⟨b, off, rfl, f 0 _ rfl, f 1 _ rfl, f 2 _ rfl, f 3 _ rfl, f 4 _ rfl, f 5 _ rfl, f 6 _ rfl, f 7 _ rfl, f 8 _ rfl, f 9 _ rfl, f 10 _ rfl, f 11 _ rfl, f 12 _ rfl, f 13 _ rfl, f 14 _ rfl⟩
/-- No call makes more than one thing. -/
theorem makeT_next (S : Tr) (p : List Nm) (dir : Bool) : (makeT S p dir).2.next ≤ S.next + 1 := by
  unfold makeT
  split
  · exact Nat.le_succ _
  · split
    · exact Nat.le_succ _
    · split
      · exact Nat.le_succ _
      · exact Nat.le_refl _
theorem writeT_next (S : Tr) (i : Int) (k : Nat) (b : List UInt8) : (writeT S i k b).2.next = S.next := by
  unfold writeT
  split
  · rfl
  · split
    · rfl
    · split <;> rfl
theorem renameT_next (S : Tr) (p q : List Nm) : (renameT S p q).2.next = S.next := by
  unfold renameT
  split
  · rfl
  · split
    · rfl
    · split
      · rfl
      · split <;> rfl
section
variable {w : World} {R : Nat → Role} {a base : Nat} {S : Tr}
theorem save_t (H : TS base w R a S) (hnx : S.next ≤ 9000000000000000000) : Calls Try.prog 13 #[.pointer (some ⟨a, 0, none⟩)] w (SavePost w S) := by
  obtain ⟨⟨B, dv, hv', tv, hx⟩, ⟨pa, nm, o⟩, hR⟩ := H
  exact save_c hx o hnx
theorem list_t (H : TS base w R a S) (i : Int) : Calls Try.prog 19 #[.pointer (some ⟨a, 0, none⟩), .int .i64 i] w (ListPost w (listT S i)) := by
  obtain ⟨⟨B, dv, hv', tv, hx⟩, ⟨pa, nm, o⟩, hR⟩ := H
  exact list_c hx o i
/-- What is told of what was moved, and moved back. -/
theorem TS.moves (H : TS base w R a S) {p q : List Nm} (h : (renameT S p q).1 = 0) : ∃ j S', renameT S p q = (0, S') ∧ lookT S p = (j, 0) ∧ lookT S q = (0, 22) ∧ lookT S' q = (j, 0) ∧ lookT S' p = (0, 22) ∧
    (∀ i, attrsT S' i = attrsT S i) ∧ listT S' j = listT S j ∧ renameT S' q p = (0, S) := by
  obtain ⟨_, ⟨pa, nm, o⟩, _⟩ := H
  obtain ⟨j, S', h1, h2, h3, h4, h5, h6, h7, h8⟩ := o.moves h
  exact ⟨j, S', h1, by rw [lookT, h2], by rw [lookT, h3], by rw [lookT, h4], by rw [lookT, h5], h6, h7, h8⟩
end

def mrgF (y : At) (x : Th) : Th := { x with a := mergeA x.a y }
def setAT (S : Tr) (i : Int) (y : At) : Nat × Tr := match findT S.ths i with
  | none => (22, S)
  | some x => if rightA y = false then (1, S) else if bt 1 y.f = false then (0, ⟨setT S.ths x.id (mrgF y), S.next⟩)
    else if x.dir then (23, S) else if hasRoom S x y.s ≠ 0 then (hasRoom S x y.s, S)
    else (0, ⟨setT (setT S.ths x.id (sizeF y.s)) x.id (mrgF y), S.next⟩)
theorem or15 (n : Nat) (h : n ≤ 15) : 15 ||| n = 15 := by
  have : ∀ n : Fin 16, 15 ||| n.val = 15 := by decide
  exact this ⟨n, by omega⟩
section
variable {S : Tr} {pa : Nat → Nat} {nm : Nat → Nm}
theorem mergeA_ok {x y : At} (hx : x.Ok) (hy : y.Ok) (h15 : x.f = 15) (hr : y.f ≤ 15) : (mergeA x y).Ok ∧ (mergeA x y).f = 15 := by
  have hf : (mergeA x y).f = 15 := by show x.f ||| y.f = 15; rw [h15, or15 _ hr]
  refine ⟨⟨by rw [hf]; omega, ?_, ?_, ?_, ?_, ?_, ?_⟩, hf⟩
  · show (if bt 1 y.f then y.s else x.s) ≤ _; split; exact hy.s; exact hx.s
  · show (if bt 2 y.f then y.u else x.u) ≤ _; split; exact hy.u; exact hx.u
  · show (if bt 2 y.f then y.g else x.g) ≤ _; split; exact hy.g; exact hx.g
  · show (if bt 4 y.f then y.m else x.m) ≤ _; split; exact hy.m; exact hx.m
  · show (if bt 8 y.f then y.a else x.a) ≤ _; split; exact hy.a; exact hx.a
  · show (if bt 8 y.f then y.t else x.t) ≤ _; split; exact hy.t; exact hx.t
theorem rightA_f {y : At} (h : rightA y = true) : y.f ≤ 15 := by
  unfold rightA at h
  simp only [Bool.and_eq_true, decide_eq_true_eq] at h
  exact h.1.1.1.1
theorem Ok.mrg (o : Ok S pa nm) {x : Th} (hx : x ∈ S.ths) {y : At} (hy : y.Ok) (hr : y.f ≤ 15) (hs : bt 1 y.f = true → y.s = x.d.length) : Ok ⟨setT S.ths x.id (mrgF y), S.next⟩ pa nm := by
  obtain ⟨h1, h2, h3⟩ := o.att x hx
  obtain ⟨k1, k2⟩ := mergeA_ok h1 hy h2 hr
  refine o.upd hx (mrgF y) (fun _ => rfl) (fun _ => rfl) (fun _ => rfl) (fun h => o.file x hx h) ⟨k1, k2, ?_⟩ (sizeT_set_le o.inc hx _ ?_)
  · show (if bt 1 y.f then y.s else x.a.s) = x.d.length
    split
    · next h => exact hs h
    · exact h3
  · have := sizeT_at o.inc hx
    have := o.bytes
    show sizeT S.ths - x.d.length + x.d.length ≤ _
    omega
theorem Ok.set (o : Ok S pa nm) (i : Int) {y : At} (hy : y.Ok) : Ok (setAT S i y).2 pa nm := by
  unfold setAT
  cases hf : findT S.ths i with
  | none => exact o
  | some x =>
    obtain ⟨hx, _⟩ := (findT_some o.inc _ _).1 hf
    simp only
    split
    · exact o
    · next hr =>
      have hr' : rightA y = true := by simpa using hr
      split
      · next hb => exact o.mrg hx hy (rightA_f hr') (fun h => by rw [hb] at h; cases h)
      · split
        · exact o
        · next hd =>
          split
          · exact o
          · next hh =>
            have hd' : x.dir = false := by simpa using hd
            have o1 := o.size hx hd' (Classical.not_not.1 hh)
            have hm : sizeF y.s x ∈ (⟨setT S.ths x.id (sizeF y.s), S.next⟩ : Tr).ths := mem_setT.2 ⟨x, hx, by rw [if_pos rfl]⟩
            exact o1.mrg hm hy (rightA_f hr') (fun _ => (rz_length _ _).symm)
theorem setAT_no {i : Int} {y : At} (h : (setAT S i y).1 ≠ 0) : (setAT S i y).2 = S := by
  unfold setAT at h ⊢
  cases hf : findT S.ths i with
  | none => rfl
  | some x =>
    rw [hf] at h
    simp only at h ⊢
    split
    · rfl
    · next h1 =>
      rw [if_neg h1] at h
      split
      · next h2 => rw [if_pos h2] at h; exact absurd rfl h
      · next h2 =>
        rw [if_neg h2] at h
        split
        · rfl
        · next h3 =>
          rw [if_neg h3] at h
          split
          · rfl
          · next h4 => rw [if_neg h4] at h; exact absurd rfl h
theorem makeT_no {p : List Nm} {dir : Bool} (h : (makeT S p dir).1.2 ≠ 0) : (makeT S p dir).2 = S := by
  unfold makeT at h ⊢
  split
  · rfl
  · next h1 =>
    rw [if_neg h1] at h
    split
    · rfl
    · next h2 =>
      rw [if_neg h2] at h
      split
      · rfl
      · next h3 => rw [if_neg h3] at h; exact absurd rfl h
theorem removeT_no {p : List Nm} {dir : Bool} (h : (removeT S p dir).1 ≠ 0) : (removeT S p dir).2 = S := by
  unfold removeT at h ⊢
  split
  · rfl
  · next h1 =>
    rw [if_neg h1] at h
    split
    · rfl
    · next j hj =>
      simp only [hj] at h
      split
      · rfl
      · next x hx =>
        simp only [hx] at h
        split
        · rfl
        · next h2 =>
          rw [if_neg h2] at h
          split
          · rfl
          · next h3 => rw [if_neg h3] at h; exact absurd rfl h
theorem writeT_no {i : Int} {k : Nat} {b : List UInt8} (h : (writeT S i k b).1 ≠ 0) : (writeT S i k b).2 = S := by
  unfold writeT at h ⊢
  split
  · rfl
  · next x e hx =>
    simp only [hx] at h
    split
    · rfl
    · next h1 =>
      rw [if_neg h1] at h
      split
      · rfl
      · next h2 => rw [if_neg h2] at h; exact absurd rfl h
theorem setAT_next (i : Int) (y : At) : (setAT S i y).2.next = S.next := by
  unfold setAT
  split
  · rfl
  · split
    · rfl
    · split
      · rfl
      · split
        · rfl
        · split <;> rfl
theorem removeT_next (p : List Nm) (dir : Bool) : (removeT S p dir).2.next = S.next := by
  unfold removeT
  split
  · rfl
  · split
    · rfl
    · split
      · rfl
      · split
        · rfl
        · split <;> rfl
end

theorem sizeT_filter (l : List Th) (p : Th → Bool) : sizeT (l.filter p) ≤ sizeT l := by
  induction l with
  | nil => exact Nat.le_refl _
  | cons x l ih =>
    rw [List.filter_cons]
    split
    · unfold sizeT at ih ⊢; simp only [List.map_cons, List.sum_cons]; omega
    · unfold sizeT at ih ⊢; simp only [List.map_cons, List.sum_cons]; omega
section
variable {S : Tr} {pa : Nat → Nat} {nm : Nat → Nm}
theorem Ok.remove (o : Ok S pa nm) {p : List Nm} {j : Nat} {xj : Th} (hpe : p ≠ []) (hj : walkT S.ths 0 p = some j) (hf : findT S.ths j = some xj) (hh : xj.h = []) :
    Ok ⟨(setT S.ths ((walkT S.ths 0 p.dropLast).getD 0) (cutH (lastN p))).filter fun y => !decide (y.id = j), S.next⟩ pa nm := by
  obtain ⟨hxj, hxje⟩ := (findT_some o.inc _ _).1 hf
  have hxje : xj.id = j := by omega
  obtain ⟨x1, hx1, b1, b2, b3, b4, b5⟩ := o.walk_holder hpe hj
  rw [b1, Option.getD_some]
  let g : Th → Th := fun z => if z.id = x1.id then cutH (lastN p) z else z
  have hset : setT S.ths x1.id (cutH (lastN p)) = S.ths.map g := rfl
  have g1 : ∀ z, (g z).id = z.id := fun z => by simp only [g]; split <;> rfl
  have g2 : ∀ z, (g z).dir = z.dir := fun z => by simp only [g]; split <;> rfl
  have g3 : ∀ z, (g z).a = z.a := fun z => by simp only [g]; split <;> rfl
  have g4 : ∀ z, (g z).d = z.d := fun z => by simp only [g]; split <;> rfl
  rw [hset]
  have hmem : ∀ y, y ∈ (S.ths.map g).filter (fun y => !decide (y.id = j)) ↔ ∃ z ∈ S.ths, y = g z ∧ z.id ≠ j := fun y => by
    rw [List.mem_filter, List.mem_map]
    constructor
    · rintro ⟨⟨z, h1, rfl⟩, h2⟩
      refine ⟨z, h1, rfl, ?_⟩
      simpa [g1] using h2
    · rintro ⟨z, h1, rfl, h2⟩
      exact ⟨⟨z, h1, rfl⟩, by simpa [g1] using h2⟩
  have hex : ∀ k, (∃ u ∈ (S.ths.map g).filter (fun y => !decide (y.id = j)), u.id = k) ↔ (∃ u ∈ S.ths, u.id = k) ∧ k ≠ j := fun k => by
    constructor
    · rintro ⟨u, hu, hk⟩
      obtain ⟨z, hz, rfl, hzj⟩ := (hmem u).1 hu
      rw [g1] at hk
      exact ⟨⟨z, hz, hk⟩, by rw [← hk]; exact hzj⟩
    · rintro ⟨⟨z, hz, hk⟩, hkj⟩
      exact ⟨g z, (hmem _).2 ⟨z, hz, rfl, by rw [hk]; exact hkj⟩, by rw [g1]; exact hk⟩
  have hcut : ∀ z ∈ S.ths, ∀ n k, (n, k) ∈ (g z).h ↔ (n, k) ∈ z.h ∧ k ≠ j := by
    intro z hz n k
    simp only [g]
    split
    · next e =>
      have : z = x1 := o.inc.uniq hz hx1 e
      subst this
      show (n, k) ∈ delH z.h (lastN p) ↔ _
      rw [mem_delH]
      constructor
      · rintro ⟨h1, h2⟩
        refine ⟨h1, fun h3 => h2 ?_⟩
        rw [h3] at h1
        exact (((o.held z hz n j).1 h1).2.2.2.symm).trans b5
      · rintro ⟨h1, h2⟩
        refine ⟨h1, fun h3 => h2 ?_⟩
        have h3' : n = lastN p := h3
        rw [h3'] at h1
        have := (getH_some (o.srt z hz) _ k).2 h1
        rw [b2] at this
        exact (Option.some.inj this).symm
    · next e =>
      constructor
      · intro h1
        refine ⟨h1, fun h3 => e ?_⟩
        rw [h3] at h1
        rw [← b4]
        exact ((o.held z hz n j).1 h1).2.2.1.symm
      · exact fun h => h.1
  have hleaf : ∀ z ∈ S.ths, z.id ≠ 0 → pa z.id ≠ j := by
    intro z hz h0 e
    have := (o.held xj hxj (nm z.id) z.id).2 ⟨h0, ⟨z, hz, rfl⟩, by rw [e, hxje], rfl⟩
    rw [hh] at this
    cases this
  refine ⟨?_, ?_, ?_, ?_, ?_, ?_, ?_, ?_, ?_, ?_, ?_, ?_, ?_⟩
  · obtain ⟨r, t, h1, h2, h3⟩ := o.root
    refine ⟨g r, (t.map g).filter fun y => !decide (y.id = j), ?_, by rw [g1, h2], by rw [g2, h3]⟩
    show (S.ths.map g).filter _ = _
    rw [h1, List.map_cons, List.filter_cons, if_pos (by rw [g1, h2]; simp; omega)]
  · refine List.Pairwise.filter _ (inc_ids (l := S.ths) ?_ o.inc)
    rw [List.map_map]
    exact List.map_congr_left fun z _ => g1 z
  · intro y hy
    obtain ⟨z, hz, rfl, _⟩ := (hmem y).1 hy
    rw [g1]; exact o.lt z hz
  · intro y hy h0
    obtain ⟨z, hz, rfl, _⟩ := (hmem y).1 hy
    rw [g1] at h0 ⊢
    obtain ⟨q, hq, hq1, hq2⟩ := o.par z hz h0
    exact ⟨g q, (hmem _).2 ⟨q, hq, rfl, by rw [hq1]; exact hleaf z hz h0⟩, by rw [g1]; exact hq1, by rw [g2]; exact hq2⟩
  · obtain ⟨rk, hrk⟩ := o.rank
    refine ⟨rk, fun y hy h0 => ?_⟩
    obtain ⟨z, hz, rfl, _⟩ := (hmem y).1 hy
    rw [g1] at h0 ⊢
    exact hrk z hz h0
  · intro y hy y' hy' h0 k0 e1 e2
    obtain ⟨z, hz, rfl, _⟩ := (hmem y).1 hy
    obtain ⟨z', hz', rfl, _⟩ := (hmem y').1 hy'
    rw [g1] at h0 k0
    rw [g1, g1] at e1 e2 ⊢
    exact o.sib z hz z' hz' h0 k0 e1 e2
  · intro y hy h0
    obtain ⟨z, hz, rfl, _⟩ := (hmem y).1 hy
    rw [g1] at h0 ⊢
    exact o.right z hz h0
  · intro y hy n k
    obtain ⟨z, hz, rfl, _⟩ := (hmem y).1 hy
    rw [g1, hcut z hz, o.held z hz]
    show _ ↔ k ≠ 0 ∧ (∃ u ∈ (S.ths.map g).filter (fun y => !decide (y.id = j)), u.id = k) ∧ _
    rw [hex]
    constructor
    · rintro ⟨⟨c1, c2, c3, c4⟩, c5⟩; exact ⟨c1, ⟨c2, c5⟩, c3, c4⟩
    · rintro ⟨c1, ⟨c2, c5⟩, c3, c4⟩; exact ⟨⟨c1, c2, c3, c4⟩, c5⟩
  · intro y hy
    obtain ⟨z, hz, rfl, _⟩ := (hmem y).1 hy
    simp only [g]
    split
    · exact delH_srt (o.srt z hz) _
    · exact o.srt z hz
  · intro y hy hd
    obtain ⟨z, hz, rfl, _⟩ := (hmem y).1 hy
    rw [g2] at hd
    rw [g4]; exact o.file z hz hd
  · intro y hy
    obtain ⟨z, hz, rfl, _⟩ := (hmem y).1 hy
    rw [g4, g3]; exact o.att z hz
  · refine Nat.le_trans (List.length_filter_le _ _) ?_
    rw [List.length_map]; exact o.cnt
  · refine Nat.le_trans (sizeT_filter _ _) ?_
    have : sizeT (S.ths.map g) = sizeT S.ths := by
      unfold sizeT
      rw [List.map_map]
      congr 1
      exact List.map_congr_left fun z _ => by simp only [Function.comp]; rw [g4]
    rw [this]; exact o.bytes
theorem Ok.removes (o : Ok S pa nm) (p : List Nm) (dir : Bool) : Ok (removeT S p dir).2 pa nm := by
  unfold removeT
  split
  · exact o
  · next h1 =>
    split
    · exact o
    · next j hj =>
      split
      · exact o
      · next x hx =>
        split
        · exact o
        · split
          · exact o
          · next h3 => exact o.remove h1 hj hx (Classical.not_not.1 h3)
end

/-- The numbers of a thing and of all below it, so deep and no deeper. -/
def idsO (l : List Th) : Nat → Nat → List Nat
  | 0, _ => []
  | F + 1, i => match findT l i with
    | none => []
    | some x => i :: x.h.flatMap fun e => idsO l F e.2
theorem idsO_eq {l : List Th} {F i : Nat} {x : Th} (h : findT l i = some x) : idsO l (F + 1) i = i :: x.h.flatMap fun e => idsO l F e.2 := by
  rw [idsO, h]
section
variable {S : Tr} {pa : Nat → Nat} {nm : Nat → Nm}
theorem Ok.walk_cons (o : Ok S pa nm) {x : Th} (hx : x ∈ S.ths) {e : Nm × Nat} (he : e ∈ x.h) (q : List Nm) : walkT S.ths x.id (e.1 :: q) = walkT S.ths e.2 q := by
  rw [walkT, findT_nat o.inc hx rfl]
  simp only
  rw [(getH_some (o.srt x hx) e.1 e.2).2 he]
theorem Ok.ids_mem (o : Ok S pa nm) : ∀ (F : Nat) (x : Th), x ∈ S.ths → ∀ k, k ∈ idsO S.ths F x.id ↔ ∃ q, q.length < F ∧ walkT S.ths x.id q = some k := by
  intro F
  induction F with
  | zero =>
    intro x _ k
    constructor
    · intro h; cases h
    · rintro ⟨q, h, _⟩; omega
  | succ F ih =>
    intro x hx k
    rw [idsO_eq (findT_nat o.inc hx rfl), List.mem_cons, List.mem_flatMap]
    constructor
    · rintro (rfl | ⟨e, he, hk⟩)
      · exact ⟨[], by simp, rfl⟩
      · obtain ⟨_, ⟨y, hy, hye⟩, _⟩ := (o.held x hx e.1 e.2).1 he
        rw [← hye] at hk
        obtain ⟨q, hq, hw⟩ := (ih y hy k).1 hk
        exact ⟨e.1 :: q, by simpa using hq, by rw [o.walk_cons hx he, ← hye]; exact hw⟩
    · rintro ⟨q, hq, hw⟩
      cases q with
      | nil => cases hw; exact .inl rfl
      | cons n q =>
        rw [walkT, findT_nat o.inc hx rfl] at hw
        simp only at hw
        cases hg : getH x.h n with
        | none => rw [hg] at hw; cases hw
        | some j =>
          rw [hg] at hw
          obtain ⟨_, ⟨y, hy, hye⟩, _⟩ := o.mem_child hx hg
          refine .inr ⟨(n, j), (getH_some (o.srt x hx) n j).1 hg, ?_⟩
          simp only
          rw [← hye]
          exact (ih y hy k).2 ⟨q, by simp at hq; omega, by rw [hye]; exact hw⟩
theorem Ok.ids_nodup (o : Ok S pa nm) : ∀ (F : Nat) (p : List Nm) (x : Th), x ∈ S.ths → walkT S.ths 0 p = some x.id → (idsO S.ths F x.id).Nodup := by
  intro F
  induction F with
  | zero => intro _ _ _ _; exact List.nodup_nil
  | succ F ih =>
    intro p x hx hp
    have below : ∀ e ∈ x.h, ∀ k ∈ idsO S.ths F e.2, ∃ q, walkT S.ths 0 (p ++ e.1 :: q) = some k := by
      intro e he k hk
      obtain ⟨_, ⟨y, hy, hye⟩, _⟩ := (o.held x hx e.1 e.2).1 he
      rw [← hye] at hk
      obtain ⟨q, _, hw⟩ := (o.ids_mem F y hy k).1 hk
      exact ⟨q, by rw [walk_append, hp]; show walkT S.ths x.id (e.1 :: q) = _; rw [o.walk_cons hx he, ← hye]; exact hw⟩
    rw [idsO_eq (findT_nat o.inc hx rfl), List.nodup_cons]
    constructor
    · intro h
      obtain ⟨e, he, hk⟩ := List.mem_flatMap.1 h
      obtain ⟨q, hq⟩ := below e he _ hk
      have h2 := congrArg List.length (o.inj _ _ _ _ (Nat.le_refl _) hp hq)
      simp at h2
    · refine List.pairwise_flatMap.2 ⟨fun e he => ?_, ?_⟩
      · obtain ⟨_, ⟨y, hy, hye⟩, _⟩ := (o.held x hx e.1 e.2).1 he
        rw [← hye]
        exact ih (p ++ [e.1]) y hy (by rw [walk_append, hp]; show walkT S.ths x.id [e.1] = _; rw [o.walk_cons hx he, hye]; rfl)
      · refine List.Pairwise.imp_of_mem ?_ (o.srt x hx)
        intro e e' he he' hlt k hk k' hk' hkk
        subst hkk
        obtain ⟨q, hq⟩ := below e he _ hk
        obtain ⟨q', hq'⟩ := below e' he' _ hk'
        have h2 := o.inj _ _ _ _ (Nat.le_refl _) hq hq'
        have h3 := List.append_cancel_left h2
        exact nlt_ne hlt (List.cons.inj h3).1
/-- How deep each thing lies. -/
structure Dep (S : Tr) (pa : Nat → Nat) (dp : Nat → Nat) : Prop where
  zero : dp 0 = 0
  up : ∀ x ∈ S.ths, x.id ≠ 0 → dp x.id = dp (pa x.id) + 1
  low : ∀ x ∈ S.ths, dp x.id ≤ 5
theorem Ok.path (o : Ok S pa nm) {dp : Nat → Nat} (d : Dep S pa dp) : ∀ (n : Nat) (x : Th), x ∈ S.ths → dp x.id ≤ n → ∃ p, p.length = dp x.id ∧ walkT S.ths 0 p = some x.id := by
  intro n
  induction n with
  | zero =>
    intro x hx hn
    by_cases h0 : x.id = 0
    · exact ⟨[], by rw [h0, d.zero]; rfl, by rw [h0]; rfl⟩
    · have := d.up x hx h0; omega
  | succ n ih =>
    intro x hx hn
    by_cases h0 : x.id = 0
    · exact ⟨[], by rw [h0, d.zero]; rfl, by rw [h0]; rfl⟩
    · have h1 := d.up x hx h0
      obtain ⟨q, hq, hqe, _⟩ := o.par x hx h0
      obtain ⟨p, hp, hw⟩ := ih q hq (by rw [hqe]; omega)
      refine ⟨p ++ [nm x.id], by rw [List.length_append, hp, hqe, h1]; rfl, ?_⟩
      rw [walk_snoc, hw]
      simp only [findT_nat o.inc hq rfl]
      exact (getH_some (o.srt q hq) _ _).2 ((o.held q hq _ _).2 ⟨h0, ⟨x, hx, rfl⟩, hqe.symm, rfl⟩)
/-- From the root on each thing is found once. -/
theorem Ok.ids_perm (o : Ok S pa nm) {dp : Nat → Nat} (d : Dep S pa dp) {F : Nat} (hF : 6 ≤ F) : (idsO S.ths F 0).Perm (S.ths.map (·.id)) := by
  obtain ⟨r, hr, hr0⟩ := o.rootMem
  have hn := o.ids_nodup F [] r hr (by rw [hr0]; rfl)
  rw [hr0] at hn
  have hi : (S.ths.map (·.id)).Nodup := by
    refine List.pairwise_map.2 (List.Pairwise.imp ?_ o.inc)
    intro a b hab
    omega
  rw [List.perm_ext_iff_of_nodup hn hi]
  intro k
  have hm := o.ids_mem F r hr k
  rw [hr0] at hm
  rw [hm, List.mem_map]
  constructor
  · rintro ⟨q, _, hw⟩
    obtain ⟨x, hx, hxe⟩ := o.walk_mem q 0 o.rootMem k hw
    exact ⟨x, hx, hxe⟩
  · rintro ⟨x, hx, rfl⟩
    obtain ⟨p, hp, hw⟩ := o.path d _ x hx (Nat.le_refl _)
    exact ⟨p, by have := d.low x hx; omega, hw⟩
theorem Ok.ids_count (o : Ok S pa nm) {dp : Nat → Nat} (d : Dep S pa dp) {F : Nat} (hF : 6 ≤ F) : (idsO S.ths F 0).length = S.ths.length := by
  rw [(o.ids_perm d hF).length_eq, List.length_map]
/-- So the bytes of all, too. -/
theorem Ok.ids_size (o : Ok S pa nm) {dp : Nat → Nat} (d : Dep S pa dp) {F : Nat} (hF : 6 ≤ F) : ((idsO S.ths F 0).map fun k => (attrsOf S k).s).sum = sizeT S.ths := by
  rw [((o.ids_perm d hF).map _).sum_nat, List.map_map]
  unfold sizeT
  congr 1
  apply List.map_congr_left
  intro x hx
  simp only [Function.comp, attrsOf]
  rw [findT_nat o.inc hx rfl]
  exact (o.att x hx).2.2
end

/-- A tree of no more than five names from the root on. -/
def Tall (S : Tr) : Prop := ∃ pa nm dp, Ok S pa nm ∧ Dep S pa dp
section
variable {S : Tr} {pa : Nat → Nat} {nm : Nat → Nm}
theorem Ok.depth (o : Ok S pa nm) {dp : Nat → Nat} (d : Dep S pa dp) {p : List Nm} {x : Th} (hx : x ∈ S.ths) (hw : walkT S.ths 0 p = some x.id) : p.length = dp x.id := by
  obtain ⟨q, h1, h2⟩ := o.path d _ x hx (Nat.le_refl _)
  rw [o.inj _ _ _ _ (Nat.le_refl _) hw h2, h1]
theorem tall_new : Tall newTr := by
  refine ⟨_, _, fun _ => 0, new_ok, rfl, fun x hx h => absurd (by rw [List.mem_singleton.1 hx]; rfl) h, fun _ _ => Nat.zero_le _⟩
theorem Tall.make (h : Tall S) (p : List Nm) (dir : Bool) (hp : p.length ≤ 5) : Tall (makeT S p dir).2 := by
  obtain ⟨pa, nm, dp, o, d⟩ := h
  unfold makeT
  split
  · exact ⟨pa, nm, dp, o, d⟩
  · next hpe =>
    split
    · exact ⟨pa, nm, dp, o, d⟩
    · next hr =>
      split
      · exact ⟨pa, nm, dp, o, d⟩
      · next hc =>
        obtain ⟨i, hi⟩ := roomT_zero (Classical.not_not.1 hr)
        obtain ⟨_, hw, x, hx, hxi, _⟩ := roomT_ok o hi
        obtain ⟨ok, _⟩ := o.make hi (by omega) dir
        rw [hi]
        have hdi := o.depth d hx (by rw [hxi]; exact hw)
        rw [hxi] at hdi
        have hlt := o.lt x hx
        have hpl : p.dropLast.length ≤ 4 := by rw [List.length_dropLast]; omega
        have hn0 : S.next ≠ 0 := by
          obtain ⟨r, h1, h2⟩ := o.rootMem
          have := o.lt r h1
          omega
        have hids : ∀ y ∈ setT S.ths i (putH (lastN p) S.next) ++ [newT S.next dir], (∃ z ∈ S.ths, y.id = z.id) ∨ y.id = S.next := by
          intro y hy
          rcases List.mem_append.1 hy with hy | hy
          · obtain ⟨z, hz, rfl⟩ := mem_setT.1 hy
            exact .inl ⟨z, hz, by split <;> rfl⟩
          · rw [List.mem_singleton.1 hy]; exact .inr rfl
        refine ⟨_, _, upd dp S.next (dp i + 1), ok, ?_, ?_, ?_⟩
        · rw [upd_ne _ _ (fun e => hn0 e.symm), d.zero]
        · intro y hy h0
          rcases hids y hy with ⟨z, hz, e⟩ | e
          · rw [e] at h0 ⊢
            have h1 := o.lt z hz
            obtain ⟨q, hq, hqe, _⟩ := o.par z hz h0
            have h2 := o.lt q hq
            rw [upd_ne _ _ (by omega), upd_ne pa _ (by omega), upd_ne _ _ (by omega)]
            exact d.up z hz h0
          · rw [e, upd_self, upd_self, upd_ne _ _ (by omega)]
        · intro y hy
          rcases hids y hy with ⟨z, hz, e⟩ | e
          · have h1 := o.lt z hz
            rw [e, upd_ne _ _ (by omega)]
            exact d.low z hz
          · rw [e, upd_self]; omega
theorem Tall.write (h : Tall S) (i : Int) (k : Nat) (b : List UInt8) : Tall (writeT S i k b).2 := by
  obtain ⟨pa, nm, dp, o, d⟩ := h
  have hids : ∀ y ∈ (writeT S i k b).2.ths, ∃ z ∈ S.ths, y.id = z.id := by
    unfold writeT
    split
    · exact fun y hy => ⟨y, hy, rfl⟩
    · split
      · exact fun y hy => ⟨y, hy, rfl⟩
      · split
        · exact fun y hy => ⟨y, hy, rfl⟩
        · intro y hy
          obtain ⟨z, hz, rfl⟩ := mem_setT.1 hy
          have : ∃ u ∈ S.ths, z.id = u.id := by
            split at hz
            · obtain ⟨u, hu, rfl⟩ := mem_setT.1 hz
              exact ⟨u, hu, by split <;> rfl⟩
            · exact ⟨z, hz, rfl⟩
          obtain ⟨u, hu, e⟩ := this
          exact ⟨u, hu, by rw [← e]; split <;> rfl⟩
  refine ⟨pa, nm, dp, o.write i k b, d.zero, fun y hy h0 => ?_, fun y hy => ?_⟩
  · obtain ⟨z, hz, e⟩ := hids y hy
    rw [e] at h0 ⊢
    exact d.up z hz h0
  · obtain ⟨z, hz, e⟩ := hids y hy
    rw [e]; exact d.low z hz
end

/-- So many things, and so many bytes, below the entries h. -/
def cntH (l : List Th) (F : Nat) (h : HL) : Nat := (h.flatMap fun e => idsO l F e.2).length
def sumH (S : Tr) (F : Nat) (h : HL) : Nat := ((h.flatMap fun e => idsO S.ths F e.2).map fun k => (attrsOf S k).s).sum
def cntO (l : List Th) (F i : Nat) : Nat := (idsO l F i).length
def sumO (S : Tr) (F i : Nat) : Nat := ((idsO S.ths F i).map fun k => (attrsOf S k).s).sum
theorem cntH_take (l : List Th) (F : Nat) (h : HL) (k : Nat) (hk : k < h.length) : cntH l F (h.take (k + 1)) = cntH l F (h.take k) + cntO l F (h[k]).2 := by
  unfold cntH cntO
  rw [List.take_succ_eq_append_getElem hk, List.flatMap_append, List.length_append]
  simp
theorem sumH_take (S : Tr) (F : Nat) (h : HL) (k : Nat) (hk : k < h.length) : sumH S F (h.take (k + 1)) = sumH S F (h.take k) + sumO S F (h[k]).2 := by
  unfold sumH sumO
  rw [List.take_succ_eq_append_getElem hk, List.flatMap_append, List.map_append, List.sum_append]
  simp
section
variable {S : Tr} {pa : Nat → Nat} {nm : Nat → Nm}
theorem Ok.cntO_eq (o : Ok S pa nm) {x : Th} (hx : x ∈ S.ths) (F : Nat) : cntO S.ths (F + 1) x.id = 1 + cntH S.ths F x.h := by
  unfold cntO cntH
  rw [idsO_eq (findT_nat o.inc hx rfl), List.length_cons]
  omega
theorem Ok.sumO_eq (o : Ok S pa nm) {x : Th} (hx : x ∈ S.ths) (F : Nat) : sumO S (F + 1) x.id = x.d.length + sumH S F x.h := by
  unfold sumO sumH
  rw [idsO_eq (findT_nat o.inc hx rfl), List.map_cons, List.sum_cons]
  congr 1
  rw [attrsOf, findT_nat o.inc hx rfl]
  exact (o.att x hx).2.2
/-- A directory has no bytes, a file holds nothing. -/
theorem Ok.sumO_dir (o : Ok S pa nm) {x : Th} (hx : x ∈ S.ths) (hd : x.dir = true) (F : Nat) : sumO S (F + 1) x.id = sumH S F x.h := by
  rw [o.sumO_eq hx, o.file x hx hd]
  simp
theorem Ok.cntO_file (o : Ok S pa nm) {x : Th} (hx : x ∈ S.ths) (hd : x.dir = false) (F : Nat) : cntO S.ths (F + 1) x.id = 1 ∧ sumO S (F + 1) x.id = x.d.length := by
  rw [o.cntO_eq hx, o.sumO_eq hx, o.holds hx hd]
  exact ⟨rfl, rfl⟩
/-- The whole: all things, all bytes. -/
theorem Tall.whole (h : Tall S) {F : Nat} (hF : 6 ≤ F) : cntO S.ths F 0 = S.ths.length ∧ sumO S F 0 = sizeT S.ths := by
  obtain ⟨pa, nm, dp, o, d⟩ := h
  exact ⟨o.ids_count d hF, o.ids_size d hF⟩
end

theorem box11_a {w : World} {b : Nat} {t : TypeId} {v0 v1 v2 v3 v4 v5 v6 v7 v8 v9 v10 : Value} (h : w.heap[b]? = some (.cells #[v0, v1, v2, v3, v4, v5, v6, v7, v8, v9, v10] t (0, 0))) (u2 u3 u4 u5 u6 u7 u8 : Value) :
    (w.setCells b 2 [u2, u3, u4, u5, u6, u7, u8]).heap[b]? = some (.cells #[v0, v1, u2, u3, u4, u5, u6, u7, u8, v9, v10] t (0, 0)) := by
  have h1 : (w.setCell ⟨b, 2, none⟩ u2).heap[b]? = some (.cells #[v0, v1, u2, v3, v4, v5, v6, v7, v8, v9, v10] t (0, 0)) := by rw [heap_setCell_same _ _ _ _ _ _ h]; rfl
  generalize hw1 : w.setCell ⟨b, 2, none⟩ u2 = w1 at h1
  have h2 : (w1.setCell ⟨b, 3, none⟩ u3).heap[b]? = some (.cells #[v0, v1, u2, u3, v4, v5, v6, v7, v8, v9, v10] t (0, 0)) := by rw [heap_setCell_same _ _ _ _ _ _ h1]; rfl
  generalize hw2 : w1.setCell ⟨b, 3, none⟩ u3 = w2 at h2
  have h3 : (w2.setCell ⟨b, 4, none⟩ u4).heap[b]? = some (.cells #[v0, v1, u2, u3, u4, v5, v6, v7, v8, v9, v10] t (0, 0)) := by rw [heap_setCell_same _ _ _ _ _ _ h2]; rfl
  generalize hw3 : w2.setCell ⟨b, 4, none⟩ u4 = w3 at h3
  have h4 : (w3.setCell ⟨b, 5, none⟩ u5).heap[b]? = some (.cells #[v0, v1, u2, u3, u4, u5, v6, v7, v8, v9, v10] t (0, 0)) := by rw [heap_setCell_same _ _ _ _ _ _ h3]; rfl
  generalize hw4 : w3.setCell ⟨b, 5, none⟩ u5 = w4 at h4
  have h5 : (w4.setCell ⟨b, 6, none⟩ u6).heap[b]? = some (.cells #[v0, v1, u2, u3, u4, u5, u6, v7, v8, v9, v10] t (0, 0)) := by rw [heap_setCell_same _ _ _ _ _ _ h4]; rfl
  generalize hw5 : w4.setCell ⟨b, 6, none⟩ u6 = w5 at h5
  have h6 : (w5.setCell ⟨b, 7, none⟩ u7).heap[b]? = some (.cells #[v0, v1, u2, u3, u4, u5, u6, u7, v8, v9, v10] t (0, 0)) := by rw [heap_setCell_same _ _ _ _ _ _ h5]; rfl
  generalize hw6 : w5.setCell ⟨b, 7, none⟩ u7 = w6 at h6
  have h7 : (w6.setCell ⟨b, 8, none⟩ u8).heap[b]? = some (.cells #[v0, v1, u2, u3, u4, u5, u6, u7, u8, v9, v10] t (0, 0)) := by rw [heap_setCell_same _ _ _ _ _ _ h6]; rfl
  rw [← h7, ← hw6, ← hw5, ← hw4, ← hw3, ← hw2, ← hw1]
  rfl
theorem ThB.setA {w : World} {x : Th} {b : Nat} {dv hv : Value} (h : ThB w x b dv hv) (y : At) : ThB (w.setCells b 2 [.int .u32 y.f, .int .u64 y.s, .int .u32 y.u, .int .u32 y.g, .int .u32 y.m, .int .u32 y.a, .int .u32 y.t]) { x with a := y } b dv hv := box11_a h _ _ _ _ _ _ _

section
variable {w : World} {R : Nat → Role} {a : Nat} {S : Tr} {B : Nat → Nat} {dv hv : Nat → Value} {tv : Value} {pa : Nat → Nat} {nm : Nat → Nm}
/-- A thing's attributes, stored anew. -/
theorem TXb.told (H : TXb w R a S B dv hv tv) (hi : Inc S.ths) {x : Th} (hx : x ∈ S.ths) (y : At) :
    ∃ R' dv' hv', TXb (w.setCells (B x.id) 2 [.int .u32 (mergeA x.a y).f, .int .u64 (mergeA x.a y).s, .int .u32 (mergeA x.a y).u, .int .u32 (mergeA x.a y).g, .int .u32 (mergeA x.a y).m, .int .u32 (mergeA x.a y).a, .int .u32 (mergeA x.a y).t]) R' a ⟨setT S.ths x.id (mrgF y), S.next⟩ B dv' hv' tv ∧ Moved R R' w (w.setCells (B x.id) 2 [.int .u32 (mergeA x.a y).f, .int .u64 (mergeA x.a y).s, .int .u32 (mergeA x.a y).u, .int .u32 (mergeA x.a y).g, .int .u32 (mergeA x.a y).m, .int .u32 (mergeA x.a y).a, .int .u32 (mergeA x.a y).t]) := by
  have hk := setCells_keeps (g := B x.id) [.int .u32 (mergeA x.a y).f, .int .u64 (mergeA x.a y).s, .int .u32 (mergeA x.a y).u, .int .u32 (mergeA x.a y).g, .int .u32 (mergeA x.a y).m, .int .u32 (mergeA x.a y).a, .int .u32 (mergeA x.a y).t] 2 w
  have ht := (H.th x hx).setA (mergeA x.a y)
  have hrb := H.rth x hx
  generalize w.setCells (B x.id) 2 [.int .u32 (mergeA x.a y).f, .int .u64 (mergeA x.a y).s, .int .u32 (mergeA x.a y).u, .int .u32 (mergeA x.a y).g, .int .u32 (mergeA x.a y).m, .int .u32 (mergeA x.a y).a, .int .u32 (mergeA x.a y).t] = w' at hk ht ⊢
  obtain ⟨R', h1, h2⟩ := H.one hi hx (mrgF y) (fun _ => rfl) (dv' := dv x.id) (hv' := hv x.id) hk (fun k _ h => .inl (by rw [h]; exact hrb))
    (by
      rw [setT_size (f := mrgF y) fun _ => rfl]
      exact top_keep H.top hk (fun h => by have h1 := H.ra; rw [h, hrb] at h1; cases h1)) ht
    ((H.dat x hx).keep hk fun k e h => by have h1 := H.rdat x hx k e; rw [h, hrb] at h1; cases h1)
    ((H.hel x hx).keep hk fun k e h => by have h1 := H.rhel x hx k e; rw [h, hrb] at h1; cases h1)
    (fun k e => .inl ⟨(H.dat x hx).lt k e, H.rdat x hx k e⟩) (fun k e => .inl ⟨(H.hel x hx).lt k e, H.rhel x hx k e⟩)
    (fun k h1 _ h3 => by have := (H.hel x hx).lt k h3; omega)
  exact ⟨R', _, _, h1, h2, hk.mono fun k _ h => by rw [h, hrb]; intro e; cases e⟩

set_option maxHeartbeats 4000000 in
set_option maxRecDepth 100000 in
theorem set_c (H : TXb w R a S B dv hv tv) (o : Ok S pa nm) (i : Int) (y : At) (hy : y.Ok) :
    Calls Try.prog 16 #[.pointer (some ⟨a, 0, none⟩), .int .i64 i, y.v] w (TPost R a (setAT S i y).2 (.int .i64 (setAT S i y).1) w) := by
  have HH := hidden H
  have HX : Hid (TX w R a S) := ⟨B, dv, hv, tv, H⟩
  have HR : Hid (setAT S i y = match findT S.ths i with
    | none => (22, S)
    | some x => if rightA y = false then (1, S) else if bt 1 y.f = false then (0, ⟨setT S.ths x.id (mrgF y), S.next⟩)
      else if x.dir then (23, S) else if hasRoom S x y.s ≠ 0 then (hasRoom S x y.s, S)
      else (0, ⟨setT (setT S.ths x.id (sizeF y.s)) x.id (mrgF y), S.next⟩)) := rfl
  generalize setAT S i y = rr at HR ⊢
  have HO := hidden o
  have HY := hidden hy
  have ha1 : bits BinOp.and IntKind.u32 (y.f : Int) 1 = if bt 1 y.f then 1 else 0 := and_bit y.f 1 hy.f (.inl rfl)
  have HF := hidden (fun (W : World) (HW : TXb W R a S B dv hv tv) => find_c HW o i)
  have HM := hidden (fun (W : World) (HW : TXb W R a S B dv hv tv) (x : Th) (hx : x ∈ S.ths) (n : Nat) => mayHave_c HW hx o.bytes (by have := sizeT_at o.inc hx; omega) n)
  have HZ := hidden (fun (W : World) (HW : TXb W R a S B dv hv tv) (x : Th) (hx : x ∈ S.ths) (n : Nat) (hn : n ≤ 1048576) => resize_c HW o.inc hx (o.att x hx).2.2 o.bytes n hn)
  have HRT := hidden (fun (W : World) => right_c y hy W)
  have HMG : Hid (∀ (W : World) (x : Th), x ∈ S.ths → ∀ z M : At, z.Ok → M = mergeA z y → Calls Try.prog 43 #[.agg #[.int .u32 z.f, .int .u64 z.s, .int .u32 z.u, .int .u32 z.g, .int .u32 z.m, .int .u32 z.a, .int .u32 z.t], .agg #[.int .u32 y.f, .int .u64 y.s, .int .u32 y.u, .int .u32 y.g, .int .u32 y.m, .int .u32 y.a, .int .u32 y.t]] W fun e w' => e = .returned (.agg #[.int .u32 M.f, .int .u64 M.s, .int .u32 M.u, .int .u32 M.g, .int .u32 M.m, .int .u32 M.a, .int .u32 M.t]) ∧ Below W.heap.size W w') := fun W x hx z M hz e => by subst e; exact merge_c z y hz hy W
  rw [show y.v = .agg #[.int .u32 y.f, .int .u64 y.s, .int .u32 y.u, .int .u32 y.g, .int .u32 y.m, .int .u32 y.a, .int .u32 y.t] from rfl] at HRT ⊢
  clear H o
  go_enter Try.func16, Try.ntmps16
  go_wp2_with fail
  have hkA := (Keeps.refl (fun _ => False) w).alloc (.cells #[.int .u32 y.f, .int .u64 y.s, .int .u32 y.u, .int .u32 y.g, .int .u32 y.m, .int .u32 y.a, .int .u32 y.t] 30)
  have hblk := heap_alloc_new w (.cells #[.int .u32 y.f, .int .u64 y.s, .int .u32 y.u, .int .u32 y.g, .int .u32 y.m, .int .u32 y.a, .int .u32 y.t] 30)
  have HHA := hidden (HH.out.still hkA)
  have HXA := hidden (HX.out.still hkA)
  have hbno : R w.heap.size = .no := by
    by_cases e : R w.heap.size = .no
    · exact e
    · have := HH.out.lim _ e; omega
  have HKA := hidden hkA
  have hg0 := lt_of_block hblk
  generalize w.alloc (.cells #[.int .u32 y.f, .int .u64 y.s, .int .u32 y.u, .int .u32 y.g, .int .u32 y.m, .int .u32 y.a, .int .u32 y.t] 30) = wA at hblk HHA HXA HKA hg0 ⊢
  generalize w.heap.size = gA at hblk hbno hg0 ⊢
  clear hkA
  have HMV : Hid (∀ {R' : Nat → Role} {w' : World}, Moved R R' wA w' → Moved R R' w w') := fun {R' w'} hm => Moved.trans ⟨fun _ _ => rfl, HKA.out.mono fun _ _ h => h.elim⟩ hm
  refine (HF.out wA HHA.out).mono ?_
  rintro e w1 ⟨rfl, hb1⟩
  have HB1 := hidden hb1
  have HH1 := hidden (HHA.out.fresh hb1)
  have hblk1 := (hb1.block _ hg0).trans hblk
  have hg1 : gA < w1.heap.size := Nat.lt_of_lt_of_le hg0 hb1.size
  clear hb1 hblk
  cases hf : findT S.ths i with
  | none =>
    have hr := HR.out
    rw [hf] at hr
    simp only at hr
    subst hr
    rw [show ptrT B none = .pointer none from rfl]
    clear HR hf
    go_wp2_with fail
    go_ret
    exact ⟨rfl, R, HXA.out.fresh HB1.out, HMV.out (Moved.fresh HB1.out)⟩
  | some x =>
    obtain ⟨hx, _⟩ := (findT_some HO.out.inc _ _).1 hf
    have hr := HR.out
    rw [hf] at hr
    simp only at hr
    rw [show ptrT B (some x) = .pointer (some ⟨B x.id, 0, none⟩) from rfl]
    have HXM := hidden hx
    have HR2 := hidden hr
    obtain ⟨c0, c1, c2, c3, c4, c5, c6, _⟩ := cells7 hblk1
    clear HR hf hx hr
    go_wp2_with fail
    refine (HRT.out w1).mono ?_
    rintro e w2 ⟨rfl, hb2⟩
    have HB2 := hidden (HB1.out.trans (hb2.mono HB1.out.size))
    have HH2 := hidden (HH1.out.fresh hb2)
    have hblk2 := (hb2.block _ hg1).trans hblk1
    have hg2 : gA < w2.heap.size := Nat.lt_of_lt_of_le hg1 hb2.size
    clear hb2 hblk1 c0 c1 c2 c3 c4 c5 c6
    cases hrt : rightA y with
    | false =>
      have hr := HR2.out
      rw [if_pos hrt] at hr
      subst hr
      go_wp2_with fail
      go_ret
      exact ⟨rfl, R, HXA.out.fresh HB2.out, HMV.out (Moved.fresh HB2.out)⟩
    | true =>
      obtain ⟨c0, c1, c2, c3, c4, c5, c6, _⟩ := cells7 hblk2
      cases hb1 : bt 1 y.f with
      | false =>
        have hr := HR2.out
        rw [if_neg (by rw [hrt]; simp), if_pos hb1] at hr
        rw [hb1] at ha1
        simp only [Bool.false_eq_true, if_false] at ha1
        subst hr
        obtain ⟨j2, j3, j4, j5, j6, j7, j8⟩ := (HH2.out.th x HXM.out).ca
        obtain ⟨M, hM⟩ : ∃ M, M = mergeA x.a y := ⟨_, rfl⟩
        have HMM := hidden hM
        clear hM
        have HC := hidden (fun (W : World) (hb : Below w2.heap.size w2 W) => (show (∀ j, W.frozen? ⟨B x.id, j, none⟩ = false) ∧ _ from ⟨((HH2.out.fresh hb).th x HXM.out).fz, ((HH2.out.fresh hb).th x HXM.out).ca⟩))
        go_wp2_with fail
        go_region_with (go_at_call 43; refine (HMG.out w2.drew x HXM.out x.a M (HO.out.att x HXM.out).1 HMM.out).mono ?_; rintro e w3 ⟨rfl, hb3⟩; have HB3 := hidden (((Below.refl w2.heap.size w2).drew).trans hb3); obtain ⟨kf, m2, m3, m4, m5, m6, m7, m8⟩ := HC.out w3 HB3.out; clear hb3)
        all_goals
          obtain ⟨R', dv', hv', hX, hmv⟩ := (HH2.out.fresh HB3.out).told HO.out.inc HXM.out y
          rw [← HMM.out] at hX hmv
          have HF1 : Hid (∃ R', TX (w3.setCells (B x.id) 2 [.int .u32 M.f, .int .u64 M.s, .int .u32 M.u, .int .u32 M.g, .int .u32 M.m, .int .u32 M.a, .int .u32 M.t]) R' a ⟨setT S.ths x.id (mrgF y), S.next⟩ ∧ Moved R R' w (w3.setCells (B x.id) 2 [.int .u32 M.f, .int .u64 M.s, .int .u32 M.u, .int .u32 M.g, .int .u32 M.m, .int .u32 M.a, .int .u32 M.t])) := ⟨R', ⟨_, _, _, _, hX⟩, HMV.out (((Moved.fresh HB2.out).trans (Moved.fresh HB3.out)).trans hmv)⟩
          clear hX hmv
          go_wp2_with fail
          go_ret
          exact ⟨rfl, HF1.out⟩
      | true =>
        rw [hb1] at ha1
        simp only [if_true] at ha1
        have k1 := (HH2.out.th x HXM.out).c1
        cases hdx : x.dir with
        | true =>
          rw [hdx] at k1
          have hr := HR2.out
          rw [if_neg (by rw [hrt]; simp), if_neg (by rw [hb1]; simp), if_pos hdx] at hr
          subst hr
          go_wp2_with fail
          go_ret
          exact ⟨rfl, R, HXA.out.fresh HB2.out, HMV.out (Moved.fresh HB2.out)⟩
        | false =>
          rw [hdx] at k1
          go_wp2_with fail
          refine (HM.out w2 HH2.out x HXM.out y.s).mono ?_
          rintro e w3 ⟨rfl, hk3⟩
          have HK3 := hidden hk3
          have HH3 := hidden (HH2.out.still hk3)
          have hblk3 := (hk3.block _ hg2 (fun h => h)).trans hblk2
          clear hk3 c0 c1 c2 c3 c4 c5 c6 k1
          by_cases hrm : hasRoom S x y.s = 0
          · have hr := HR2.out
            rw [if_neg (by rw [hrt]; simp), if_neg (by rw [hb1]; simp), if_neg (by rw [hdx]; simp), if_neg (fun h => h hrm)] at hr
            subst hr
            rw [hrm]
            obtain ⟨c0, c1, c2, c3, c4, c5, c6, _⟩ := cells7 hblk3
            have hn2 : y.s ≤ 1048576 := by
              unfold hasRoom at hrm
              split at hrm
              · cases hrm
              · omega
            have hg3 : gA < w3.heap.size := Nat.lt_of_lt_of_le hg2 HK3.out.size
            clear hrm
            go_wp2_with fail
            refine (HZ.out w3 HH3.out x HXM.out y.s hn2).mono ?_
            rintro e w4 ⟨rfl, R4, dv4, hv4, hX4, hm4⟩
            have hblk4 := (hm4.keeps.block _ hg3 (fun h => h hbno)).trans hblk3
            have HX4 := hidden hX4
            have HM4 : Hid (Moved R R4 w w4) := HMV.out (((Moved.fresh HB2.out).trans ⟨fun _ _ => rfl, HK3.out.mono fun _ _ h => h.elim⟩).trans hm4)
            have hi4 : Inc (setT S.ths x.id (sizeF y.s)) := setT_inc HO.out.inc _ _ fun _ => rfl
            have hxm4 : sizeF y.s x ∈ setT S.ths x.id (sizeF y.s) := mem_setT.2 ⟨x, HXM.out, by rw [if_pos rfl]⟩
            have HI4 := hidden hi4
            have HXM4 := hidden hxm4
            obtain ⟨x4, hx4⟩ : ∃ x4, x4 = sizeF y.s x := ⟨_, rfl⟩
            have hid4 : x4.id = x.id := by rw [hx4]; rfl
            have ha4 : x4.a.Ok := by
              have := (HO.out.att x HXM.out).1
              rw [hx4]
              exact ⟨this.f, HY.out.s, this.u, this.g, this.m, this.a, this.t⟩
            rw [← hx4] at HXM4
            have hmg : mergeA x4.a y = mergeA x.a y := by
              rw [hx4]
              show (⟨_, _, _, _, _, _, _⟩ : At) = ⟨_, _, _, _, _, _, _⟩
              simp only [sizeF, hb1, if_true]
            clear hx4 hxm4 hi4 hX4 hm4 hblk3 c0 c1 c2 c3 c4 c5 c6
            obtain ⟨c0, c1, c2, c3, c4, c5, c6, _⟩ := cells7 hblk4
            obtain ⟨j2, j3, j4, j5, j6, j7, j8⟩ := (HX4.out.th x4 HXM4.out).ca
            rw [hid4] at j2 j3 j4 j5 j6 j7 j8
            have HID := hidden hid4
            obtain ⟨M, hM⟩ : ∃ M, M = mergeA x4.a y := ⟨_, rfl⟩
            have HMM := hidden hM
            clear hM
            have HC := hidden (fun (W : World) (hb : Below w4.heap.size w4 W) => (show (∀ j, W.frozen? ⟨B x.id, j, none⟩ = false) ∧ _ from by rw [← hid4]; exact ⟨((HX4.out.fresh hb).th x4 HXM4.out).fz, ((HX4.out.fresh hb).th x4 HXM4.out).ca⟩))
            go_wp2_with fail
            go_region_with (go_at_call 43; refine (HMG.out w4.drew x HXM.out x4.a M ha4 HMM.out).mono ?_; rintro e w5 ⟨rfl, hb5⟩; have HB5 := hidden (((Below.refl w4.heap.size w4).drew).trans hb5); obtain ⟨kf, m2, m3, m4, m5, m6, m7, m8⟩ := HC.out w5 HB5.out; rw [HID.out] at m2 m3 m4 m5 m6 m7 m8; clear hb5)
            all_goals
              obtain ⟨R', dv', hv', hX, hmv⟩ := (HX4.out.fresh HB5.out).told HI4.out HXM4.out y
              rw [← HMM.out, HID.out] at hX hmv
              have HF1 : Hid (∃ R', TX (w5.setCells (B x.id) 2 [.int .u32 M.f, .int .u64 M.s, .int .u32 M.u, .int .u32 M.g, .int .u32 M.m, .int .u32 M.a, .int .u32 M.t]) R' a ⟨setT (setT S.ths x.id (sizeF y.s)) x.id (mrgF y), S.next⟩ ∧ Moved R R' w (w5.setCells (B x.id) 2 [.int .u32 M.f, .int .u64 M.s, .int .u32 M.u, .int .u32 M.g, .int .u32 M.m, .int .u32 M.a, .int .u32 M.t])) := ⟨R', ⟨_, _, _, _, hX⟩, (HM4.out.trans (Moved.fresh HB5.out)).trans hmv⟩
              clear hX hmv
              go_wp2_with fail
              go_ret
              exact ⟨rfl, HF1.out⟩
          · have hr := HR2.out
            rw [if_neg (by rw [hrt]; simp), if_neg (by rw [hb1]; simp), if_neg (by rw [hdx]; simp), if_pos hrm] at hr
            subst hr
            have hre : (((hasRoom S x y.s : Nat) : Int) != 0) = true := by simp; exact hrm
            obtain ⟨rm, hrm2⟩ : ∃ rm, rm = hasRoom S x y.s := ⟨_, rfl⟩
            rw [← hrm2] at hre ⊢
            have HRM := hidden hrm2
            clear hrm2 hrm
            go_wp2_with fail
            go_ret
            exact ⟨by rw [← HRM.out]; rfl, R, (HXA.out.fresh HB2.out).still HK3.out, HMV.out ((Moved.fresh HB2.out).trans ⟨fun _ _ => rfl, HK3.out.mono fun _ _ h => h.elim⟩)⟩
end

section
variable {w : World} {R : Nat → Role} {a : Nat} {S : Tr} {base : Nat}
theorem remove_t (H : TS base w R a S) (hb : base ≤ w.heap.size) (v : Value) (p : List Nm) (hv : SSl w v p) (dir : Bool) :
    Calls Try.prog 14 #[.pointer (some ⟨a, 0, none⟩), v, .bool dir] w (TSPost base w a (removeT S p dir).2 (.int .i64 (removeT S p dir).1) R) := by
  obtain ⟨⟨B, dv, hv', tv, hx⟩, ⟨pa, nm, o⟩, hR⟩ := H
  exact (remove_c hx o v p hv dir).mono fun e w' h => h.ts hR hb ⟨pa, nm, o.removes p dir⟩
theorem set_t (H : TS base w R a S) (hb : base ≤ w.heap.size) (i : Int) (y : At) (hy : y.Ok) :
    Calls Try.prog 16 #[.pointer (some ⟨a, 0, none⟩), .int .i64 i, y.v] w (TSPost base w a (setAT S i y).2 (.int .i64 (setAT S i y).1) R) := by
  obtain ⟨⟨B, dv, hv', tv, hx⟩, ⟨pa, nm, o⟩, hR⟩ := H
  exact (set_c hx o i y hy).mono fun e w' h => h.ts hR hb ⟨pa, nm, o.set i hy⟩
end
set_option maxHeartbeats 8000000 in
set_option maxRecDepth 100000 in
theorem treeRefused_c (v0 : Value) (qs : List AskD) (w : World) (h0 : ASl w v0 qs) :
    Calls Try.prog 4 #[v0] w fun e w' => e = .returned (.bool true) ∧ Below w.heap.size w w' := by
  have HA := hidden h0
  obtain ⟨ao, cap, rfl, hc0, hm0⟩ := h0.len
  unfold maxLen at hm0
  clear h0
  go_enter Try.func4, Try.ntmps4
  go_wp2_with fail
  refine (new_c w).mono ?_
  rintro e w1 ⟨R1, a, rfl, ht1, hb1⟩
  have HT1 := hidden ht1
  have HB1 := hidden hb1
  clear ht1 hb1
  go_wp2_with fail
  go_loopw [4] (fun c wr => ∃ (k : Nat) (R : Nat → Role) (S : Tr), c = .int .i64 k ∧ k ≤ 30 ∧ k ≤ qs.length ∧ TS w.heap.size wr R a S ∧ S.next ≤ k + 1 ∧ Below w.heap.size w wr) (fun c _ => 30 - (intOf c).toNat)
  case atStart => exact ⟨0, R1, newTr, rfl, by omega, by omega, HT1.out, by decide, HB1.out⟩
  case round =>
    obtain ⟨k, R, S, rfl, hk20, hkl, hT, hnx, hb⟩ := hrel
    have HT := hidden hT
    have HB := hidden hb
    clear hT hb
    by_cases hlt : k < qs.length ∧ k < 30
    · obtain ⟨hlt0, hlt1⟩ := hlt
      have q0 : (k : Int) < (qs.length : Int) := by omega
      have q1 : (k : Int) < 30 := by omega
      have hA := HA.out.fresh HB.out
      obtain ⟨eb, eo, rfl, d0, d1, d2, d3, d4, d5, d6, d7, d8, d9, d10, d11, d12, d13, d14⟩ := hA.at k hlt0
      have HG := hidden (HA.out.good (List.getElem_mem hlt0))
      have HGr := hidden (hA.good (List.getElem_mem hlt0))
      clear hA
      generalize qs[k] = en at d0 d1 d2 d3 d4 d5 d6 d7 d8 d9 d10 d11 d12 d13 d14 HG HGr
      obtain ⟨x, pv, tv, bv⟩ := en
      go_wp2_with fail
      obtain ⟨g1, g2, g3, g4, g5, g6⟩ := HGr.out
      refine (short_c x pv tv bv _ g1 g2 g3).mono ?_
      rintro e w2 ⟨pv', tv', bv', rfl, hp2, ht2, hb2, hob2, hbel2⟩
      have HP2 := hidden hp2
      have HBv2 := hidden hb2
      have HBO2 := hidden hob2
      have HB2 := hidden (HB.out.trans (hbel2.mono HB.out.size))
      have HT2 := hidden (HT.out.fresh hbel2)
      have hlp := World.ownsRow.lt hp2
      have hnoP : Hid (∀ k, pv'.ownBlock = some k → R k = .no) := fun k e => HT.out.lim k (hlp k e).1
      clear hp2 hb2 hob2 hbel2 hlp g1 g2 g3 g4 g5 g6 d0 d1 d2 d3 d4 d5 d6 d7 d8 d9 d10 d11 d12 d13 d14
      obtain ⟨a1, k1, rfl⟩ := ownsRow_shape HP2.out
      obtain ⟨at2, kt2, rfl⟩ := ownsRow_shape ht2
      have hbs0 := HBv2.out
      obtain ⟨m3, hm3⟩ : ∃ m, m = (shortA x).b.length := ⟨_, rfl⟩
      obtain ⟨a3, k3, hv3, _⟩ := hbs0
      rw [← hm3] at hv3
      subst hv3
      have HTo2 := hidden ht2
      have hnoT : Hid (∀ k, (Value.slice at2 (shortA x).To.length kt2).ownBlock = some k → R k = .no) := fun k e => HT.out.lim k (World.ownsRow.lt HTo2.out k e).1
      obtain ⟨m1, hm1⟩ : ∃ m, m = (shortA x).P.length := ⟨_, rfl⟩
      obtain ⟨m2, hm2⟩ : ∃ m, m = (shortA x).To.length := ⟨_, rfl⟩
      rw [← hm1] at HP2 hnoP ⊢
      rw [← hm2] at HTo2 hnoT
      rw [show askC (shortA x) (.slice a1 m1 k1) (.slice at2 (shortA x).To.length kt2) (.slice a3 m3 k3) = #[.int .i64 x.kind, .int .i64 x.id, .slice a1 m1 k1, .slice at2 (shortA x).To.length kt2, .bool x.dir, .int .u64 x.at_, .int .u32 x.n, .slice a3 m3 k3, .int .u32 x.a.f, .int .u64 x.a.s, .int .u32 x.a.u, .int .u32 x.a.g, .int .u32 x.a.m, .int .u32 x.a.a, .int .u32 x.a.t] from rfl, ← hm2]
      have HM1 := hidden hm1
      have HM2 := hidden hm2
      have HM3 := hidden hm3
      clear hm1 hm2 hm3 ht2
      go_wp2_with fail
      have hno : Hid ((shortA x).b ≠ [] → ∀ j, (Value.slice a3 m3 k3).ownBlock = some j → j < w.heap.size) := fun hne j e => by
        have hxb : x.b ≠ [] := by rintro h0; exact hne (by show x.b.take 200 = []; rw [h0]; rfl)
        rw [HBO2.out] at e
        have hg := HG.out.2.2.1
        rcases Nat.lt_or_ge j w.heap.size with h | h
        · exact h
        · exact absurd rfl (BSl.apartB hg h hxb j e)
      have hblk := heap_alloc_new w2 (.cells #[.int .i64 x.kind, .int .i64 x.id, .slice a1 m1 k1, .slice at2 m2 kt2, .bool x.dir, .int .u64 x.at_, .int .u32 x.n, .slice a3 m3 k3, .int .u32 x.a.f, .int .u64 x.a.s, .int .u32 x.a.u, .int .u32 x.a.g, .int .u32 x.a.m, .int .u32 x.a.a, .int .u32 x.a.t] 32)
      have hkA := (Keeps.refl (fun _ => False) w2).alloc (.cells #[.int .i64 x.kind, .int .i64 x.id, .slice a1 m1 k1, .slice at2 m2 kt2, .bool x.dir, .int .u64 x.at_, .int .u32 x.n, .slice a3 m3 k3, .int .u32 x.a.f, .int .u64 x.a.s, .int .u32 x.a.u, .int .u32 x.a.g, .int .u32 x.a.m, .int .u32 x.a.a, .int .u32 x.a.t] 32)
      have hbA : Below w.heap.size w (w2.alloc (.cells #[.int .i64 x.kind, .int .i64 x.id, .slice a1 m1 k1, .slice at2 m2 kt2, .bool x.dir, .int .u64 x.at_, .int .u32 x.n, .slice a3 m3 k3, .int .u32 x.a.f, .int .u64 x.a.s, .int .u32 x.a.u, .int .u32 x.a.g, .int .u32 x.a.m, .int .u32 x.a.a, .int .u32 x.a.t] 32)) := HB2.out.alloc HB2.out.size _
      generalize w2.alloc (.cells #[.int .i64 x.kind, .int .i64 x.id, .slice a1 m1 k1, .slice at2 m2 kt2, .bool x.dir, .int .u64 x.at_, .int .u32 x.n, .slice a3 m3 k3, .int .u32 x.a.f, .int .u64 x.a.s, .int .u32 x.a.u, .int .u32 x.a.g, .int .u32 x.a.m, .int .u32 x.a.a, .int .u32 x.a.t] 32) = wA at hblk hkA hbA ⊢
      have HTA := hidden (HT2.out.still hkA)
      have HPA : Hid (SSl wA (.slice a1 m1 k1) (shortA x).P) := (SOwn.ssl (show SOwn w2 wr.heap.size (.slice a1 m1 k1) (shortA x).P by have h := HP2.out; rw [HM1.out] at h ⊢; exact h)).keep hkA fun _ _ h => h
      have HQA : Hid (SSl wA (.slice at2 m2 kt2) (shortA x).To) := (SOwn.ssl (show SOwn w2 wr.heap.size (.slice at2 m2 kt2) (shortA x).To by have h := HTo2.out; rw [HM2.out] at h ⊢; exact h)).keep hkA fun _ _ h => h
      have HBvA := hidden (HBv2.out.keep hkA fun _ _ h => h)
      have HBA := hidden hbA
      have hgA := lt_of_block hblk
      generalize w2.heap.size = gA at hblk hgA ⊢
      have HBX : Hid (∀ W, Below wA.heap.size wA W → W.heap[gA]? = some (.cells #[.int .i64 x.kind, .int .i64 x.id, .slice a1 m1 k1, .slice at2 m2 kt2, .bool x.dir, .int .u64 x.at_, .int .u32 x.n, .slice a3 m3 k3, .int .u32 x.a.f, .int .u64 x.a.s, .int .u32 x.a.u, .int .u32 x.a.g, .int .u32 x.a.m, .int .u32 x.a.a, .int .u32 x.a.t] 32)) := fun W hW => (hW.block _ hgA).trans hblk
      clear hblk hkA hbA hgA
      refine (save_t HTA.out (by omega)).mono ?_
      rintro e w3 ⟨vs1, bs1, rfl, hsv, _, hown3, hb3⟩
      have HSV := hidden hsv
      have hrs := run_string (BSl.ofRow hown3)
      obtain ⟨as1, ks1, rfl⟩ := ownsRow_shape hown3
      have HT3 := hidden (HTA.out.fresh hb3)
      have HA3 := hidden hb3
      have HB3 := hidden (HBA.out.trans (hb3.mono HBA.out.size))
      clear hsv hown3 hb3
      obtain ⟨c0, c1, c2, c3, c4, c5, c6, c7, c8, c9, c10, c11, c12, c13, c14⟩ := cells15 (HBX.out w3 HA3.out)
      go_upto_block 2 with fail
      go_cut [7, 24, 25] from 30 to 100 (fun c _ _ wx => ∃ (n : Nat) (R' : Nat → Role) (S' : Tr), c = .int .i64 n ∧ TS w.heap.size wx R' a S' ∧ S'.next ≤ k + 2 ∧ (n ≠ 0 → savesTo S' bs1) ∧ Below w.heap.size w wx)
      case first =>
        rcases (by omega : x.kind = 1 ∨ x.kind = 2 ∨ x.kind = 3 ∨ x.kind = 4 ∨ x.kind = 5 ∨ (¬ x.kind = 1 ∧ ¬ x.kind = 2 ∧ ¬ x.kind = 3 ∧ ¬ x.kind = 4 ∧ ¬ x.kind = 5)) with h | h | h | h | h | ⟨h1, h2, h3, h4, h5⟩
        · rw [h] at c0 ⊢
          go_wp2_with fail
          have hcall := make_t HT3.out HB3.out.size _ (shortA x).P (HPA.out.fresh HA3.out) hnoP.out x.dir (by omega)
          refine hcall.mono ?_
          rintro e w4 ⟨rfl, R4, ht4, hm4⟩
          have HT4 := hidden ht4
          have HB4 : Hid (Below w.heap.size w w4) := hidden (HB3.out.trans (hm4.below HT3.out.2.2 HB3.out.size))
          have HNX := hidden (makeT_next S (shortA x).P x.dir)
          have HNO : Hid ((makeT S (shortA x).P x.dir).1.2 ≠ 0 → savesTo (makeT S (shortA x).P x.dir).2 bs1) := fun h => by rw [makeT_no h]; exact HSV.out
          clear hcall ht4 hm4 c0 c1 c2 c3 c4 c5 c6 c7 c8 c9 c10 c11 c12 c13 c14
          generalize makeT S (shortA x).P x.dir = r at HT4 HNX HNO ⊢
          go_wp2_with fail
          go_meet
          case rel => exact ⟨r.1.2, R4, r.2, rfl, HT4.out, by have := HNX.out; omega, HNO.out, HB4.out⟩
        · rw [h] at c0 ⊢
          go_wp2_with fail
          have hcall := remove_t HT3.out HB3.out.size _ (shortA x).P (HPA.out.fresh HA3.out) x.dir
          refine hcall.mono ?_
          rintro e w4 ⟨rfl, R4, ht4, hm4⟩
          have HT4 := hidden ht4
          have HB4 : Hid (Below w.heap.size w w4) := hidden (HB3.out.trans (hm4.below HT3.out.2.2 HB3.out.size))
          have HNX := hidden (removeT_next (S := S) (shortA x).P x.dir)
          have HNO : Hid ((removeT S (shortA x).P x.dir).1 ≠ 0 → savesTo (removeT S (shortA x).P x.dir).2 bs1) := fun h => by rw [removeT_no h]; exact HSV.out
          clear hcall ht4 hm4 c0 c1 c2 c3 c4 c5 c6 c7 c8 c9 c10 c11 c12 c13 c14
          generalize removeT S (shortA x).P x.dir = r at HT4 HNX HNO ⊢
          go_wp2_with fail
          go_meet
          case rel => exact ⟨r.1, R4, r.2, rfl, HT4.out, by have := HNX.out; omega, HNO.out, HB4.out⟩
        · rw [h] at c0 ⊢
          go_wp2_with fail
          have hcall := rename_t HT3.out HB3.out.size _ _ (shortA x).P (shortA x).To (HPA.out.fresh HA3.out) (HQA.out.fresh HA3.out) hnoT.out
          refine hcall.mono ?_
          rintro e w4 ⟨rfl, R4, ht4, hm4⟩
          have HT4 := hidden ht4
          have HB4 : Hid (Below w.heap.size w w4) := hidden (HB3.out.trans (hm4.below HT3.out.2.2 HB3.out.size))
          have HNX := hidden (renameT_next S (shortA x).P (shortA x).To)
          have HNO : Hid ((renameT S (shortA x).P (shortA x).To).1 ≠ 0 → savesTo (renameT S (shortA x).P (shortA x).To).2 bs1) := fun h => by rw [renameT_no h]; exact HSV.out
          clear hcall ht4 hm4 c0 c1 c2 c3 c4 c5 c6 c7 c8 c9 c10 c11 c12 c13 c14
          generalize renameT S (shortA x).P (shortA x).To = r at HT4 HNX HNO ⊢
          go_wp2_with fail
          go_meet
          case rel => exact ⟨r.1, R4, r.2, rfl, HT4.out, by have := HNX.out; omega, HNO.out, HB4.out⟩
        · rw [h] at c0 ⊢
          go_wp2_with fail
          have hcall := write_t HT3.out HB3.out.size x.id x.at_ HG.out.2.2.2.1 _ (shortA x).b (HBvA.out.keep (Keeps.ofFresh HA3.out) fun _ _ h => h) (by show (x.b.take 200).length ≤ _; rw [List.length_take]; omega) (fun hne j e => HT3.out.2.2 j (hno.out hne j e))
          refine hcall.mono ?_
          rintro e w4 ⟨rfl, R4, ht4, hm4⟩
          have HT4 := hidden ht4
          have HB4 : Hid (Below w.heap.size w w4) := hidden (HB3.out.trans (hm4.below HT3.out.2.2 HB3.out.size))
          have HNX := hidden (writeT_next S x.id x.at_ (shortA x).b)
          have HNO : Hid ((writeT S x.id x.at_ (shortA x).b).1 ≠ 0 → savesTo (writeT S x.id x.at_ (shortA x).b).2 bs1) := fun h => by rw [writeT_no h]; exact HSV.out
          clear hcall ht4 hm4 c0 c1 c2 c3 c4 c5 c6 c7 c8 c9 c10 c11 c12 c13 c14
          generalize writeT S x.id x.at_ (shortA x).b = r at HT4 HNX HNO ⊢
          go_wp2_with fail
          go_meet
          case rel => exact ⟨r.1, R4, r.2, rfl, HT4.out, by have := HNX.out; omega, HNO.out, HB4.out⟩
        · rw [h] at c0 ⊢
          go_wp2_with fail
          have hcall := set_t HT3.out HB3.out.size x.id x.a HG.out.2.2.2.2.2
          refine hcall.mono ?_
          rintro e w4 ⟨rfl, R4, ht4, hm4⟩
          have HT4 := hidden ht4
          have HB4 : Hid (Below w.heap.size w w4) := hidden (HB3.out.trans (hm4.below HT3.out.2.2 HB3.out.size))
          have HNX := hidden (setAT_next (S := S) x.id x.a)
          have HNO : Hid ((setAT S x.id x.a).1 ≠ 0 → savesTo (setAT S x.id x.a).2 bs1) := fun h => by rw [setAT_no h]; exact HSV.out
          clear hcall ht4 hm4 c0 c1 c2 c3 c4 c5 c6 c7 c8 c9 c10 c11 c12 c13 c14
          generalize setAT S x.id x.a = r at HT4 HNX HNO ⊢
          go_wp2_with fail
          go_meet
          case rel => exact ⟨r.1, R4, r.2, rfl, HT4.out, by have := HNX.out; omega, HNO.out, HB4.out⟩
        · go_wp2_with fail
          refine (read_t HT3.out x.id x.at_ x.n HG.out.2.2.2.1 HG.out.2.2.2.2.1).mono ?_
          rintro e w4 ⟨vr, rfl, _, _, hb4⟩
          have HT4 := hidden (HT3.out.fresh hb4)
          have HA4 := hidden (HA3.out.trans (hb4.mono HA3.out.size))
          have HB4 := hidden (HB3.out.trans (hb4.mono HB3.out.size))
          clear c0 c1 c2 c3 c4 c5 c6 c7 c8 c9 c10 c11 c12 c13 c14 hb4
          obtain ⟨c0, c1, c2, c3, c4, c5, c6, c7, c8, c9, c10, c11, c12, c13, c14⟩ := cells15 (HBX.out w4 HA4.out)
          go_wp2_with fail
          refine (look_t HT4.out _ (shortA x).P (HPA.out.fresh HA4.out)).mono ?_
          rintro e w5 ⟨rfl, hb5⟩
          have HT5 := hidden (HT4.out.fresh hb5)
          have HA5 := hidden (HA4.out.trans (hb5.mono HA4.out.size))
          have HB5 := hidden (HB4.out.trans (hb5.mono HB4.out.size))
          clear c0 c1 c2 c3 c4 c5 c6 c7 c8 c9 c10 c11 c12 c13 c14 hb5
          obtain ⟨c0, c1, c2, c3, c4, c5, c6, c7, c8, c9, c10, c11, c12, c13, c14⟩ := cells15 (HBX.out w5 HA5.out)
          go_wp2_with fail
          refine (list_t HT5.out x.id).mono ?_
          rintro e w6 ⟨vl, rfl, _, hb6⟩
          have HT6 := hidden (HT5.out.fresh hb6)
          have HB6 := hidden (HB5.out.trans (hb6.mono HB5.out.size))
          clear c0 c1 c2 c3 c4 c5 c6 c7 c8 c9 c10 c11 c12 c13 c14 hb6
          go_wp2_with fail
          go_meet
          case rel => exact ⟨1, R, S, rfl, HT6.out, by omega, fun _ => HSV.out, HB6.out⟩
      case rest =>
        obtain ⟨n, R', S', rfl, hT', hnx', hsv', hb'⟩ := hcut
        have HTn := hidden hT'
        have HBn := hidden hb'
        have HSn := hidden hsv'
        clear hT' hb' hsv' hrs c0 c1 c2 c3 c4 c5 c6 c7 c8 c9 c10 c11 c12 c13 c14
        by_cases hn : n = 0
        · rw [hn]
          go_wp2_with fail
          go_roundw
          case rel => exact ⟨k + 1, R', S', by go_num, by omega, by omega, HTn.out, by omega, HBn.out⟩
          case measure => simp [intOf]; omega
        · have hni : ¬ (n : Int) = 0 := by omega
          have HN := hidden hn
          clear hn
          go_wp2_with fail
          refine (save_t HTn.out (by omega)).mono ?_
          rintro e w5 ⟨vs2, bs2, rfl, hsv2, _, hown2, hb5⟩
          obtain rfl := savesTo_uniq (HSn.out HN.out) hsv2
          have hrs2 := run_string (BSl.ofRow hown2)
          obtain ⟨as2, ks2, rfl⟩ := ownsRow_shape hown2
          have HT5 := hidden (HTn.out.fresh hb5)
          have HB5 := hidden (HBn.out.trans (hb5.mono HBn.out.size))
          clear hsv2 hown2 hb5
          go_wp2_with fail
          go_roundw
          case rel => exact ⟨k + 1, R', S', by go_num, by omega, by omega, HT5.out, by omega, HB5.out⟩
          case measure => simp [intOf]; omega
    · have hcond : (¬ (k : Int) < (qs.length : Int)) ∨ ((k : Int) < (qs.length : Int) ∧ ¬ (k : Int) < 30) := by omega
      clear hlt hnx
      rcases hcond with h | ⟨h, h'⟩
      all_goals
        go_wp2_with fail
        refine (known_c wr).mono ?_
        rintro e w5 ⟨rfl, hb5⟩
        have HB5 := hidden (HB.out.trans (hb5.mono HB.out.size))
        go_wp2_with fail
        go_ret
        exact ⟨rfl, HB5.out⟩
open Go Go.RowKit Go.ChangeShapes Go.WideShapes Go.ChangeAt Go.Deep

theorem own : ownKnob Try.prog.godebug = none := by kernel_rfl
theorem laidOut : laidOutB Try.prog = true := by kernel_rfl
theorem cellsU8 : Try.prog.cellsOf 5 = 1 := by kernel_rfl
theorem spot_none {w : World} {a : Addr} {v : Value} (h : w.cell? a = some v) : ∃ b off, a = ⟨b, off, none⟩ := by
  obtain ⟨b, off, spot⟩ := a
  cases spot with
  | none => exact ⟨b, off, rfl⟩
  | some x =>
    simp only [World.cell?] at h
    split at h <;> simp at h
theorem cellsB : Try.prog.cellsOf 28 = 1 := by kernel_rfl
theorem cellsInt : Try.prog.cellsOf 3 = 1 := by kernel_rfl
theorem cellsStr : Try.prog.cellsOf 9 = 1 := by kernel_rfl
theorem cellsSs : Try.prog.cellsOf 25 = 1 := by kernel_rfl
theorem cellsBool : Try.prog.cellsOf 4 = 1 := by kernel_rfl
theorem cellsU32 : Try.prog.cellsOf 27 = 1 := by kernel_rfl
theorem cellsU64 : Try.prog.cellsOf 26 = 1 := by kernel_rfl
theorem cellsA7 : Try.prog.cellsOf 30 = 7 := by kernel_rfl
theorem cellsAsk : Try.prog.cellsOf 32 = 15 := by kernel_rfl
theorem len9 {α : Type} {l : List α} (h : l.length = 9) : ∃ a b c d e f g i j, l = [a, b, c, d, e, f, g, i, j] := by
  match l, h with
  | [a, b, c, d, e, f, g, i, j], _ => exact ⟨a, b, c, d, e, f, g, i, j, rfl⟩
theorem len15 {α : Type} {l : List α} (h : l.length = 15) : ∃ a b c d e f g i j k m n o p q, l = [a, b, c, d, e, f, g, i, j, k, m, n, o, p, q] := by
  match l, h with
  | [a, b, c, d, e, f, g, i, j, k, m, n, o, p, q], _ => exact ⟨a, b, c, d, e, f, g, i, j, k, m, n, o, p, q, rfl⟩

section
variable {H : Type} {enc : TypeId × Value → H} {w : World} {fuel : Nat} {cs : List Value} {x : DataW H × List MemPlace}
theorem open_bsl {ao : Option Addr} {n cap : Nat} (h : DataW.trod enc Try.prog w 0 (fun _ => true) true fuel 28 cs = some x) (hcs : cs = [.slice ao n cap]) : ∃ xs, BSl w (.slice ao n cap) xs := by
  rcases open_ints Try.underlying28 Try.underlying5 cellsU8 h with ⟨rfl, _⟩ | ⟨a, len, cap', zs, rfl, _, hl, hm, hz, _, hx, hwf⟩
  · cases hcs
    exact ⟨[], none, 0, rfl, by simp, by simp [maxLen], fun _ => ⟨rfl, rfl⟩, (fun ad e => by cases e)⟩
  · cases hcs
    simp at hz
    refine ⟨(List.range n).map fun i => byteOf (zs.getD i 0), some a, cap, by simp, by simpa using hl, hm, (fun e => by cases e), ?_⟩
    intro ad e hne
    cases e
    have hn : 0 < n := by
      rcases Nat.eq_zero_or_pos n with h0 | h0
      · subst h0; simp at hne
      · exact h0
    have h0 := hx 0 (by omega)
    rw [show a.add 0 = a from by simp [Addr.add]] at h0
    obtain ⟨b, off, rfl⟩ := spot_none h0
    refine ⟨b, off, rfl, fun j u hu => ?_⟩
    have hj : j < n := by have := (List.getElem?_eq_some_iff.1 hu).1; simpa [bcells] using this
    have := hx j (by omega)
    rw [add_lit'] at this
    rw [this]
    have hb := bounds_u8 (hwf (zs.getD j 0) (by
      rw [List.getD_eq_getElem?_getD, List.getElem?_eq_getElem (show j < zs.length by omega)]
      exact List.getElem_mem _))
    simp only [bcells, List.map_map, List.getElem?_map, List.getElem?_range hj, Option.map_some, Function.comp] at hu
    rw [← hu, byteOf_nat, Int.emod_eq_of_lt hb.1 (by omega)]
theorem open_ssl {ao : Option Addr} {n cap : Nat} (h : DataW.trod enc Try.prog w 0 (fun _ => true) true fuel 25 cs = some x) (hcs : cs = [.slice ao n cap]) : ∃ ss, SSl w (.slice ao n cap) ss := by
  rcases open_strs Try.underlying25 Try.underlying9 cellsStr h with ⟨rfl, _⟩ | ⟨a, len, cap', m, Sx, rfl, _, hl, hm, hmm, _, hx⟩
  · cases hcs
    exact ⟨[], none, 0, rfl, by simp, by simp [maxLen], fun _ => ⟨rfl, rfl⟩, (fun ad e => by cases e)⟩
  · cases hcs
    simp at hmm
    subst hmm
    refine ⟨(List.range n).map Sx, some a, m, by simp, by simpa using hl, hm, (fun e => by cases e), ?_⟩
    intro ad e hne
    cases e
    have hn : 0 < n := by
      rcases Nat.eq_zero_or_pos n with h0 | h0
      · subst h0; simp at hne
      · exact h0
    have h0 := (hx 0 (by omega)).1
    rw [show a.add 0 = a from by simp [Addr.add]] at h0
    obtain ⟨b, off, rfl⟩ := spot_none h0
    refine ⟨b, off, rfl, fun j u hu => ?_⟩
    have hj : j < n := by have := (List.getElem?_eq_some_iff.1 hu).1; simpa using this
    have := (hx j (by omega)).1
    rw [add_lit'] at this
    rw [this]
    simp [hj] at hu
    rw [hu]
theorem open_strsV {v : Value} (h : DataW.trod enc Try.prog w 0 (fun _ => true) true fuel 25 [v] = some x) : ∃ ss, SSl w v ss := by
  obtain ⟨ao, n, cap, rfl⟩ : ∃ ao n cap, v = .slice ao n cap := by
    rcases open_strs Try.underlying25 Try.underlying9 cellsStr h with ⟨e, _⟩ | ⟨a, len, cap', m, Sx, e, _⟩
    · exact ⟨_, _, _, by simpa using e⟩
    · exact ⟨_, _, _, by simpa using e⟩
  exact open_ssl h rfl
theorem open_bytesV {v : Value} (h : DataW.trod enc Try.prog w 0 (fun _ => true) true fuel 28 [v] = some x) : ∃ xs, BSl w v xs := by
  obtain ⟨ao, n, cap, rfl⟩ : ∃ ao n cap, v = .slice ao n cap := by
    rcases open_ints Try.underlying28 Try.underlying5 cellsU8 h with ⟨e, _⟩ | ⟨a, len, cap', zs, e, _⟩
    · exact ⟨_, _, _, by simpa using e⟩
    · exact ⟨_, _, _, by simpa using e⟩
  exact open_bsl h rfl
theorem len7 {α : Type} {l : List α} (h : l.length = 7) : ∃ a b c d e f g, l = [a, b, c, d, e, f, g] := by
  match l, h with
  | [a, b, c, d, e, f, g], _ => exact ⟨a, b, c, d, e, f, g, rfl⟩
theorem open_attrs (h : DataW.trod enc Try.prog w 0 (fun _ => true) true fuel 30 cs = some x) : ∃ a : At, cs = a.cells.toList ∧ a.Ok := by
  obtain ⟨xs, n, _, _, hl, hxl, hf⟩ := DataW.trod_struct Try.underlying30 h
  rw [cellsA7] at hl
  obtain ⟨v0, v1, v2, v3, v4, v5, v6, rfl⟩ := len7 hl
  obtain ⟨y0, y1, y2, y3, y4, y5, y6, rfl⟩ := len7 (show xs.length = 7 from hxl)
  have g0 : DataW.trod enc Try.prog w 0 (fun _ => true) true n 27 [v0] = some y0 := by have := hf 0 _ rfl; simpa [cellsU32] using this
  obtain ⟨a0, e0, _, w0⟩ := DataW.trod_int Try.underlying27 g0
  obtain rfl : v0 = .int .u32 a0 := by simpa using e0
  have b0 := bounds_u32 w0
  obtain ⟨n0, rfl⟩ := Int.eq_ofNat_of_zero_le b0.1
  have g1 : DataW.trod enc Try.prog w 0 (fun _ => true) true n 26 [v1] = some y1 := by have := hf 1 _ rfl; simpa [cellsU64] using this
  obtain ⟨a1, e1, _, w1⟩ := DataW.trod_int Try.underlying26 g1
  obtain rfl : v1 = .int .u64 a1 := by simpa using e1
  have b1 := bounds_u64 w1
  obtain ⟨n1, rfl⟩ := Int.eq_ofNat_of_zero_le b1.1
  have g2 : DataW.trod enc Try.prog w 0 (fun _ => true) true n 27 [v2] = some y2 := by have := hf 2 _ rfl; simpa [cellsU32] using this
  obtain ⟨a2, e2, _, w2⟩ := DataW.trod_int Try.underlying27 g2
  obtain rfl : v2 = .int .u32 a2 := by simpa using e2
  have b2 := bounds_u32 w2
  obtain ⟨n2, rfl⟩ := Int.eq_ofNat_of_zero_le b2.1
  have g3 : DataW.trod enc Try.prog w 0 (fun _ => true) true n 27 [v3] = some y3 := by have := hf 3 _ rfl; simpa [cellsU32] using this
  obtain ⟨a3, e3, _, w3⟩ := DataW.trod_int Try.underlying27 g3
  obtain rfl : v3 = .int .u32 a3 := by simpa using e3
  have b3 := bounds_u32 w3
  obtain ⟨n3, rfl⟩ := Int.eq_ofNat_of_zero_le b3.1
  have g4 : DataW.trod enc Try.prog w 0 (fun _ => true) true n 27 [v4] = some y4 := by have := hf 4 _ rfl; simpa [cellsU32] using this
  obtain ⟨a4, e4, _, w4⟩ := DataW.trod_int Try.underlying27 g4
  obtain rfl : v4 = .int .u32 a4 := by simpa using e4
  have b4 := bounds_u32 w4
  obtain ⟨n4, rfl⟩ := Int.eq_ofNat_of_zero_le b4.1
  have g5 : DataW.trod enc Try.prog w 0 (fun _ => true) true n 27 [v5] = some y5 := by have := hf 5 _ rfl; simpa [cellsU32] using this
  obtain ⟨a5, e5, _, w5⟩ := DataW.trod_int Try.underlying27 g5
  obtain rfl : v5 = .int .u32 a5 := by simpa using e5
  have b5 := bounds_u32 w5
  obtain ⟨n5, rfl⟩ := Int.eq_ofNat_of_zero_le b5.1
  have g6 : DataW.trod enc Try.prog w 0 (fun _ => true) true n 27 [v6] = some y6 := by have := hf 6 _ rfl; simpa [cellsU32] using this
  obtain ⟨a6, e6, _, w6⟩ := DataW.trod_int Try.underlying27 g6
  obtain rfl : v6 = .int .u32 a6 := by simpa using e6
  have b6 := bounds_u32 w6
  obtain ⟨n6, rfl⟩ := Int.eq_ofNat_of_zero_le b6.1
  exact ⟨⟨n0, n1, n2, n3, n4, n5, n6⟩, rfl, ⟨by have := b0.2; show n0 ≤ _; omega, by have := b1.2; show n1 ≤ _; omega, by have := b2.2; show n2 ≤ _; omega, by have := b3.2; show n3 ≤ _; omega, by have := b4.2; show n4 ≤ _; omega, by have := b5.2; show n5 ≤ _; omega, by have := b6.2; show n6 ≤ _; omega⟩⟩
theorem open_ask (h : DataW.trod enc Try.prog w 0 (fun _ => true) true fuel 32 cs = some x) : ∃ p : AskD, cs = (askC p.x p.pv p.tv p.bv).toList ∧ p.good w := by
  obtain ⟨xs, n, _, _, hl, hxl, hf⟩ := DataW.trod_struct Try.underlying32 h
  obtain ⟨y0, y1, y2, y3, y4, y5, y6, y7, y8, rfl⟩ := len9 (show xs.length = 9 from hxl)
  rw [cellsAsk] at hl
  obtain ⟨v0, v1, v2, v3, v4, v5, v6, v7, v8, v9, v10, v11, v12, v13, v14, rfl⟩ := len15 hl
  have g0 : DataW.trod enc Try.prog w 0 (fun _ => true) true n 3 [v0] = some y0 := by have := hf 0 _ rfl; simpa [cellsInt] using this
  have g1 : DataW.trod enc Try.prog w 0 (fun _ => true) true n 3 [v1] = some y1 := by have := hf 1 _ rfl; simpa [cellsInt] using this
  have g2 : DataW.trod enc Try.prog w 0 (fun _ => true) true n 25 [v2] = some y2 := by have := hf 2 _ rfl; simpa [cellsSs] using this
  have g3 : DataW.trod enc Try.prog w 0 (fun _ => true) true n 25 [v3] = some y3 := by have := hf 3 _ rfl; simpa [cellsSs] using this
  have g4 : DataW.trod enc Try.prog w 0 (fun _ => true) true n 4 [v4] = some y4 := by have := hf 4 _ rfl; simpa [cellsBool] using this
  have g5 : DataW.trod enc Try.prog w 0 (fun _ => true) true n 26 [v5] = some y5 := by have := hf 5 _ rfl; simpa [cellsU64] using this
  have g6 : DataW.trod enc Try.prog w 0 (fun _ => true) true n 27 [v6] = some y6 := by have := hf 6 _ rfl; simpa [cellsU32] using this
  have g7 : DataW.trod enc Try.prog w 0 (fun _ => true) true n 28 [v7] = some y7 := by have := hf 7 _ rfl; simpa [cellsB] using this
  have g8 : DataW.trod enc Try.prog w 0 (fun _ => true) true n 30 [v8, v9, v10, v11, v12, v13, v14] = some y8 := by have := hf 8 _ rfl; simpa [cellsA7] using this
  obtain ⟨a0, e0, _, _⟩ := DataW.trod_int Try.underlying3 g0
  obtain rfl : v0 = .int .i64 a0 := by simpa using e0
  obtain ⟨a1, e1, _, _⟩ := DataW.trod_int Try.underlying3 g1
  obtain rfl : v1 = .int .i64 a1 := by simpa using e1
  obtain ⟨P, hP⟩ := open_strsV g2
  obtain ⟨Q, hQ⟩ := open_strsV g3
  obtain ⟨d, e4, _⟩ := DataW.trod_bool Try.underlying4 g4
  obtain rfl : v4 = .bool d := by simpa using e4
  obtain ⟨a5, e5, _, w5⟩ := DataW.trod_int Try.underlying26 g5
  obtain rfl : v5 = .int .u64 a5 := by simpa using e5
  have b5 := bounds_u64 w5
  obtain ⟨n5, rfl⟩ := Int.eq_ofNat_of_zero_le b5.1
  obtain ⟨a6, e6, _, w6⟩ := DataW.trod_int Try.underlying27 g6
  obtain rfl : v6 = .int .u32 a6 := by simpa using e6
  have b6 := bounds_u32 w6
  obtain ⟨n6, rfl⟩ := Int.eq_ofNat_of_zero_le b6.1
  obtain ⟨bs, hb⟩ := open_bytesV g7
  obtain ⟨A, e8, hA⟩ := open_attrs g8
  obtain ⟨f0, f1, f2, f3, f4, f5, f6⟩ := A
  simp [At.cells] at e8
  obtain ⟨rfl, rfl, rfl, rfl, rfl, rfl, rfl⟩ := e8
  exact ⟨⟨⟨a0, a1, P, Q, d, n5, n6, bs, ⟨f0, f1, f2, f3, f4, f5, f6⟩⟩, v2, v3, v7⟩, rfl, hP, hQ, hb, by have := b5.2; show n5 ≤ _; omega, by have := b6.2; show n6 ≤ _; omega, hA⟩
theorem open_asl {ao : Option Addr} {n cap : Nat} (h : DataW.trod enc Try.prog w 0 (fun _ => true) true fuel 22 cs = some x) (hcs : cs = [.slice ao n cap]) : ∃ qs, ASl w (.slice ao n cap) qs := by
  rcases open_slice Try.underlying22 h with ⟨rfl, _⟩ | ⟨a, len, cap', m, k, D, Pl, rfl, _, hl, hm, hmm, _, hx⟩
  · cases hcs
    exact ⟨[], none, 0, rfl, by simp, by simp [maxLen], (fun p hp => by cases hp), (fun i hi => by simp at hi)⟩
  · cases hcs
    simp at hmm
    subst hmm
    rw [cellsAsk] at hx
    have each : ∀ i, i < n → ∃ p : AskD, (∀ (j : Nat) (c : Value), (askC p.x p.pv p.tv p.bv)[j]? = some c → w.cell? (a.add (i * 15 + j)) = some c) ∧ p.good w := by
      intro i hi
      obtain ⟨cs', h1, h2⟩ := hx i (by omega)
      obtain ⟨p, rfl, h3⟩ := open_ask h2
      obtain ⟨_, _, hcell⟩ := World.cells?_some h1
      refine ⟨p, fun j c hj => ?_, h3⟩
      have hj15 : j < 15 := by
        have := (Array.getElem?_eq_some_iff.1 hj).1
        exact this
      have e := hcell j (by omega)
      rw [add_add] at e
      rw [e]
      simpa using hj
    haveI : Inhabited AskD := ⟨⟨⟨0, 0, [], [], false, 0, 0, [], ⟨0, 0, 0, 0, 0, 0, 0⟩⟩, .slice none 0 0, .slice none 0 0, .slice none 0 0⟩⟩
    obtain ⟨f, hf⟩ := choose_lt each
    refine ⟨(List.range n).map f, some a, m, by simp, by simpa using hl, hm, ?_, ?_⟩
    · intro p hp
      obtain ⟨i, hi, rfl⟩ := List.mem_map.1 hp
      exact (hf i (List.mem_range.1 hi)).2
    · intro i hi
      have hi' : i < n := by simpa using hi
      have h0 := (hf 0 (by omega)).1 0 _ rfl
      rw [show a.add (0 * 15 + 0) = a from by simp [Addr.add]] at h0
      obtain ⟨b, off, hbo⟩ := spot_none h0
      subst hbo
      refine ⟨b, off, rfl, fun j c hj => ?_⟩
      rw [List.getElem_map, List.getElem_range] at hj
      have := (hf i hi').1 j c hj
      rw [add_lit'] at this
      rw [Nat.add_assoc]
      exact this
end
end Go.Proofs.Ytnigfnikajejaab
