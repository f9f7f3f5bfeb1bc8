/- A forest and a tree: what is kept is what was read, and the other way round. -/
import Derived.Test.YtnigfnikajejaaaTvB
namespace Go.Proofs.Ytnigfnikajejaaa
open Go Go.RowKit

theorem Fo.ths_ids : ∀ k : Fo, k.ths.map (·.id) = k.ids
  | .nil => rfl
  | .cons _ x k r => by rw [Fo.ths, Fo.ids, List.map_cons, List.map_append, k.ths_ids, r.ths_ids]; rfl
/-- What is held, all together, is each thing's number once. -/
theorem Fo.kid_ids : ∀ k : Fo, (k.heads.map (·.2) ++ k.ths.flatMap fun z => z.h.map (·.2)).Perm k.ids
  | .nil => List.Perm.refl _
  | .cons n x k r => by
    rw [Fo.heads, Fo.ths, Fo.ids, List.map_cons, List.cons_append, List.flatMap_cons, List.flatMap_append]
    refine List.Perm.cons _ ?_
    show (r.heads.map (·.2) ++ (k.heads.map (·.2) ++ (_ ++ _))).Perm _
    refine (List.perm_append_comm_assoc _ _ _).trans ?_
    refine (List.Perm.append_left _ (List.perm_append_comm_assoc _ _ _)).trans ?_
    rw [← List.append_assoc]
    exact List.Perm.append k.kid_ids r.kid_ids
theorem Fo.head_mem {k : Fo} {e : Nm × Nat} (h : e ∈ k.heads) : e.2 ∈ k.ids := (k.kid_ids).mem_iff.1 (List.mem_append_left _ (List.mem_map_of_mem h))
theorem Fo.kid_mem {k : Fo} {z : Th} (hz : z ∈ k.ths) {e : Nm × Nat} (h : e ∈ z.h) : e.2 ∈ k.ids := (k.kid_ids).mem_iff.1 (List.mem_append_right _ (List.mem_flatMap.2 ⟨z, hz, List.mem_map_of_mem h⟩))
theorem Fo.id_mem {k : Fo} {z : Th} (hz : z ∈ k.ths) : z.id ∈ k.ids := by rw [← k.ths_ids]; exact List.mem_map_of_mem hz
theorem flat_uniq {α : Type} {f : α → List Nat} : ∀ {l : List α}, (l.flatMap f).Nodup → ∀ {a b : α}, a ∈ l → b ∈ l → ∀ {j : Nat}, j ∈ f a → j ∈ f b → a = b
  | [], _, a, _, h, _, _, _, _ => by cases h
  | c :: l, hn, a, b, ha, hb, j, h1, h2 => by
    rw [List.flatMap_cons, List.nodup_append] at hn
    obtain ⟨_, n2, n3⟩ := hn
    rcases List.mem_cons.1 ha with e1 | ha'
    · rcases List.mem_cons.1 hb with e2 | hb'
      · rw [e1, e2]
      · exact absurd rfl (n3 j (by rw [← e1]; exact h1) j (List.mem_flatMap.2 ⟨b, hb', h2⟩))
    · rcases List.mem_cons.1 hb with e2 | hb'
      · exact absurd rfl (n3 j (by rw [← e2]; exact h2) j (List.mem_flatMap.2 ⟨a, ha', h1⟩))
      · exact flat_uniq n2 ha' hb' h1 h2
theorem flat_nodup {α : Type} {f : α → List Nat} : ∀ {l : List α}, (l.flatMap f).Nodup → ∀ {a : α}, a ∈ l → (f a).Nodup
  | [], _, _, h => by cases h
  | c :: l, hn, a, ha => by
    rw [List.flatMap_cons, List.nodup_append] at hn
    rcases List.mem_cons.1 ha with e | ha'
    · rw [e]; exact hn.1
    · exact flat_nodup hn.2.1 ha'
theorem map_uniq {α : Type} {g : α → Nat} : ∀ {l : List α}, (l.map g).Nodup → ∀ {a b : α}, a ∈ l → b ∈ l → g a = g b → a = b
  | [], _, _, _, h, _, _ => by cases h
  | c :: l, hn, a, b, ha, hb, e => by
    rw [List.map_cons, List.nodup_cons] at hn
    rcases List.mem_cons.1 ha with e1 | ha'
    · rcases List.mem_cons.1 hb with e2 | hb'
      · rw [e1, e2]
      · exact absurd (by rw [← e1, e]; exact List.mem_map_of_mem (f := g) hb') hn.1
    · rcases List.mem_cons.1 hb with e2 | hb'
      · exact absurd (by rw [← e2, ← e]; exact List.mem_map_of_mem (f := g) ha') hn.1
      · exact map_uniq hn.2 ha' hb' e
/-- A tree, told by what each thing holds. -/
theorem Ok.of {S : Tr} (root : ∃ r t, S.ths = r :: t ∧ r.id = 0 ∧ r.dir = true) (inc : Inc S.ths) (lt : ∀ x ∈ S.ths, x.id < S.next)
    (kid : ∀ z ∈ S.ths, ∀ n j, (n, j) ∈ z.h → j ≠ 0 ∧ ∃ y ∈ S.ths, y.id = j)
    (has : ∀ y ∈ S.ths, y.id ≠ 0 → ∃ z ∈ S.ths, ∃ n, (n, y.id) ∈ z.h)
    (one : ∀ z ∈ S.ths, ∀ z' ∈ S.ths, ∀ n n' j, (n, j) ∈ z.h → (n', j) ∈ z'.h → z.id = z'.id ∧ n = n')
    (rank : ∃ rk : Nat → Nat, ∀ z ∈ S.ths, ∀ n j, (n, j) ∈ z.h → rk z.id < rk j)
    (right : ∀ z ∈ S.ths, ∀ n j, (n, j) ∈ z.h → rightP n.data.toList = true)
    (srt : ∀ z ∈ S.ths, Srt z.h) (leaf : ∀ z ∈ S.ths, z.dir = false → z.h = []) (file : ∀ x ∈ S.ths, x.dir = true → x.d = [])
    (att : ∀ x ∈ S.ths, x.a.Ok ∧ x.a.f = 15 ∧ x.a.s = x.d.length) (cnt : S.ths.length ≤ 200) (bytes : sizeT S.ths ≤ 1048576) : ∃ pa nm, Ok S pa nm := by
  classical
  obtain ⟨pa, nm, hpn⟩ : ∃ (pa : Nat → Nat) (nm : Nat → Nm), ∀ z ∈ S.ths, ∀ n j, (n, j) ∈ z.h → pa j = z.id ∧ nm j = n := by
    refine ⟨fun j => if h : ∃ m : Nat × Nm, ∃ z ∈ S.ths, z.id = m.1 ∧ (m.2, j) ∈ z.h then h.choose.1 else 0, fun j => if h : ∃ m : Nat × Nm, ∃ z ∈ S.ths, z.id = m.1 ∧ (m.2, j) ∈ z.h then h.choose.2 else ⟨#[]⟩, ?_⟩
    intro z hz n j hj
    have hex : ∃ m : Nat × Nm, ∃ z ∈ S.ths, z.id = m.1 ∧ (m.2, j) ∈ z.h := ⟨(z.id, n), z, hz, rfl, hj⟩
    simp only [dif_pos hex]
    obtain ⟨z', hz', e1, e2⟩ := hex.choose_spec
    obtain ⟨o1, o2⟩ := one z' hz' z hz _ _ _ e2 hj
    exact ⟨by rw [← e1]; exact o1, o2⟩
  have hpar : ∀ y ∈ S.ths, y.id ≠ 0 → ∃ z ∈ S.ths, z.id = pa y.id ∧ (nm y.id, y.id) ∈ z.h := fun y hy h0 => by
    obtain ⟨z, hz, n, hn⟩ := has y hy h0
    obtain ⟨e1, e2⟩ := hpn z hz n _ hn
    exact ⟨z, hz, e1.symm, by rw [e2]; exact hn⟩
  refine ⟨pa, nm, root, inc, lt, ?_, ?_, ?_, ?_, ?_, srt, file, att, cnt, bytes⟩
  · intro x hx h0
    obtain ⟨z, hz, e, hm⟩ := hpar x hx h0
    refine ⟨z, hz, e, ?_⟩
    cases hd : z.dir with
    | true => rfl
    | false => rw [leaf z hz hd] at hm; cases hm
  · obtain ⟨rk, hrk⟩ := rank
    refine ⟨rk, fun x hx h0 => ?_⟩
    obtain ⟨z, hz, e, hm⟩ := hpar x hx h0
    rw [← e]
    exact hrk z hz _ _ hm
  · intro x hx y hy hx0 hy0 e1 e2
    obtain ⟨z, hz, f1, g1⟩ := hpar x hx hx0
    obtain ⟨z', hz', f2, g2⟩ := hpar y hy hy0
    have : z = z' := inc.uniq hz hz' (by rw [f1, f2, e1])
    subst this
    rw [e2] at g1
    exact (Prod.mk.inj (mem_name (srt z hz) g1 g2 rfl)).2
  · intro x hx h0
    obtain ⟨z, hz, f1, g1⟩ := hpar x hx h0
    exact right z hz _ _ g1
  · intro x hx n j
    constructor
    · intro h
      obtain ⟨k1, k2⟩ := kid x hx n j h
      obtain ⟨p1, p2⟩ := hpn x hx n j h
      exact ⟨k1, k2, p1, p2⟩
    · rintro ⟨h0, ⟨y, hy, rfl⟩, e1, e2⟩
      obtain ⟨z, hz, f1, g1⟩ := hpar y hy h0
      have : z = x := inc.uniq hz hx (by rw [f1, e1])
      subst this
      rw [← e2]
      exact g1

theorem heldB_cons (f : Nat → List UInt8) (e : Nm × Nat) (h : HL) : heldB f (e :: h) = textBytes e.1.data.toList ++ f e.2 ++ heldB f h := by
  unfold heldB
  rw [List.flatMap_cons]
theorem Fo.saves {L : List Th} (hi : Inc L) : ∀ (k : Fo), (∀ z ∈ k.ths, z ∈ L) → ∃ F, (∀ e ∈ k.heads, (saveO L F e.2).isSome = true) ∧ heldB (fun j => (saveO L F j).getD []) k.heads = k.save
  | .nil, _ => ⟨0, (fun e h => by cases h), rfl⟩
  | .cons n x k r, hm => by
    obtain ⟨F1, a1, a2⟩ := Fo.saves hi k fun z hz => hm z (by rw [Fo.ths]; exact List.mem_cons_of_mem _ (List.mem_append_left _ hz))
    obtain ⟨F2, b1, b2⟩ := Fo.saves hi r fun z hz => hm z (by rw [Fo.ths]; exact List.mem_cons_of_mem _ (List.mem_append_right _ hz))
    have hx := hm (thH x k) (by rw [Fo.ths]; exact List.mem_cons_self)
    have hs : saveO L (F1 + 1) x.id = some (hdrB (thH x k) ++ k.save) := by
      show saveO L (F1 + 1) (thH x k).id = _
      rw [saveO_eq (findT_nat hi hx rfl)]
      rw [if_pos (show ((thH x k).h.all fun e => (saveO L F1 e.2).isSome) = true from List.all_eq_true.2 a1)]
      show some (hdrB (thH x k) ++ heldB _ k.heads) = _
      rw [a2]
    have hs2 := saveO_le L hs (Nat.le_max_left (F1 + 1) F2)
    have hr : ∀ e ∈ r.heads, saveO L (max (F1 + 1) F2) e.2 = saveO L F2 e.2 := fun e he => by
      obtain ⟨c, hc⟩ := Option.isSome_iff_exists.1 (b1 e he)
      rw [hc]
      exact saveO_le L hc (Nat.le_max_right _ _)
    refine ⟨max (F1 + 1) F2, ?_, ?_⟩
    · intro e he
      rw [Fo.heads, List.mem_cons] at he
      rcases he with rfl | he
      · show (saveO L _ x.id).isSome = true
        rw [hs2]; rfl
      · rw [hr e he]; exact b1 e he
    · rw [Fo.heads, heldB_cons, heldB_congr (g := fun j => (saveO L F2 j).getD []) (fun e he => by rw [hr e he]), b2, Fo.save]
      simp only
      rw [hs2]
      rfl
theorem Fo.saves_root {L : List Th} (hi : Inc L) {x : Hd} {k : Fo} (hx : thH x k ∈ L) (hm : ∀ z ∈ k.ths, z ∈ L) : ∃ F, saveO L F x.id = some (hdrB (thH x k) ++ k.save) := by
  obtain ⟨F1, a1, a2⟩ := Fo.saves hi k hm
  refine ⟨F1 + 1, ?_⟩
  show saveO L (F1 + 1) (thH x k).id = _
  rw [saveO_eq (findT_nat hi hx rfl)]
  rw [if_pos (show ((thH x k).h.all fun e => (saveO L F1 e.2).isSome) = true from List.all_eq_true.2 a1)]
  show some (hdrB (thH x k) ++ heldB _ k.heads) = _
  rw [a2]

/-- How deep a thing lies in a forest. -/
def Fo.rk : Fo → Nat → Nat → Nat
  | .nil, _, _ => 0
  | .cons _ x k r, d, i => if i = x.id then d else if i ∈ k.ids then k.rk (d + 1) i else r.rk d i
theorem nodup_cons3 {a : Nat} {l m : List Nat} (h : (a :: (l ++ m)).Nodup) : a ∉ l ∧ a ∉ m ∧ l.Nodup ∧ m.Nodup ∧ (∀ i, i ∈ m → i ∉ l) := by
  obtain ⟨h1, h2⟩ := List.nodup_cons.1 h
  obtain ⟨h3, h4, h5⟩ := List.nodup_append.1 h2
  exact ⟨fun e => h1 (List.mem_append_left _ e), fun e => h1 (List.mem_append_right _ e), h3, h4, fun i hi hl => h5 i hl i hi rfl⟩
theorem Fo.rk_heads : ∀ (k : Fo) (d : Nat), k.ids.Nodup → ∀ e ∈ k.heads, k.rk d e.2 = d
  | .nil, _, _, e, h => by cases h
  | .cons n x k r, d, hn, e, h => by
    rw [Fo.ids] at hn
    obtain ⟨h1, h2, h3, h4, h5⟩ := nodup_cons3 hn
    rw [Fo.heads, List.mem_cons] at h
    rw [Fo.rk]
    rcases h with rfl | h
    · exact if_pos rfl
    · have := Fo.head_mem h
      rw [if_neg (fun e => h2 (by rw [← e]; exact this)), if_neg (h5 _ this)]
      exact r.rk_heads d h4 e h
theorem Fo.rk_ths : ∀ (k : Fo) (d : Nat), k.ids.Nodup → ∀ z ∈ k.ths, ∀ e ∈ z.h, k.rk d z.id < k.rk d e.2
  | .nil, _, _, e, h => by cases h
  | .cons n x k r, d, hn, z, hz => by
    intro e he
    rw [Fo.ids] at hn
    obtain ⟨h1, h2, h3, h4, h5⟩ := nodup_cons3 hn
    rw [Fo.ths, List.mem_cons, List.mem_append] at hz
    rw [Fo.rk, Fo.rk]
    rcases hz with rfl | hz | hz
    · have he : e ∈ k.heads := he
      have := Fo.head_mem he
      rw [if_pos (show (thH x k).id = x.id from rfl), if_neg (fun e => h1 (by rw [← e]; exact this)), if_pos this, k.rk_heads (d + 1) h3 e he]
      omega
    · have hi := Fo.id_mem hz
      have hj := Fo.kid_mem hz he
      rw [if_neg (fun e => h1 (by rw [← e]; exact hi)), if_pos hi, if_neg (fun e => h1 (by rw [← e]; exact hj)), if_pos hj]
      exact k.rk_ths (d + 1) h3 z hz e he
    · have hi := Fo.id_mem hz
      have hj := Fo.kid_mem hz he
      rw [if_neg (fun e => h2 (by rw [← e]; exact hi)), if_neg (h5 _ hi), if_neg (fun e => h2 (by rw [← e]; exact hj)), if_neg (h5 _ hj)]
      exact r.rk_ths d h4 z hz e he
theorem Fo.srt : ∀ {k : Fo}, k.Good → Srt k.heads
  | .nil, _ => List.Pairwise.nil
  | .cons _ _ _ _, g => List.pairwise_cons.2 ⟨fun m hm => g.2.2.2.1 m hm, Fo.srt g.2.2.2.2.2⟩
/-- What stands of a thing by itself. -/
structure ThOk (z : Th) : Prop where
  srt : Srt z.h
  right : ∀ e ∈ z.h, rightP e.1.data.toList = true
  leaf : z.dir = false → z.h = []
  file : z.dir = true → z.d = []
  att : z.a.Ok ∧ z.a.f = 15 ∧ z.a.s = z.d.length
theorem thH_ok {x : Hd} {k : Fo} (g : hdGood x) (hd : x.dir = false → k = .nil) (hk : k.Good) : ThOk (thH x k) :=
  ⟨Fo.srt hk, fun _ he => Fo.head_right hk he, fun h => by have := hd h; subst this; rfl, g.2.2.2, g.1, g.2.1, g.2.2.1⟩
theorem Fo.ths_ok : ∀ {k : Fo}, k.Good → ∀ z ∈ k.ths, ThOk z
  | .nil, _, z, h => by cases h
  | .cons n x k r, g, z, h => by
    obtain ⟨g1, g2, g3, g4, g5, g6⟩ := g
    rw [Fo.ths, List.mem_cons, List.mem_append] at h
    rcases h with rfl | h | h
    · exact thH_ok g2 g3 g5
    · exact Fo.ths_ok g5 z h
    · exact Fo.ths_ok g6 z h
theorem Fo.ths_size : ∀ k : Fo, sizeT k.ths = k.size
  | .nil => rfl
  | .cons n x k r => by
    have h1 := k.ths_size
    have h2 := r.ths_size
    unfold sizeT at h1 h2 ⊢
    rw [Fo.ths, Fo.size, List.map_cons, List.sum_cons, List.map_append, List.sum_append, h1, h2]
    show x.d.length + (k.size + r.size) = _
    omega
theorem nodup_of_ids {l : List Th} (h : (l.map (·.id)).Nodup) : l.Nodup := by
  refine List.Pairwise.imp ?_ (List.pairwise_map.1 h)
  intro a b hab e
  exact hab (by rw [e])
theorem Inc.nodup {l : List Th} (h : Inc l) : (l.map (·.id)).Nodup := List.pairwise_map.2 (List.Pairwise.imp (fun h => Nat.ne_of_lt h) h)
/-- A root and a forest, kept: a tree, that saves as they do. -/
theorem Fo.tree {x : Hd} {k : Fo} {L : List Th} {nx : Nat} (hg : hdGood x) (hd : x.dir = true) (h0 : x.id = 0) (hk : k.Good) (hn : (x.id :: k.ids).Nodup) (hl : (x.id :: k.ids).length ≤ 200) (hlt : ∀ i ∈ x.id :: k.ids, i < nx) (hz : x.d.length + k.size ≤ 1048576)
    (inc : Inc L) (hm : ∀ z, z ∈ L ↔ z = thH x k ∨ z ∈ k.ths) : (∃ pa nm, Ok ⟨L, nx⟩ pa nm) ∧ savesTo ⟨L, nx⟩ (be 8 nx ++ (hdrB (thH x k) ++ k.save)) := by
  have hall : ∀ z, z ∈ L ↔ z ∈ thH x k :: k.ths := fun z => by rw [hm, List.mem_cons]
  have hids : (thH x k :: k.ths).map (·.id) = x.id :: k.ids := by rw [List.map_cons, k.ths_ids]; rfl
  have hperm : L.Perm (thH x k :: k.ths) := (List.perm_ext_iff_of_nodup (nodup_of_ids inc.nodup) (nodup_of_ids (by rw [hids]; exact hn))).2 hall
  have hrefs : ((thH x k :: k.ths).flatMap fun z => z.h.map (·.2)).Perm k.ids := by rw [List.flatMap_cons]; exact k.kid_ids
  obtain ⟨hx0, hkn⟩ := List.nodup_cons.1 hn
  have hrn := (hrefs.nodup_iff).2 hkn
  have hth : ∀ z ∈ L, ThOk z := fun z hz => by
    rcases (hm z).1 hz with rfl | h
    · exact thH_ok hg (fun h => by rw [hd] at h; cases h) hk
    · exact Fo.ths_ok hk z h
  have hidm : ∀ j, (∃ y ∈ L, y.id = j) ↔ j ∈ x.id :: k.ids := fun j => by
    rw [← hids, List.mem_map]
    constructor
    · rintro ⟨y, hy, e⟩; exact ⟨y, (hall y).1 hy, e⟩
    · rintro ⟨y, hy, e⟩; exact ⟨y, (hall y).2 hy, e⟩
  have hkid : ∀ z ∈ L, ∀ n j, (n, j) ∈ z.h → j ∈ k.ids := fun z hz n j hj => hrefs.mem_iff.1 (List.mem_flatMap.2 ⟨z, (hall z).1 hz, List.mem_map.2 ⟨(n, j), hj, rfl⟩⟩)
  refine ⟨Ok.of ?_ inc ?_ ?_ ?_ ?_ ?_ ?_ (fun z hz => (hth z hz).srt) (fun z hz => (hth z hz).leaf) (fun z hz => (hth z hz).file) (fun z hz => (hth z hz).att) ?_ ?_, ?_⟩
  · have hx : thH x k ∈ L := (hm _).2 (.inl rfl)
    cases L with
    | nil => cases hx
    | cons r t =>
      refine ⟨r, t, rfl, ?_⟩
      have hr : r.id = 0 := by
        rcases List.mem_cons.1 hx with e | e
        · rw [← e]; exact h0
        · have := (List.pairwise_cons.1 inc).1 _ e
          have e0 : (thH x k).id = 0 := h0
          omega
      have : r = thH x k := inc.uniq List.mem_cons_self hx (by rw [hr]; exact h0.symm)
      exact ⟨hr, by rw [this]; exact hd⟩
  · intro z hz
    exact hlt _ ((hidm z.id).1 ⟨z, hz, rfl⟩)
  · intro z hz n j hj
    have hjk := hkid z hz n j hj
    exact ⟨fun e => hx0 (by rw [h0, ← e]; exact hjk), (hidm j).2 (List.mem_cons_of_mem _ hjk)⟩
  · intro y hy hy0
    have h1 := (hidm y.id).1 ⟨y, hy, rfl⟩
    rcases List.mem_cons.1 h1 with e | e
    · rw [h0] at e; exact absurd e hy0
    · obtain ⟨z, hz, hzj⟩ := List.mem_flatMap.1 (hrefs.mem_iff.2 e)
      obtain ⟨⟨n, j⟩, hj, e2⟩ := List.mem_map.1 hzj
      have e2 : j = y.id := e2
      subst e2
      exact ⟨z, (hall z).2 hz, n, hj⟩
  · intro z hz z' hz' n n' j h1 h2
    have e : z = z' := flat_uniq hrn ((hall z).1 hz) ((hall z').1 hz') (List.mem_map.2 ⟨(n, j), h1, rfl⟩) (List.mem_map.2 ⟨(n', j), h2, rfl⟩)
    subst e
    have hzn := flat_nodup hrn ((hall z).1 hz)
    exact ⟨rfl, (Prod.mk.inj (map_uniq hzn h1 h2 rfl)).1⟩
  · refine ⟨fun i => if i = x.id then 0 else k.rk 1 i, fun z hz n j hj => ?_⟩
    have hjk := hkid z hz n j hj
    have hjx : ¬ j = x.id := fun e => hx0 (by rw [← e]; exact hjk)
    simp only
    rw [if_neg hjx]
    rcases (hm z).1 hz with rfl | h
    · rw [if_pos (show (thH x k).id = x.id from rfl), k.rk_heads 1 hkn (n, j) hj]
      omega
    · rw [if_neg (fun e => hx0 (by rw [← e]; exact Fo.id_mem h))]
      exact k.rk_ths 1 hkn z h (n, j) hj
  · intro z hz n j hj
    exact (hth z hz).right (n, j) hj
  · show L.length ≤ 200
    rw [hperm.length_eq, List.length_cons]
    have := congrArg List.length k.ths_ids
    rw [List.length_map] at this
    rw [List.length_cons] at hl
    omega
  · show sizeT L ≤ 1048576
    have h1 : sizeT L = sizeT (thH x k :: k.ths) := (hperm.map _).sum_nat
    have h2 := k.ths_size
    rw [h1]
    unfold sizeT at h2 ⊢
    rw [List.map_cons, List.sum_cons, h2]
    exact hz
  · obtain ⟨F, hF⟩ := Fo.saves_root inc ((hm _).2 (.inl rfl)) (fun z hz => (hm z).2 (.inr hz))
    rw [h0] at hF
    exact ⟨F, _, hF, rfl⟩
end Go.Proofs.Ytnigfnikajejaaa
