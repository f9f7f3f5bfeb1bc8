/- Load, plainly: what is saved is read again. -/
import Derived.Test.YtnigfnikajejaaaTvA
namespace Go.Proofs.Ytnigfnikajejaaa
open Go Go.RowKit

theorem nodup_mid {a : Nat} {l m : List Nat} : (l ++ a :: m).Nodup ↔ (a :: (l ++ m)).Nodup := List.perm_middle.nodup_iff
theorem nlt_nil {n : Nm} (h : rightP n.data.toList = true) : nlt ⟨#[]⟩ n = true := by
  have := ((rightP_iff _).1 h).1
  unfold nlt
  cases e : n.data.toList with
  | nil => rw [e] at this; simp at this
  | cons a l => rfl
theorem Fo.head_right : ∀ {k : Fo}, k.Good → ∀ {m : Nm × Nat}, m ∈ k.heads → rightP m.1.data.toList = true
  | .nil, _, _, h => by cases h
  | .cons n x k r, g, m, h => by
    rw [Fo.heads, List.mem_cons] at h
    rcases h with rfl | h
    · exact g.1
    · exact Fo.head_right g.2.2.2.2.2 h
theorem head_run {bs : List UInt8} {nx : Nat} {s : Ld} {x : Hd} {q : Nat} (hg : hdGood x) (hx : x.id < nx) (hnx : nx ≤ 9000000000000000000) (hni : x.id ∉ s.ids) (hc : s.ids.length < 200) (hy : s.y = 0)
    (h : Stands bs s.p (be 8 x.id ++ [bit x.dir] ++ putA x.a) q) : headO bs nx s = some (⟨x.id, x.dir, x.a, []⟩, ⟨q, 0, x.id :: s.ids, s.z⟩) := by
  obtain ⟨p, y, ids, z⟩ := s
  have hy : y = 0 := hy
  subst hy
  rw [List.append_assoc] at h
  obtain ⟨s1, h⟩ := h.split
  obtain ⟨s2, s3⟩ := h.split
  have r1 := tk_run s1 (n := 8) (by rw [be_length])
  have r2 := tk_run s2 (n := 1) rfl
  have r3 := getA_run s3 hg.1 hg.2.1
  have v1 : val (be 8 x.id) = x.id := val_be2 8 _ (by omega)
  have v2 : val [bit x.dir] = if x.dir then 1 else 0 := by cases x.dir <;> rfl
  have hK : ldK bs ⟨p, 0, ids, z⟩ = ([bit x.dir], p + (be 8 x.id).length + 1, 0) := by
    unfold ldK
    simp only [r1]
    exact r2
  have hG : ldG bs ⟨p, 0, ids, z⟩ = (x.a, (q, 0)) := by
    unfold ldG
    rw [hK]
    exact r3
  unfold headO
  simp only [r1, hK, hG, v1, v2]
  have hk : ¬ (nx ≤ x.id ∨ 1 < (if x.dir = true then 1 else 0) ∨ x.a.f ≠ 15) := by
    rintro (h | h | h)
    · omega
    · cases hd : x.dir <;> rw [hd] at h <;> simp at h
    · exact h hg.2.1
  have hk2 : ¬ (x.id ∈ ids ∨ 200 ≤ ids.length) := by
    rintro (h | h)
    · exact hni h
    · have : ids.length < 200 := hc; omega
  rw [if_neg hk, if_neg hk2]
  cases hd : x.dir <;> rfl
theorem data_run {bs : List UInt8} {x : Hd} {s : Ld} {q : Nat} (hg : hdGood x) (hz : s.z + x.d.length ≤ 1048576) (hy : s.y = 0) (h : Stands bs s.p x.d q) :
    dataO bs ⟨x.id, x.dir, x.a, []⟩ s = some (x, ⟨q, 0, s.ids, s.z + x.d.length⟩) := by
  obtain ⟨p, y, ids, z⟩ := s
  have hy : y = 0 := hy
  subst hy
  obtain ⟨g1, g2, g3, g4⟩ := hg
  obtain ⟨i, dir, a, d⟩ := x
  unfold dataO
  cases hd : dir with
  | true =>
    have hd0 : d = [] := g4 hd
    subst hd0
    have h2 : q = p := h.2
    simp only [if_true]
    rw [if_pos (show a.s = 0 from g3), h2]
    rfl
  | false =>
    have g3 : a.s = d.length := g3
    have hz : z + d.length ≤ 1048576 := hz
    have r := tk_run h g3
    simp only [Bool.false_eq_true, if_false]
    rw [if_neg (by rw [g3]; omega), r]
/-- Behind the thing itself: how many it holds, and they. -/
theorem node_run {bs : List UInt8} {nx F : Nat} {s : Ld} {x : Hd} {k : Fo} {q : Nat} (hg : hdGood x) (hd : x.dir = false → k = .nil) (hx : x.id < nx) (hnx : nx ≤ 9000000000000000000) (hni : x.id ∉ s.ids) (hc : s.ids.length < 200) (hz : s.z + x.d.length ≤ 1048576) (hy : s.y = 0) (hkl : k.heads.length ≤ 200)
    (h : Stands bs s.p (hdrB (thH x k) ++ k.save) q)
    (ih : ∀ m, Stands bs m k.save q → kidsO (loadO bs nx F) bs k.heads.length ⟨#[]⟩ ⟨m, 0, x.id :: s.ids, s.z + x.d.length⟩ = some (k, ⟨q, 0, k.push (x.id :: s.ids), s.z + x.d.length + k.size⟩)) :
    loadO bs nx (F + 1) s = some (x, k, ⟨q, 0, k.push (x.id :: s.ids), s.z + x.d.length + k.size⟩) := by
  obtain ⟨h1, h2⟩ := h.split
  have e : hdrB (thH x k) = (be 8 x.id ++ [bit x.dir] ++ putA x.a) ++ (x.d ++ be 4 k.heads.length) := by simp [hdrB, thH]
  rw [e] at h1
  obtain ⟨s1, h1⟩ := h1.split
  obtain ⟨s2, s3⟩ := h1.split
  have hv : val (be 4 k.heads.length) = k.heads.length := val_be2 4 _ (by omega)
  have r3 := tk_run s3 (n := 4) (by rw [be_length])
  have hq : ∀ m, Stands bs m k.save q → m + k.save.length = q := fun m h => h.2.symm
  have e3 := hq _ h2
  have e4 : s.p + (be 8 x.id ++ [bit x.dir] ++ putA x.a).length + x.d.length + (be 4 k.heads.length).length = s.p + (hdrB (thH x k)).length := by rw [e]; simp only [List.length_append]; omega
  rw [loadO, head_run hg hx hnx hni hc hy s1]
  simp only
  rw [data_run (s := ⟨s.p + (be 8 x.id ++ [bit x.dir] ++ putA x.a).length, 0, x.id :: s.ids, s.z⟩) hg hz rfl s2]
  simp only
  have s3' : tk bs (s.p + (be 8 x.id ++ [bit x.dir] ++ putA x.a).length + x.d.length) 0 4 = (be 4 k.heads.length, s.p + (hdrB (thH x k)).length, 0) := by
    rw [r3]
    congr 2
    have := s3.2
    omega
  rw [s3', hv]
  cases hdx : x.dir with
  | false =>
    have := hd hdx
    subst this
    rw [if_pos rfl, if_pos (by rfl)]
    have : s.p + (hdrB (thH x .nil)).length = q := h2.2.symm
    rw [this]
    rfl
  | true =>
    rw [if_neg (by simp)]
    simp only
    rw [ih _ h2]
theorem kids_run {bs : List UInt8} {nx : Nat} (hnx : nx ≤ 9000000000000000000) : ∀ (k : Fo) (F : Nat) (before : Nm) (s : Ld) (q : Nat), k.Good → (∀ m ∈ k.heads, nlt before m.1 = true) → Stands bs s.p k.save q → s.y = 0 → (k.ids ++ s.ids).Nodup → k.ids.length + s.ids.length ≤ 200 → (∀ i ∈ k.ids, i < nx) → s.z + k.size ≤ 1048576 → 201 ≤ F + s.ids.length →
    kidsO (loadO bs nx F) bs k.heads.length before s = some (k, ⟨q, 0, k.push s.ids, s.z + k.size⟩)
  | .nil, F, before, s, q, _, _, h, hy, _, _, _, _, _ => by
    obtain ⟨p, y, ids, z⟩ := s
    have hy : y = 0 := hy
    subst hy
    have h2 : q = p := h.2
    rw [h2]
    rfl
  | .cons n x k r, F, before, s, q, hg, hb, h, hy, hn, hc, hlt, hz, hF => by
    obtain ⟨g1, g2, g3, g4, g5, g6⟩ := hg
    rw [Fo.save] at h
    obtain ⟨h, hr⟩ := h.split
    obtain ⟨ht, hx⟩ := h.split
    have g1' := rightP_len g1
    have e1 := tx_run (m := 30) ht (by show _ ≤ 30; exact g1') (by omega)
    rw [Fo.ids, List.cons_append, List.length_cons, List.length_append] at *
    rw [List.nodup_cons, List.append_assoc] at hn
    obtain ⟨hn1, hn2⟩ := hn
    rw [Fo.size] at hz
    have hbn : nlt before n = true := hb (n, x.id) (by rw [Fo.heads]; exact List.mem_cons_self)
    obtain ⟨F, rfl⟩ : ∃ F', F = F' + 1 := ⟨F - 1, by omega⟩
    rw [Fo.heads, List.length_cons, kidsO, hy, e1, tb_of]
    simp only
    rw [if_neg (by rw [g1, hbn]; simp)]
    have hkn : (k.ids ++ (x.id :: s.ids)).Nodup := by
      rw [nodup_mid, List.nodup_cons]
      refine ⟨fun e => hn1 ?_, ?_⟩
      · rcases List.mem_append.1 e with e | e
        · exact List.mem_append_left _ e
        · exact List.mem_append_right _ (List.mem_append_right _ e)
      · exact List.Nodup.sublist (List.Sublist.append_left (List.sublist_append_right _ _) _) hn2
    have hnode := node_run (bs := bs) (nx := nx) (F := F) (s := ⟨s.p + (textBytes n.data.toList).length, 0, s.ids, s.z⟩) (x := x) (k := k) g2 g3 (hlt _ List.mem_cons_self) hnx (fun e => hn1 (List.mem_append_right _ (List.mem_append_right _ e))) (by show s.ids.length < 200; omega) (by show s.z + _ ≤ _; omega) rfl (by have := k.heads_le; omega) hx (fun m hm =>
      kids_run hnx k F ⟨#[]⟩ ⟨m, 0, x.id :: s.ids, s.z + x.d.length⟩ _ g5 (fun m' hm' => nlt_nil (Fo.head_right g5 hm')) hm rfl hkn (by rw [List.length_cons]; omega) (fun i hi => hlt i (List.mem_cons_of_mem _ (List.mem_append_left _ hi))) (by show s.z + x.d.length + k.size ≤ _; omega) (by show 201 ≤ F + (x.id :: s.ids).length; rw [List.length_cons]; omega))
    rw [hnode]
    simp only
    have hpl : (k.push (x.id :: s.ids)).length = k.ids.length + (s.ids.length + 1) := by rw [(k.push_perm _).length_eq, List.length_append, List.length_cons]
    rw [kids_run hnx r (F + 1) n ⟨_, 0, k.push (x.id :: s.ids), s.z + x.d.length + k.size⟩ q g6 g4 hr rfl (by
        refine ((List.Perm.append_left _ (k.push_perm _)).nodup_iff).2 ?_
        show (r.ids ++ (k.ids ++ (x.id :: s.ids))).Nodup
        rw [← List.append_assoc, nodup_mid, List.nodup_cons]
        refine ⟨fun e => hn1 ?_, ?_⟩
        · simp only [List.mem_append] at e ⊢
          rcases e with (e | e) | e
          · exact .inr (.inl e)
          · exact .inl e
          · exact .inr (.inr e)
        · refine (List.Perm.nodup_iff ?_).1 hn2
          rw [List.append_assoc]
          exact (List.perm_append_comm_assoc _ _ _)) (by show _ + (k.push (x.id :: s.ids)).length ≤ 200; rw [hpl]; omega) (fun i hi => hlt i (List.mem_cons_of_mem _ (List.mem_append_right _ hi))) (by show s.z + x.d.length + k.size + r.size ≤ _; omega) (by show 201 ≤ F + 1 + (k.push (x.id :: s.ids)).length; rw [hpl]; omega)]
    simp only
    congr 3
    rw [Fo.size]
    omega
end Go.Proofs.Ytnigfnikajejaaa
