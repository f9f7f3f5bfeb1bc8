/- What the calls leave right: Write, Remove; the first tree. -/
import Derived.Test.YtnigfnikajejaabTmR
namespace Go.Proofs.Ytnigfnikajejaab
open Go Go.RowKit

section
variable {S : Tr} {pa : Nat → Nat} {nm : Nat → Nm}
/-- One thing's bytes and attributes turn. -/
theorem Ok.upd (o : Ok S pa nm) {x : Th} (hx : x ∈ S.ths) (f : Th → Th) (hid : ∀ y, (f y).id = y.id) (hdir : ∀ y, (f y).dir = y.dir) (hh : ∀ y, (f y).h = y.h) (hfile : (f x).dir = true → (f x).d = []) (hatt : (f x).a.Ok ∧ (f x).a.f = 15 ∧ (f x).a.s = (f x).d.length) (hb : sizeT (setT S.ths x.id f) ≤ 1048576) :
    Ok ⟨setT S.ths x.id f, S.next⟩ pa nm := by
  let g : Th → Th := fun z => if z.id = x.id then f z else z
  have gid : ∀ z, (g z).id = z.id := fun z => by simp only [g]; split <;> first | exact hid z | rfl
  have gdir : ∀ z, (g z).dir = z.dir := fun z => by simp only [g]; split <;> first | exact hdir z | rfl
  have gh : ∀ z, (g z).h = z.h := fun z => by simp only [g]; split <;> first | exact hh z | rfl
  have hset : setT S.ths x.id f = S.ths.map g := rfl
  have hmem : ∀ y, y ∈ S.ths.map g ↔ ∃ z ∈ S.ths, y = g z := fun y => by
    rw [List.mem_map]
    constructor
    · rintro ⟨z, h1, h2⟩; exact ⟨z, h1, h2.symm⟩
    · rintro ⟨z, h1, h2⟩; exact ⟨z, h1, h2.symm⟩
  have hex : ∀ k, (∃ u ∈ S.ths.map g, u.id = k) ↔ ∃ u ∈ S.ths, u.id = k := fun k => by
    constructor
    · rintro ⟨u, hu', hk⟩
      obtain ⟨z, hz, rfl⟩ := (hmem u).1 hu'
      exact ⟨z, hz, by rw [← gid z]; exact hk⟩
    · rintro ⟨z, hz, hk⟩
      exact ⟨g z, (hmem _).2 ⟨z, hz, rfl⟩, by rw [gid]; exact hk⟩
  have hgx : ∀ z ∈ S.ths, z.id = x.id → g z = f x := fun z hz e => by
    have := o.inc.uniq hz hx e
    subst this
    exact if_pos rfl
  have hgn : ∀ z, z.id ≠ x.id → g z = z := fun z e => if_neg e
  rw [hset] at hb ⊢
  refine ⟨?_, ?_, ?_, ?_, ?_, ?_, ?_, ?_, ?_, ?_, ?_, ?_, hb⟩
  · obtain ⟨r, t, h1, h2, h3⟩ := o.root
    exact ⟨g r, t.map g, by rw [h1]; rfl, by rw [gid, h2], by rw [gdir, h3]⟩
  · refine inc_ids (l := S.ths) ?_ o.inc
    show (S.ths.map g).map (·.id) = _
    rw [List.map_map]
    exact List.map_congr_left fun z _ => gid z
  · intro y hy
    obtain ⟨z, hz, rfl⟩ := (hmem y).1 hy
    rw [gid]; exact o.lt z hz
  · intro y hy h0
    obtain ⟨z, hz, rfl⟩ := (hmem y).1 hy
    rw [gid] at h0 ⊢
    obtain ⟨q, hq, hq1, hq2⟩ := o.par z hz h0
    exact ⟨g q, (hmem _).2 ⟨q, hq, rfl⟩, by rw [gid]; exact hq1, by rw [gdir]; exact hq2⟩
  · obtain ⟨rk, hrk⟩ := o.rank
    refine ⟨rk, fun y hy h0 => ?_⟩
    obtain ⟨z, hz, rfl⟩ := (hmem y).1 hy
    rw [gid] at h0 ⊢
    exact hrk z hz h0
  · intro y hy z hz h0 k0 e1 e2
    obtain ⟨y1, hy1, rfl⟩ := (hmem y).1 hy
    obtain ⟨z1, hz1, rfl⟩ := (hmem z).1 hz
    simp only [gid] at h0 k0 e1 e2 ⊢
    exact o.sib y1 hy1 z1 hz1 h0 k0 e1 e2
  · intro y hy h0
    obtain ⟨z, hz, rfl⟩ := (hmem y).1 hy
    rw [gid] at h0 ⊢
    exact o.right z hz h0
  · intro y hy n k
    obtain ⟨z, hz, rfl⟩ := (hmem y).1 hy
    rw [gh, gid, hex]
    exact o.held z hz n k
  · intro y hy
    obtain ⟨z, hz, rfl⟩ := (hmem y).1 hy
    rw [gh]; exact o.srt z hz
  · intro y hy hd
    obtain ⟨z, hz, rfl⟩ := (hmem y).1 hy
    by_cases e : z.id = x.id
    · rw [hgx z hz e] at hd ⊢; exact hfile hd
    · rw [hgn z e] at hd ⊢; exact o.file z hz hd
  · intro y hy
    obtain ⟨z, hz, rfl⟩ := (hmem y).1 hy
    by_cases e : z.id = x.id
    · rw [hgx z hz e]; exact hatt
    · rw [hgn z e]; exact o.att z hz
  · show (S.ths.map g).length ≤ 200
    rw [List.length_map]; exact o.cnt
theorem sizeT_set_le {l : List Th} (h : Inc l) {x : Th} (hx : x ∈ l) (f : Th → Th) {n : Nat} (hn : sizeT l - x.d.length + (f x).d.length ≤ n) : sizeT (setT l x.id f) ≤ n := by
  have h1 := setT_size_at h hx f
  have h2 := sizeT_at h hx
  omega
theorem Ok.size (o : Ok S pa nm) {x : Th} (hx : x ∈ S.ths) (hd : x.dir = false) {n : Nat} (hr : hasRoom S x n = 0) : Ok ⟨setT S.ths x.id (sizeF n), S.next⟩ pa nm := by
  have hn : n ≤ 1048576 ∧ sizeT S.ths - x.d.length + n ≤ 1048576 := by
    unfold hasRoom at hr
    split at hr
    · cases hr
    · split at hr
      · cases hr
      · omega
  obtain ⟨h1, h2, h3⟩ := o.att x hx
  refine o.upd hx (sizeF n) (fun _ => rfl) (fun _ => rfl) (fun _ => rfl) (fun h => by rw [show (sizeF n x).dir = x.dir from rfl, hd] at h; cases h) ⟨⟨h1.f, by show n ≤ _; omega, h1.u, h1.g, h1.m, h1.a, h1.t⟩, h2, by show n = (rz x.d n).length; rw [rz_length]⟩ (sizeT_set_le o.inc hx _ ?_)
  rw [show (sizeF n x).d.length = n from rz_length _ _]
  exact hn.2
theorem Ok.lay (o : Ok S pa nm) {x : Th} (hx : x ∈ S.ths) (hd : x.dir = false) {k : Nat} {b : List UInt8} (hkb : k + b.length ≤ x.d.length) : Ok ⟨setT S.ths x.id (layF k b), S.next⟩ pa nm := by
  obtain ⟨h1, h2, h3⟩ := o.att x hx
  have hl : (layF k b x).d.length = x.d.length := lay_length hkb
  refine o.upd hx (layF k b) (fun _ => rfl) (fun _ => rfl) (fun _ => rfl) (fun h => by rw [show (layF k b x).dir = x.dir from rfl, hd] at h; cases h) ⟨h1, h2, by rw [hl]; exact h3⟩ (sizeT_set_le o.inc hx _ ?_)
  rw [hl]
  have := sizeT_at o.inc hx
  have := o.bytes
  omega
theorem Ok.write (o : Ok S pa nm) (i : Int) (k : Nat) (b : List UInt8) : Ok (writeT S i k b).2 pa nm := by
  unfold writeT
  cases hf : fileT S i with
  | mk ox e =>
    cases ox with
    | none => exact o
    | some x =>
      obtain ⟨hx, _, hd, rfl⟩ := fileT_ok o.inc hf
      simp only
      split
      · exact o
      · next hb0 =>
        have hlb := List.length_pos_iff.2 hb0
        split
        · exact o
        · next hr =>
          have hr : hasRoom S x (min k 1048576 + b.length) = 0 := Decidable.not_not.1 hr
          have hE : min k 1048576 + b.length ≤ 1048576 := by
            unfold hasRoom at hr
            split at hr
            · cases hr
            · omega
          have hk : min k 1048576 = k := by omega
          rw [hk] at hr hE
          by_cases hup : x.d.length < k + b.length
          · rw [if_pos hup]
            have o2 := o.size hx hd hr
            have hx2 : sizeF (k + b.length) x ∈ setT S.ths x.id (sizeF (k + b.length)) := mem_setT.2 ⟨x, hx, by rw [if_pos rfl]⟩
            exact o2.lay hx2 hd (by rw [show (sizeF (k + b.length) x).d.length = k + b.length from rz_length _ _]; exact Nat.le_refl _)
          · rw [if_neg hup]
            exact o.lay hx hd (by omega)
theorem Ok.makes (o : Ok S pa nm) (p : List Nm) (dir : Bool) : ∃ pa' nm', Ok (makeT S p dir).2 pa' nm' := by
  obtain ⟨pa', nm', h, _⟩ := make_both o p dir
  exact ⟨pa', nm', h⟩
theorem Ok.renames (o : Ok S pa nm) (p q : List Nm) : ∃ pa' nm', Ok (renameT S p q).2 pa' nm' := by
  obtain ⟨pa', nm', h, _⟩ := rename_both o p q
  exact ⟨pa', nm', h⟩

/-- The first tree. -/
def newTr : Tr := ⟨[newT 0 true], 1⟩
theorem new_ok : Ok newTr (fun _ => 0) (fun _ => ⟨#[]⟩) where
  root := ⟨newT 0 true, [], rfl, rfl, rfl⟩
  inc := List.pairwise_singleton _ _
  lt := fun x hx => by rw [List.mem_singleton.1 hx]; exact Nat.zero_lt_one
  par := fun x hx h => absurd (by rw [List.mem_singleton.1 hx]; rfl) h
  rank := ⟨fun _ => 0, fun x hx h => absurd (by rw [List.mem_singleton.1 hx]; rfl) h⟩
  sib := fun x hx _ _ h => absurd (by rw [List.mem_singleton.1 hx]; rfl) h
  right := fun x hx h => absurd (by rw [List.mem_singleton.1 hx]; rfl) h
  held := fun x hx n j => by
    rw [List.mem_singleton.1 hx]
    constructor
    · intro h; cases h
    · rintro ⟨h1, ⟨y, hy, rfl⟩, _⟩
      exact absurd (by rw [List.mem_singleton.1 hy]; rfl) h1
  srt := fun x hx => by rw [List.mem_singleton.1 hx]; exact List.Pairwise.nil
  file := fun x hx _ => by rw [List.mem_singleton.1 hx]; rfl
  att := fun x hx => by rw [List.mem_singleton.1 hx]; exact ⟨newT_ok _ _, rfl, rfl⟩
  cnt := by decide
  bytes := by decide
end
end Go.Proofs.Ytnigfnikajejaab
