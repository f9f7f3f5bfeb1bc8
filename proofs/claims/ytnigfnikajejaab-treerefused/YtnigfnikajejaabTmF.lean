/- A thing's rows: where a name is, what has it, one more, one less; a new thing. -/
import Derived.Test.YtnigfnikajejaabTmE
import Derived.Deep.RegionWith
namespace Go.Proofs.Ytnigfnikajejaab
open Go Go.RowKit

section
variable {w : World} {x : Th} {b : Nat} {dv hv : Value}
theorem ThB.lt (h : ThB w x b dv hv) : b < w.heap.size := lt_of_block h
theorem ThB.c0 (h : ThB w x b dv hv) : w.cell? ⟨b, 0, none⟩ = some (.int .i64 x.id) := by unfold ThB at h; simp [World.cell?, h]
theorem ThB.c1 (h : ThB w x b dv hv) : w.cell? ⟨b, 1, none⟩ = some (.bool x.dir) := by unfold ThB at h; simp [World.cell?, h]
theorem ThB.ca (h : ThB w x b dv hv) : w.cell? ⟨b, 2, none⟩ = some (.int .u32 x.a.f) ∧ w.cell? ⟨b, 3, none⟩ = some (.int .u64 x.a.s) ∧ w.cell? ⟨b, 4, none⟩ = some (.int .u32 x.a.u) ∧ w.cell? ⟨b, 5, none⟩ = some (.int .u32 x.a.g) ∧ w.cell? ⟨b, 6, none⟩ = some (.int .u32 x.a.m) ∧ w.cell? ⟨b, 7, none⟩ = some (.int .u32 x.a.a) ∧ w.cell? ⟨b, 8, none⟩ = some (.int .u32 x.a.t) := by
  unfold ThB at h
  refine ⟨?_, ?_, ?_, ?_, ?_, ?_, ?_⟩ <;> simp [World.cell?, h]
theorem ThB.c9 (h : ThB w x b dv hv) : w.cell? ⟨b, 9, none⟩ = some dv := by unfold ThB at h; simp [World.cell?, h]
theorem ThB.c10 (h : ThB w x b dv hv) : w.cell? ⟨b, 10, none⟩ = some hv := by unfold ThB at h; simp [World.cell?, h]
theorem ThB.fz (h : ThB w x b dv hv) (j : Nat) : w.frozen? ⟨b, j, none⟩ = false := by unfold ThB at h; simp [World.frozen?, h]
theorem ThB.fresh {w' : World} (h : ThB w x b dv hv) (hb : Below w.heap.size w w') : ThB w' x b dv hv := h.keep (S := fun _ => False) (Keeps.ofFresh hb) fun h => h
theorem ThB.setH (h : ThB w x b dv hv) (l : HL) (hv' : Value) : ThB (w.setCell ⟨b, 10, none⟩ hv') { x with h := l } b dv hv' := by
  unfold ThB at h ⊢
  simp only [World.setCell, Array.getElem?_modify, if_true, h]
  simp
theorem ThB.setD (h : ThB w x b dv hv) (d : List UInt8) (dv' : Value) : ThB (w.setCell ⟨b, 9, none⟩ dv') { x with d := d } b dv' hv := by
  unfold ThB at h ⊢
  simp only [World.setCell, Array.getElem?_modify, if_true, h]
  simp
theorem ThB.setS (h : ThB w x b dv hv) (n : Nat) : ThB (w.setCell ⟨b, 3, none⟩ (.int .u64 n)) { x with a := { x.a with s := n } } b dv hv := by
  unfold ThB at h ⊢
  simp only [World.setCell, Array.getElem?_modify, if_true, h]
  simp
theorem ThB.allocd (h : ThB w x b dv hv) (o : Obj) : ThB (w.alloc o) x b dv hv := h.keep ((Keeps.refl (fun _ => False) w).alloc o) fun h => h
end
/-- Where a thing lies, or nil. -/
def ptrO (B : Nat → Nat) : Option Nat → Value
  | none => .pointer none
  | some j => .pointer (some ⟨B j, 0, none⟩)

set_option maxHeartbeats 1000000 in
set_option maxRecDepth 100000 in
theorem eplace_c (B : Nat → Nat) (x : Th) (b : Nat) (dv hv : Value) (name : Nm) (w : World) (ht : ThB w x b dv hv) (he : ERow w B hv x.h) (hs : Srt x.h) (hl : x.h.length ≤ 1000) :
    Calls Try.prog 49 #[.pointer (some ⟨b, 0, none⟩), .string name] w fun e w' => e = .returned (.tuple #[.int .i64 (posH x.h name : Nat), .bool (getH x.h name).isSome]) ∧ Below w.heap.size w w' := by
  have h10 := ht.c10
  go_enter Try.func49, Try.ntmps49
  go_wp2_with fail
  refine (searchE_c B x.h hs hl name hv _ he).mono ?_
  rintro e w1 ⟨rfl, hb⟩
  go_wp2
  go_ret2
  exact ⟨rfl, hb⟩

set_option maxHeartbeats 1000000 in
set_option maxRecDepth 100000 in
theorem eget_c (B : Nat → Nat) (x : Th) (b : Nat) (dv hv : Value) (name : Nm) (w : World) (ht : ThB w x b dv hv) (he : ERow w B hv x.h) (hs : Srt x.h) (hl : x.h.length ≤ 1000) :
    Calls Try.prog 48 #[.pointer (some ⟨b, 0, none⟩), .string name] w fun e w' => e = .returned (ptrO B (getH x.h name)) ∧ Below w.heap.size w w' := by
  have HP := hidden (eplace_c B x b dv hv name w ht he hs hl)
  have HG := hidden (getH_at hs name)
  cases hg : getH x.h name with
  | none =>
    rw [hg] at HP
    go_enter Try.func48, Try.ntmps48
    go_wp2_with fail
    refine HP.out.mono ?_
    rintro e w1 ⟨rfl, hb⟩
    go_wp2
    go_ret
    exact ⟨rfl, hb⟩
  | some j =>
    rw [hg] at HP HG
    by_cases hp : posH x.h name < x.h.length
    · have hg2 := HG.out
      rw [dif_pos hp] at hg2
      have hj : (x.h[posH x.h name]).2 = j := by
        split at hg2
        · exact (Option.some.inj hg2).symm
        · cases hg2
      obtain ⟨ao, cap, rfl, hc, hcm, hne⟩ := he.shape
      obtain ⟨g, rfl⟩ := hne (by rintro e; rw [e] at hp; simp at hp)
      have HT := hidden ht
      have HE := hidden he
      unfold maxLen at hcm
      have hpi : ((posH x.h name : Nat) : Int) < (x.h.length : Int) := by omega
      clear ht he hs hg hg2 hne
      go_enter Try.func48, Try.ntmps48
      go_wp2_with fail
      refine HP.out.mono ?_
      rintro e w1 ⟨rfl, hb⟩
      have h10 := (HT.out.fresh hb).c10
      obtain ⟨c0, c1⟩ := (HE.out.fresh hb).at _ hp
      rw [hj] at c1
      have HB := hidden hb
      clear hb c0 hj
      generalize posH x.h name = p at *
      go_wp2
      go_ret
      exact ⟨rfl, HB.out⟩
    · have := HG.out
      rw [dif_neg hp] at this
      cases this

set_option maxHeartbeats 4000000 in
set_option maxRecDepth 100000 in
theorem eput_c (B : Nat → Nat) (x : Th) (b : Nat) (dv hv : Value) (name : Nm) (j : Nat) (w : World) (ht : ThB w x b dv hv) (he : ERow w B hv x.h) (hs : Srt x.h) (hl : x.h.length ≤ 1000) (hn : name.size ≤ 1000) (hbv : hv.ownBlock ≠ some b) :
    Calls Try.prog 25 #[.pointer (some ⟨b, 0, none⟩), .string name, .pointer (some ⟨B j, 0, none⟩)] w fun e w' => e = .returned (.tuple #[]) ∧ ∃ hv', ThB w' { x with h := insH x.h name j } b dv hv' ∧ ERow w' B hv' (insH x.h name j) ∧ Keeps (fun k => k = b ∨ hv.ownBlock = some k) w w' ∧ (hv'.ownBlock = hv.ownBlock ∨ ∀ k, hv'.ownBlock = some k → w.heap.size ≤ k) := by
  have HP := hidden (eplace_c B x b dv hv name w ht he hs hl)
  have hpl := posH_le x.h name
  have HT := hidden ht
  have HE := hidden he
  have hblt := ht.lt
  have HR : Hid (ecells B (insH x.h name j) = (ecells B x.h).take (posH x.h name * 2) ++ [.string name, .pointer (some ⟨B j, 0, none⟩)] ++ (ecells B x.h).drop (posH x.h name * 2)) := by
    show _ = _
    rw [ecells_take, ecells_drop]
    show ecells B (_ ++ _ :: _) = _
    rw [ecells_append, List.append_assoc]
    rfl
  have HL := hidden (insH_length x.h name j)
  obtain ⟨ao, cap, rfl, _⟩ := he.shape
  clear ht he hs
  go_enter Try.func25, Try.ntmps25
  go_wp2_with fail
  refine HP.out.mono ?_
  rintro e w1 ⟨rfl, hb⟩
  have HT1 := hidden (HT.out.fresh hb)
  have HE1 := hidden (HE.out.fresh hb)
  have HB := hidden hb
  have h10 := HT1.out.c10
  have hfz := HT1.out.fz 10
  clear hb HP HT HE
  generalize hpp : posH x.h name = p at *
  clear hpp
  have hnew : ∀ u ∈ ([.string name, .pointer (some ⟨B j, 0, none⟩)] : List Value), u.oneCell' = true := fun u hu => by
    rcases List.mem_cons.1 hu with rfl | hu
    · rfl
    · rw [List.mem_singleton.1 hu]; rfl
  have HI : Hid (∀ w2, Below w1.heap.size w1 w2 → Calls Try.prog 50 #[.slice ao x.h.length cap, .int .i64 p, .slice (some ⟨w2.heap.size, 0, none⟩) 1 1] (w2.alloc (.cells #[.string name, .pointer (some ⟨B j, 0, none⟩)] 90)) fun e w3 =>
      ∃ hv', e = .returned hv' ∧ ERow w3 B hv' (insH x.h name j) ∧ ThB w3 x b dv (.slice ao x.h.length cap) ∧ Keeps (fun k => k = b ∨ (Value.slice ao x.h.length cap).ownBlock = some k) w w3 ∧ (hv'.ownBlock = (Value.slice ao x.h.length cap).ownBlock ∨ ∀ k, hv'.ownBlock = some k → w.heap.size ≤ k)) := fun w2 hb2 => by
    have hE2 := HE1.out.fresh hb2
    have hT2 := HT1.out.fresh hb2
    have hTa : ThB (w2.alloc (.cells #[.string name, .pointer (some ⟨B j, 0, none⟩)] 90)) x b dv (.slice ao x.h.length cap) := hT2.keep ((Keeps.refl (fun _ => False) w2).alloc _) fun h => h
    refine (insE_c 0 x.h.length p (.slice ao x.h.length cap) (ecells B x.h) [.string name, .pointer (some ⟨B j, 0, none⟩)] _ (World.ownsRow.alloc hE2 _) (by omega) hpl (ecells_one B x.h) w2.heap.size (heap_alloc_new w2 _) (fun e => by have := (World.ownsRow.lt hE2 _ e).2; omega) rfl hnew (Nat.zero_le _)).mono ?_
    rintro e w3 ⟨hv', rfl, ho, hk, hat⟩
    have hsz := HB.out.size
    have hsz2 := hb2.size
    refine ⟨hv', rfl, ?_, hTa.keep hk hbv, ?_, hat.imp id fun h k e => ?_⟩
    · unfold ERow
      rw [HL.out, HR.out]
      exact ho
    · exact ((Keeps.ofFresh HB.out).trans ((Keeps.ofBelow hb2 fun k hk1 hk2 => absurd hk2 (by omega)).alloc _)).trans (hk.mono fun k _ h => .inr h)
    · have := h k e
      simp at this
      omega
  go_wp2_with fail
  go_region_with (first
    | (go_at_call 45; refine (sclone_c name _ (by omega)).mono ?_; rintro e w2 ⟨rfl, hb2⟩; have HB2 := hidden (((Below.refl w1.heap.size w1).drew).trans hb2); have k10 := (HT1.out.fresh HB2.out).c10; have kfz := (HT1.out.fresh HB2.out).fz 10; have kb := (HT1.out.fresh HB2.out).lt; have kne : ¬ b = w2.heap.size := Nat.ne_of_lt kb; have ka := ((HT1.out.fresh HB2.out).allocd (.cells #[.string name, .pointer (some ⟨B j, 0, none⟩)] 90)).c10; clear hb2)
    | (go_at_call 50; refine (HI.out w2 HB2.out).mono ?_; rintro e w3 ⟨hv', rfl, ho, ht3, hk, hat⟩; obtain ⟨ao3, cp3, rfl, _⟩ := ho.shape; have kfz3 := ht3.fz 10; have k310 := ht3.c10; have HO := hidden ho; have HT3 := hidden ht3; have HK := hidden hk; have HA := hidden hat; clear ho hk hat ht3))
  all_goals
    go_end0
    refine ⟨rfl, _, HT3.out.setH _ _, ERow.keep HO.out ((Keeps.refl (fun k => k = b) w3).setCell (p := ⟨b, 10, none⟩) (.inl rfl) _) (fun k e h => ?_), HK.out.setCell (.inl (.inl rfl)) _, HA.out⟩
    subst h
    rcases HA.out with h | h
    · exact hbv (by rw [← h]; exact e)
    · have := h _ e
      omega

set_option maxHeartbeats 4000000 in
set_option maxRecDepth 100000 in
theorem edrop_c (B : Nat → Nat) (x : Th) (b : Nat) (dv hv : Value) (name : Nm) (j : Nat) (w : World) (ht : ThB w x b dv hv) (he : ERow w B hv x.h) (hs : Srt x.h) (hl : x.h.length ≤ 1000) (hg : getH x.h name = some j) (hbv : hv.ownBlock ≠ some b) :
    Calls Try.prog 38 #[.pointer (some ⟨b, 0, none⟩), .string name] w fun e w' => e = .returned (.tuple #[]) ∧ ∃ hv', ThB w' { x with h := delH x.h name } b dv hv' ∧ ERow w' B hv' (delH x.h name) ∧ Keeps (fun k => k = b ∨ hv.ownBlock = some k) w w' ∧ hv'.ownBlock = hv.ownBlock := by
  have HP := hidden (eplace_c B x b dv hv name w ht he hs hl)
  rw [hg] at HP
  obtain ⟨hp, hd⟩ := delH_at hs hg
  have HT := hidden ht
  have HE := hidden he
  obtain ⟨ao, cap, rfl, hcc, hcm, hne⟩ := he.shape
  obtain ⟨g, rfl⟩ := hne (by rintro e; rw [e] at hp; simp at hp)
  have HD : Hid (ecells B (delH x.h name) = (ecells B x.h).take (posH x.h name * 2) ++ (ecells B x.h).drop ((posH x.h name + 1) * 2)) := by
    show _ = _
    rw [ecells_take, ecells_drop, hd, ecells_append]
  have HDL : Hid ((delH x.h name).length = x.h.length - 1) := by
    show _ = _
    rw [hd, List.length_append, List.length_take, List.length_drop]
    omega
  clear ht he hs hd hne hg
  go_enter Try.func38, Try.ntmps38
  go_wp2_with fail
  refine HP.out.mono ?_
  rintro e w1 ⟨rfl, hb⟩
  have HT1 := hidden (HT.out.fresh hb)
  have HE1 := hidden (HE.out.fresh hb)
  have HB := hidden hb
  have h10 := HT1.out.c10
  clear hb HP HT HE
  generalize posH x.h name = p at *
  have hpi : (p : Int) + 1 ≤ (x.h.length : Int) := by omega
  have HI : Hid (Calls Try.prog 57 #[.slice (some ⟨g, 0, none⟩) x.h.length cap, .int .i64 p, .int .i64 (p + 1 : Nat)] w1 fun e w3 =>
      ∃ cp, e = .returned (.slice (some ⟨g, 0, none⟩) (x.h.length - 1) cp) ∧ ERow w3 B (.slice (some ⟨g, 0, none⟩) (x.h.length - 1) cp) (delH x.h name) ∧ ThB w3 x b dv (.slice (some ⟨g, 0, none⟩) x.h.length cap) ∧ Keeps (fun k => k = b ∨ k = g) w w3) := by
    refine (delE_c 0 g x.h.length cap p (p + 1) (ecells B x.h) _ HE1.out rfl hp (by omega) (ecells_one B x.h)).mono ?_
    rintro e w3 ⟨rfl, ho, hk⟩
    refine ⟨cap, rfl, ?_, HT1.out.keep hk (fun e => hbv (by rw [e]; rfl)), (Keeps.ofFresh HB.out).trans (hk.mono fun k _ h => .inr h)⟩
    unfold ERow
    rw [HDL.out, HD.out]
    exact ho
  have hcast : ((p + 1 : Nat) : Int) = (p : Int) + 1 := by omega
  rw [hcast] at HI
  go_wp2_with fail
  refine HI.out.mono ?_
  rintro e w3 ⟨cp, rfl, ho, ht3, hk⟩
  have k310 := ht3.c10
  have kfz := ht3.fz 10
  have HO := hidden ho
  have HT3 := hidden ht3
  have HK := hidden hk
  clear ho ht3 hk
  go_wp2
  go_end0
  refine ⟨rfl, _, HT3.out.setH _ _, ERow.keep HO.out ((Keeps.refl (fun k => k = b) w3).setCell (p := ⟨b, 10, none⟩) (.inl rfl) _) (fun k e h => ?_), (HK.out.mono fun k _ h => h.imp id fun h => by rw [h]; rfl).setCell (.inl (.inl rfl)) _, rfl⟩
  subst h
  exact hbv e

set_option maxHeartbeats 1000000 in
set_option maxRecDepth 100000 in
theorem newThing_c (id : Nat) (dir : Bool) (w : World) :
    Calls Try.prog 20 #[.int .i64 id, .bool dir] w fun e w' => e = .returned (.pointer (some ⟨w.heap.size, 0, none⟩)) ∧ ThB w' (newT id dir) w.heap.size (.slice none 0 0) (.slice none 0 0) ∧ Below w.heap.size w w' := by
  cases dir
  · go_enter Try.func20, Try.ntmps20
    go_wp2
    go_ret
    exact ⟨rfl, heap_alloc_new w _, (Below.refl _ _).alloc (Nat.le_refl _) _⟩
  · go_enter Try.func20, Try.ntmps20
    go_wp2
    go_ret
    refine ⟨rfl, ?_, ?_⟩
    · exact heap_alloc_new w _
    · exact (Below.refl _ _).alloc (Nat.le_refl _) _
end Go.Proofs.Ytnigfnikajejaab
