/- Load, in memory: a thing and all that it holds. -/
import Derived.Test.YtnigfnikajejaaaTvO
namespace Go.Proofs.Ytnigfnikajejaaa
open Go Go.RowKit

theorem data_same {bs : List UInt8} {x y : Hd} {s s' : Ld} (h : dataO bs x s = some (y, s')) : y.id = x.id ∧ y.dir = x.dir ∧ y.a = x.a ∧ s'.ids = s.ids := by
  unfold dataO at h
  split at h
  · split at h
    · obtain ⟨rfl, rfl⟩ := Prod.mk.inj (Option.some.inj h)
      exact ⟨rfl, rfl, rfl, rfl⟩
    · cases h
  · split at h
    · cases h
    · obtain ⟨rfl, rfl⟩ := Prod.mk.inj (Option.some.inj h)
      exact ⟨rfl, rfl, rfl, rfl⟩
section
variable {w w' : World} {R R' : Nat → Role} {a ar : Nat} {g : Option Nat} {bs : List UInt8} {nx : Nat} {L : List Th} {B : Nat → Nat} {dv hv : Nat → Value} {tv : Value} {s : Ld}
theorem findT_ids (h : LS w R a ar g bs nx L B dv hv tv s) (i : Nat) : (findT L (i : Int)).isSome = true ↔ i ∈ s.ids := by
  rw [h.ids i]
  constructor
  · intro e
    obtain ⟨x, hx⟩ := Option.isSome_iff_exists.1 e
    obtain ⟨h1, h2⟩ := (findT_some h.inc _ _).1 hx
    exact ⟨x, h1, by omega⟩
  · rintro ⟨x, hx, e⟩
    rw [findT_nat h.inc hx e]; rfl
/-- A thing was remembered. -/
theorem LS.put (h : LS w R a ar g bs nx L B dv hv tv s) {x : Th} (hni : x.id ∉ s.ids) (hc : s.ids.length < 200) (hxd : x.d = []) (hxh : x.h = []) {b : Nat} (hb0 : w.heap.size ≤ b) {w4 : World} {p : Nat} {y : Int} (hr4 : WR w4 ar g bs p y) (hk4 : Keeps (fun k => k = ar) w w4) (hb4 : ThB w4 x b (.slice none 0 0) (.slice none 0 0)) {tv' : Value}
    (htop : w'.heap[a]? = some (.cells #[tv', .int .i64 nx, .int .i64 (sizeT L)] 65 (0, 0)))
    (hrow : w'.ownsRow 0 61 1 tv' (L.length + 1) ((tcells B L).take (posT L x.id) ++ [.pointer (some ⟨b, 0, none⟩)] ++ (tcells B L).drop (posT L x.id)))
    (hk : Keeps (fun k => k = a ∨ tv.ownBlock = some k) w4 w') (hat : tv'.ownBlock = tv.ownBlock ∨ ∀ k, tv'.ownBlock = some k → w4.heap.size ≤ k) :
    ∃ R', LS w' R' a ar g bs nx (insT L x) (upd B x.id b) (upd dv x.id (.slice none 0 0)) (upd hv x.id (.slice none 0 0)) tv' ⟨p, y, x.id :: s.ids, s.z⟩ ∧ MvR ar R R' w w' := by
  have hnl : ∀ z ∈ L, z.id ≠ x.id := fun z hz e => hni ((h.ids x.id).2 ⟨z, hz, e⟩)
  have hTk : Keeps (fun k => k = ar ∨ k = a ∨ tv.ownBlock = some k) w w' := (hk4.mono fun k _ h => .inl h).trans (hk.mono fun k _ h => .inr h)
  have hrr : ∀ k, tv.ownBlock = some k → R k = .row := h.tx.rrow
  have hcs : tcells (upd B x.id b) (insT L x) = (tcells B L).take (posT L x.id) ++ [.pointer (some ⟨b, 0, none⟩)] ++ (tcells B L).drop (posT L x.id) := by
    rw [tcells_insT, upd_self]
    have : tcells (upd B x.id b) L = tcells B L := by
      unfold tcells
      exact List.map_congr_left fun z hz => by rw [upd_ne _ _ (hnl z hz)]
    rw [this]
  have hsz4 := hk4.size
  have hlb : b < w4.heap.size := hb4.lt
  have hba : b ≠ a := fun e => by have := lt_of_block h.tx.top; omega
  have hbr : tv.ownBlock ≠ some b := fun e => by have := (World.ownsRow.lt h.tx.row b e).2; omega
  obtain ⟨R', h1, h2⟩ := h.tx.put (x := x) hnl (fun z hz e he e2 => by obtain ⟨u, hu, hu2⟩ := h.kids z hz e he; exact hnl u hu (by rw [hu2, e2])) hxd hxh (h := b) hb0 (L := insT L x) (tv' := tv') (fun z hz => (mem_insT L x z).1 hz) (insT_size L x hxd) hTk (fun k _ e => by
      rcases e with e | e | e
      · rw [e]; exact .inr (.inr h.ra)
      · rw [e]; exact .inr (.inl h.tx.ra)
      · exact .inl (hrr k e)) htop (hb4.keep hk (fun e => e.elim hba hbr)) (by rw [hcs, insT_length]; exact hrow) (fun k e => by
      rcases hat with e2 | e2
      · rw [e2] at e; exact .inl ⟨(World.ownsRow.lt h.tx.row k e).2, hrr k e⟩
      · have := e2 k e
        exact .inr ⟨by omega, by omega⟩)
  obtain ⟨_, r1, r2⟩ := h.reader (R' := R') (Keeps.refl (fun _ => False) w) (fun _ _ h => h.elim) h2
  have hgl : bs ≠ [] → ∀ k, g = some k → k < w.heap.size := fun hb k e => by
    rcases Nat.lt_or_ge k w.heap.size with h1 | h1
    · exact h1
    · exact absurd rfl (h.rd.apartB h1 hb k e)
  refine ⟨R', ⟨h1, ?_, r1, r2, insT_inc h.inc hnl, fun i => ?_, List.nodup_cons.2 ⟨hni, h.nod⟩, ?_, ?_, ?_, h.bytes, ?_⟩, ⟨h2, hTk.mono fun k _ e => ?_⟩⟩
  · refine hr4.keepE hk (fun e => ?_) (fun hb k e e2 => ?_)
    · rcases e with e | e
      · have := h.ra; rw [e, h.tx.ra] at this; cases this
      · have := h.ra; rw [hrr _ e] at this; cases this
    · have h3 := h.rg hb k e
      rcases e2 with e2 | e2
      · rw [e2, h.tx.ra] at h3; cases h3
      · rw [hrr _ e2] at h3; cases h3
  · show i ∈ x.id :: s.ids ↔ _
    rw [List.mem_cons, h.ids i]
    constructor
    · rintro (e | ⟨z, hz, e⟩)
      · exact ⟨x, (mem_insT L x x).2 (.inr rfl), e.symm⟩
      · exact ⟨z, (mem_insT L x z).2 (.inl hz), e⟩
    · rintro ⟨z, hz, e⟩
      rcases (mem_insT L x z).1 hz with hz | rfl
      · exact .inr ⟨z, hz, e⟩
      · exact .inl e.symm
  · rw [insT_length]; show L.length + 1 = (x.id :: s.ids).length; rw [List.length_cons, h.len]
  · rw [insT_length, h.len]; omega
  · rw [insT_size L x hxd]; exact h.sz
  · intro z hz e he
    rcases (mem_insT L x z).1 hz with hz | rfl
    · obtain ⟨u, hu, e2⟩ := h.kids z hz e he
      exact ⟨u, (mem_insT L x u).2 (.inl hu), e2⟩
    · rw [hxh] at he; cases he
  · rcases e with e | e | e
    · exact .inl e
    · exact .inr (by rw [e, h.tx.ra]; intro e; cases e)
    · exact .inr (by rw [hrr k e]; intro e; cases e)

set_option maxHeartbeats 8000000 in
set_option maxRecDepth 100000 in
theorem load_ok (hnx : nx ≤ 4611686018427387904) : ∀ F, LoadOk a ar g bs nx F := by
  intro F
  induction F with
  | zero =>
    intro w R L B dv hv tv s h hF
    have h1 := h.len
    have h2 := h.cnt
    omega
  | succ F ih =>
    intro w R L B dv hv tv s h hF
    have HL := hidden h
    have HIH := hidden ih
    have HFI := hidden hF
    have HR : Hid (headO bs nx s = if nx ≤ val (tk bs s.p s.y 8).1 ∨ 1 < val (ldK bs s).1 ∨ (ldG bs s).1.f ≠ 15 then none
      else if val (tk bs s.p s.y 8).1 ∈ s.ids ∨ 200 ≤ s.ids.length then none
      else some (⟨val (tk bs s.p s.y 8).1, decide (val (ldK bs s).1 = 1), (ldG bs s).1, []⟩, ⟨(ldG bs s).2.1, (ldG bs s).2.2, val (tk bs s.p s.y 8).1 :: s.ids, s.z⟩)) := rfl
    have HRR := hidden (loadO_eq bs nx F s)
    generalize loadO bs nx (F + 1) s = rr at HRR ⊢
    have HU := hidden (u64_r w h.rd)
    have HY : Hid (∀ W, WR W ar g bs (tk bs s.p s.y 8).2.1 (tk bs s.p s.y 8).2.2 → _) := fun W hW => byte_r W hW
    rw [show tk bs (tk bs s.p s.y 8).2.1 (tk bs s.p s.y 8).2.2 1 = ldK bs s from rfl] at HY
    have HG : Hid (∀ W, WR W ar g bs (ldK bs s).2.1 (ldK bs s).2.2 → _) := fun W hW => get_c W hW
    rw [show getA bs (ldK bs s).2.1 (ldK bs s).2.2 = ldG bs s from rfl] at HG
    clear h ih hF
    go_enter Try.func47, Try.ntmps47
    go_wp2_with fail
    refine HU.out.mono ?_
    rintro e w1 ⟨rfl, ht1⟩
    have HL1 := hidden (HL.out.took ht1)
    have HK1 := hidden ht1.keeps
    clear ht1
    go_wp2_with fail
    refine (HY.out w1 HL1.out.rd).mono ?_
    rintro e w2 ⟨rfl, ht2⟩
    have HL2 := hidden (HL1.out.took ht2)
    have HK2 : Hid (Keeps (fun k => k = ar) w w2) := HK1.out.trans ht2.keeps
    clear ht2
    obtain ⟨v, hv0⟩ : ∃ v, v = val (tk bs s.p s.y 8).1 := ⟨_, rfl⟩
    obtain ⟨kd, hkd⟩ : ∃ kd, kd = val (ldK bs s).1 := ⟨_, rfl⟩
    rw [← hv0, ← hkd] at HR ⊢
    obtain ⟨iv, hiv⟩ : ∃ iv : Int, wrap64 (v : Int) = iv := ⟨_, rfl⟩
    have HIV := hidden hiv
    have hnw : IntKind.u64.wrap (nx : Int) = (nx : Int) := by simp [IntKind.wrap, IntKind.bits, IntKind.signed]; omega
    clear hv0 hkd
    go_wp2_with fail
    refine (HG.out w2 HL2.out.rd).mono ?_
    rintro e w3 ⟨rfl, ht3⟩
    have HL3 := hidden (HL2.out.took ht3)
    have HK3 : Hid (Keeps (fun k => k = ar) w w3) := HK2.out.trans ht3.keeps
    clear ht3
    obtain ⟨A, hA⟩ : ∃ A, A = (ldG bs s).1 := ⟨_, rfl⟩
    rw [← hA] at HR ⊢
    rw [show A.v = .agg #[.int .u32 A.f, .int .u64 A.s, .int .u32 A.u, .int .u32 A.g, .int .u32 A.m, .int .u32 A.a, .int .u32 A.t] from rfl]
    have HA := hidden hA
    clear hA
    go_upto_region 3 with fail
    have hblk := heap_alloc_new w3 (.cells #[.int .i64 iv, .bool ((kd : Int) == 1), .int .u32 A.f, .int .u64 A.s, .int .u32 A.u, .int .u32 A.g, .int .u32 A.m, .int .u32 A.a, .int .u32 A.t, .slice none 0 0, .slice none 0 0] 73)
    have hkA := (Keeps.refl (fun _ => False) w3).alloc (.cells #[.int .i64 iv, .bool ((kd : Int) == 1), .int .u32 A.f, .int .u64 A.s, .int .u32 A.u, .int .u32 A.g, .int .u32 A.m, .int .u32 A.a, .int .u32 A.t, .slice none 0 0, .slice none 0 0] 73)
    have HL4 := hidden (HL3.out.still hkA)
    have hg0 := lt_of_block hblk
    have hgw := HK3.out.size
    have hno : R w3.heap.size = .no := by
      by_cases e : R w3.heap.size = .no
      · exact e
      · have := HL3.out.tx.lim _ e; omega
    have HK4 : Hid (Keeps (fun k => k = ar) w (w3.alloc (.cells #[.int .i64 iv, .bool ((kd : Int) == 1), .int .u32 A.f, .int .u64 A.s, .int .u32 A.u, .int .u32 A.g, .int .u32 A.m, .int .u32 A.a, .int .u32 A.t, .slice none 0 0, .slice none 0 0] 73))) := HK3.out.alloc _
    generalize w3.alloc (.cells #[.int .i64 iv, .bool ((kd : Int) == 1), .int .u32 A.f, .int .u64 A.s, .int .u32 A.u, .int .u32 A.g, .int .u32 A.m, .int .u32 A.a, .int .u32 A.t, .slice none 0 0, .slice none 0 0] 73) = w4 at hblk hkA HL4 hg0 HK4 ⊢
    generalize w3.heap.size = h0 at hblk hg0 hgw hno ⊢
    have hnx1 := HL4.out.tx.t1
    have hf2 : w4.cell? ⟨h0, 2, none⟩ = some (.int .u32 A.f) := by simp [World.cell?, hblk]
    have HM4 : Hid (MvR ar R R w w4) := MvR.took HK4.out
    clear hkA
    by_cases hb1 : nx ≤ v
    · have hi1 : (nx : Int) ≤ (v : Int) := by omega
      have hn : rr = none := by rw [HRR.out, HR.out, if_pos (.inl hb1)]
      subst hn
      clear hiv
      go_wp2_with fail
      go_ret2
      exact ⟨rfl, R, HM4.out⟩
    · have hi1 : ¬ (nx : Int) ≤ (v : Int) := by omega
      by_cases hb2 : 1 < kd
      · have hi2 : (1 : Int) < (kd : Int) := by omega
        have hn : rr = none := by rw [HRR.out, HR.out, if_pos (.inr (.inl hb2))]
        subst hn
        clear hiv
        go_wp2_with fail
        go_ret2
        exact ⟨rfl, R, HM4.out⟩
      · have hi2 : ¬ (1 : Int) < (kd : Int) := by omega
        by_cases hb3 : A.f = 15
        · have hi3 : ((A.f : Int) != 15) = false := by simp; omega
          have hr1 := HR.out
          rw [if_neg (by rintro (h | h | h); exact hb1 h; exact hb2 h; exact h hb3)] at hr1
          have HR1 := hidden hr1
          have hive : iv = (v : Int) := by rw [← HIV.out]; unfold wrap64; omega
          clear hiv hr1 hb3
          subst hive
          obtain ⟨x0, hx0⟩ : ∃ x0 : Th, x0 = ⟨v, decide (kd = 1), A, [], []⟩ := ⟨_, rfl⟩
          have hid0 : x0.id = v := by rw [hx0]
          have hb4 : ThB w4 x0 h0 (.slice none 0 0) (.slice none 0 0) := by
            have e : ((kd : Int) == 1) = decide (kd = 1) := by rw [Bool.eq_iff_iff]; simp; omega
            rw [e] at hblk
            rw [hx0]
            exact hblk
          have HB4 := hidden hb4
          have HREM := hidden (remember_c HL4.out.tx HL4.out.inc HL4.out.cnt hb4 hno)
          have HX0 := hidden hx0
          have HID0 := hidden hid0
          have hcond : ((findT (⟨L, nx⟩ : Tr).ths (x0.id : Int)).isSome = true ∨ 200 ≤ (⟨L, nx⟩ : Tr).ths.length) ↔ (v ∈ s.ids ∨ 200 ≤ s.ids.length) := by
            rw [hid0, findT_ids HL.out v, show (⟨L, nx⟩ : Tr).ths.length = s.ids.length from HL.out.len]
          clear hb4 hx0 hblk hid0
          go_wp2_with fail
          refine HREM.out.mono ?_
          intro e w5 h5
          by_cases hc2 : v ∈ s.ids ∨ 200 ≤ s.ids.length
          · rw [if_pos (hcond.2 hc2)] at h5
            obtain ⟨rfl, hb5⟩ := h5
            have hn : rr = none := by rw [HRR.out, HR1.out, if_pos hc2]
            subst hn
            clear hcond hc2
            go_wp2_with fail
            go_ret2
            exact ⟨rfl, R, HM4.out.trans (MvR.fresh hb5)⟩
          · rw [if_neg (fun h => hc2 (hcond.1 h))] at h5
            obtain ⟨rfl, tv', htop5, hrow5, hk5, hat5⟩ := h5
            have hr2 := HR1.out
            rw [if_neg hc2] at hr2
            obtain ⟨R5, hS5, hm5⟩ := HL.out.put (x := x0) (by rw [HID0.out]; exact fun h => hc2 (.inl h)) (by omega) (by rw [HX0.out]) (by rw [HX0.out]) hgw HL4.out.rd HK4.out HB4.out htop5 hrow5 hk5 hat5
            rw [HID0.out] at hS5
            have HS5 := hidden hS5
            have HM5 := hidden hm5
            have HR2 := hidden hr2
            have HNI := hidden (fun h => hc2 (.inl h) : v ∉ s.ids)
            have hx05 : x0 ∈ insT L x0 := (mem_insT L x0 x0).2 (.inr rfl)
            have HX05 := hidden hx05
            have hB5 : upd B v h0 x0.id = h0 := by rw [HID0.out, upd_self]
            have HD5 := hidden (loadData_c hS5 hx05 (by rw [HX0.out]))
            rw [hB5, HID0.out] at HD5
            clear hcond hc2 htop5 hrow5 hk5 hat5 hr2 hS5 hm5 hx05
            go_wp2_with fail
            refine HD5.out.mono ?_
            intro e w6 h6
            have hxd : x0.dir = decide (kd = 1) := by rw [HX0.out]
            have hxa : x0.a = A := by rw [HX0.out]
            rw [hxd, hxa] at h6
            have HXD := hidden hxd
            have HXA := hidden hxa
            clear hxd hxa
            cases hdat : dataO bs ⟨v, decide (kd = 1), A, []⟩ ⟨(ldG bs s).2.1, (ldG bs s).2.2, v :: s.ids, s.z⟩ with
            | none =>
              rw [hdat] at h6
              obtain ⟨rfl, hm6⟩ := h6
              have hn : rr = none := by rw [HRR.out, HR2.out]; simp only [hdat]
              subst hn
              clear hdat
              go_wp2_with fail
              go_ret2
              exact ⟨rfl, R5, HM5.out.trans hm6⟩
            | some q =>
              obtain ⟨y, s6⟩ := q
              rw [hdat] at h6
              obtain ⟨rfl, R6, dv6, hv6, hS6, hm6⟩ := h6
              obtain ⟨y1, y2, y3, y4⟩ := data_same hdat
              have y1 : y.id = v := y1
              have y2 : y.dir = decide (kd = 1) := y2
              have y3 : y.a = A := y3
              have y4 : s6.ids = v :: s.ids := y4
              obtain ⟨x6, hx6⟩ : ∃ x6, x6 = setD y.d x0 := ⟨_, rfl⟩
              have hx6m : x6 ∈ setT (insT L x0) v (setD y.d) := mem_setT.2 ⟨x0, HX05.out, by rw [if_pos HID0.out, hx6]⟩
              have hx6i : x6.id = v := by rw [hx6]; exact HID0.out
              have hx6h : x6.h = [] := by rw [hx6]; show x0.h = []; rw [HX0.out]
              have hx6d : x6.dir = y.dir := by rw [hx6, y2]; exact HXD.out
              have HHD := hidden (loadHeld_c HIH.out hS6 hx6m hx6h (by have := HFI.out; rw [y4, List.length_cons]; omega))
              rw [hx6i, hx6d, upd_self] at HHD
              have HD := hidden hdat
              have HX6 : Hid (x6 = setH [] (setD y.d x0) ∧ x6.id = v ∧ y.id = v ∧ (∀ k, setH k.heads x6 = thH y k) ∧ x6 ∈ setT (insT L x0) v (setD y.d)) := ⟨by rw [hx6]; unfold setH setD; rw [HX0.out], hx6i, y1, fun k => by
                rw [hx6]
                unfold setH setD thH
                rw [HID0.out, HXD.out, HXA.out, y1, y2, y3], hx6m⟩
              have HM6 := hidden (HM5.out.trans hm6)
              clear hx6 hx6m hx6i hx6h hx6d y1 y2 y3 y4 hm6 hS6 hdat
              go_wp2_with fail
              refine HHD.out.mono ?_
              intro e w7 h7
              cases hhl : heldO bs nx F y.dir s6 with
              | none =>
                rw [hhl] at h7
                obtain ⟨rfl, R7, hm7⟩ := h7
                have hn : rr = none := by rw [HRR.out, HR2.out]; simp only [HD.out, hhl]
                subst hn
                clear hhl
                go_wp2_with fail
                go_ret2
                exact ⟨rfl, R7, HM6.out.trans hm7⟩
              | some q =>
                obtain ⟨k, s7⟩ := q
                rw [hhl] at h7
                obtain ⟨rfl, R7, L7, B7, dv7, hv7, tv7, hS7, hm7, hmem7, hB7⟩ := h7
                have hn : rr = some (y, k, s7) := by rw [HRR.out, HR2.out]; simp only [HD.out, hhl]
                subst hn
                have HF : Hid (LS w7 R7 a ar g bs nx L7 B7 dv7 hv7 tv7 s7 ∧ MvR ar R R7 w w7 ∧ (∀ z, z ∈ L7 ↔ z ∈ L ∨ z = thH y k ∨ z ∈ k.ths) ∧ (∀ z ∈ L, B7 z.id = B z.id) ∧ B7 y.id = h0) := by
                  obtain ⟨e0, e1, e2, e3, e4⟩ := HX6.out
                  have hnl : ∀ z ∈ L, z.id ≠ v := fun z hz e => HNI.out ((HL.out.ids v).2 ⟨z, hz, e⟩)
                  have hin : ∀ z, (z ∈ setT (insT L x0) v (setD y.d) ∧ z.id ≠ v) ↔ z ∈ L := fun z => by
                    rw [mem_setT]
                    constructor
                    · rintro ⟨⟨u, hu, rfl⟩, hne⟩
                      by_cases e : u.id = v
                      · rw [if_pos e] at hne; exact absurd e hne
                      · rw [if_neg e]
                        rcases (mem_insT L x0 u).1 hu with h | h
                        · exact h
                        · exact absurd (by rw [h]; exact HID0.out) e
                    · intro hz
                      exact ⟨⟨z, (mem_insT L x0 z).2 (.inl hz), by rw [if_neg (hnl z hz)]⟩, hnl z hz⟩
                  refine ⟨hS7, HM6.out.trans hm7, fun z => ?_, fun z hz => ?_, ?_⟩
                  · rw [hmem7 z, e1, hin z, e3 k]
                  · rw [hB7 z ((hin z).2 hz).1, upd_ne _ _ (hnl z hz)]
                  · have := hB7 _ e4
                    rw [e1, upd_self] at this
                    rw [e2, this]
                clear hS7 hm7 hmem7 hB7 hhl
                go_wp2_with fail
                go_ret2
                obtain ⟨q1, q2, q3, q4, q5⟩ := HF.out
                exact ⟨R7, L7, B7, dv7, hv7, tv7, by rw [q5]; rfl, q1, q2, q3, q4⟩
        · have hi3 : ((A.f : Int) != 15) = true := by simp; omega
          have hn : rr = none := by rw [HRR.out, HR.out, if_pos (.inr (.inr hb3))]
          subst hn
          clear hiv hb3
          go_wp2_with fail
          go_ret2
          exact ⟨rfl, R, HM4.out⟩
end
end Go.Proofs.Ytnigfnikajejaaa
