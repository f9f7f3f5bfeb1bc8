/- What isWhole, readService, readLogin and readPass tell. -/
import Derived.Test.YtpildjijaigmfaaAuA
import Derived.Deep.RegionWith
namespace Go.Proofs.Ytpildjijaigmfaa
open Go Go.RowKit

def strB (l : List UInt8) : ByteArray := ⟨l.toArray⟩
def wholeB (bs : List UInt8) (p : Nat) (why : Int) : Bool := (ends bs p why).1 == 0

set_option maxHeartbeats 400000 in
theorem isWhole_c (w : World) {a : Nat} {g : Option Nat} {bs : List UInt8} {p : Nat} {why : Int} (h : WR w a g bs p why) :
    Calls Try.prog 66 #[.pointer (some ⟨a, 0, none⟩)] w fun e w' => e = .returned (.bool (wholeB bs p why)) ∧ Keeps (fun _ => False) w w' := by
  have HN := hidden (end_r w h)
  unfold wholeB
  generalize ends bs p why = r at *
  clear h
  go_enter Try.func66, Try.ntmps66
  go_wp2_with fail
  refine HN.out.mono ?_
  rintro e w1 ⟨rfl, ht⟩
  go_wp2
  go_ret
  exact ⟨rfl, ht⟩

set_option maxHeartbeats 800000 in
theorem readService_c (w : World) {a : Nat} {g : Option Nat} {bs : List UInt8} {p : Nat} {why : Int} (h : WR w a g bs p why) :
    Calls Try.prog 55 #[.pointer (some ⟨a, 0, none⟩)] w fun e w' => e = .returned (.tuple #[.string (strB (tx bs p why 64).1), .bool (wholeB bs (tx bs p why 64).2.1 (tx bs p why 64).2.2)]) ∧ Keeps (fun k => k = a) w w' := by
  have HN := hidden (textS_r 64 (by omega) (by omega) w h)
  unfold strB
  generalize tx bs p why 64 = r at *
  obtain ⟨b, hb⟩ : ∃ b, b = wholeB bs r.2.1 r.2.2 := ⟨_, rfl⟩
  rw [← hb]
  have HBE := hidden hb
  clear h hb
  go_enter Try.func55, Try.ntmps55
  go_wp2_with fail
  refine HN.out.mono ?_
  rintro e w1 ⟨rfl, ht⟩
  have HW := hidden (isWhole_c w1 ht.state)
  rw [← HBE.out] at HW
  have HK := hidden ht.keeps
  clear HN ht
  go_wp2_with fail
  refine HW.out.mono ?_
  rintro e w2 ⟨rfl, hk⟩
  have HK2 := hidden hk
  clear hk HW
  go_wp2_with fail
  go_ret2
  exact ⟨rfl, HK.out.trans (HK2.out.mono fun _ _ h => h.elim)⟩

/-- What readPass tells of the rest: the pass, and whether it is right. -/
def passOf (rest : List UInt8) : List UInt8 × Bool :=
  let b := tk rest 0 0 1
  let t := tx rest b.2.1 b.2.2 64
  (t.1, wholeB rest t.2.1 t.2.2 && !(((val b.1 : Nat) : Int) != 0))

set_option maxHeartbeats 800000 in
theorem readPass_c (v : Value) (rest : List UInt8) (w : World) (hv : BSl w v rest) (hl : rest.length ≤ 1000000) :
    Calls Try.prog 59 #[v] w fun e w' => e = .returned (.tuple #[.string (strB (passOf rest).1), .bool (passOf rest).2]) ∧ Below w.heap.size w w' := by
  have HR := hidden (newReader_c v rest w hv (by omega))
  obtain ⟨R, hR⟩ : ∃ R, R = passOf rest := ⟨_, rfl⟩
  rw [← hR]
  have HRR := hidden hR
  clear hR
  obtain ⟨ao, cap, rfl⟩ := hv.len
  clear hv
  go_enter Try.func59, Try.ntmps59
  go_wp2_with fail
  refine HR.out.mono ?_
  rintro e w1 ⟨a, g, rfl, hs, ha, hg, hb⟩
  have HB := hidden hb
  have HS := hidden hs
  have HA := hidden ha
  clear hb hs ha hg HR
  have HN := hidden (bool_r w1 HS.out)
  obtain ⟨B, hB⟩ : ∃ B, B = tk rest 0 0 1 := ⟨_, rfl⟩
  rw [← hB] at HN
  obtain ⟨c, hc⟩ : ∃ c, c = (((val B.1 : Nat) : Int) != 0) := ⟨_, rfl⟩
  rw [← hc] at HN
  have HBE := hidden hB
  have HCE := hidden hc
  clear hB hc
  go_wp2_with fail
  refine HN.out.mono ?_
  rintro e w2 ⟨rfl, ht⟩
  have HT := hidden ht
  clear ht HN
  have HN := hidden (textS_r 64 (by omega) (by omega) w2 HT.out.state)
  obtain ⟨T, hT⟩ : ∃ T, T = tx rest B.2.1 B.2.2 64 := ⟨_, rfl⟩
  rw [← hT] at HN
  have HTE := hidden hT
  clear hT
  go_wp2_with fail
  refine HN.out.mono ?_
  rintro e w3 ⟨rfl, ht⟩
  have HT2 := hidden ht
  clear ht HN
  have HW := hidden (isWhole_c w3 HT2.out.state)
  obtain ⟨d, hd⟩ : ∃ d, d = wholeB rest T.2.1 T.2.2 := ⟨_, rfl⟩
  rw [← hd] at HW
  have HDE := hidden hd
  clear hd
  have HE : Hid (R = (T.1, d && !c)) := by
    show _ = _
    rw [HRR.out, HDE.out, HCE.out, HTE.out, HBE.out]
    rfl
  go_wp2_with fail
  refine HW.out.mono ?_
  rintro e w4 ⟨rfl, hk⟩
  have HB4 : Hid (Below w.heap.size w w4) := by
    exact hidden (((HB.out.trans (Keeps.below HT.out.keeps HB.out.size (fun k e => by rw [e]; exact HA.out))).trans (Keeps.below HT2.out.keeps (Nat.le_trans HB.out.size HT.out.keeps.size) (fun k e => by rw [e]; exact HA.out))).trans (Keeps.below hk (Nat.le_trans (Nat.le_trans HB.out.size HT.out.keeps.size) HT2.out.keeps.size) (fun _ h => h.elim)))
  clear hk HW HT HT2 HB HA HS
  cases d
  · go_wp2_with fail
    go_ret2
    exact ⟨by rw [HE.out]; rfl, HB4.out⟩
  · go_wp2_with fail
    go_ret2
    exact ⟨by rw [HE.out]; rfl, HB4.out⟩

/-- What readLogin reads: three Texts, and where the Reader stands behind them. -/
def tx2 (bs : List UInt8) (p : Nat) (why : Int) : List UInt8 × Nat × Int := tx bs (tx bs p why 64).2.1 (tx bs p why 64).2.2 64
def tx3 (bs : List UInt8) (p : Nat) (why : Int) : List UInt8 × Nat × Int := tx bs (tx2 bs p why).2.1 (tx2 bs p why).2.2 64
def restOf (bs : List UInt8) (p : Nat) (why : Int) : List UInt8 := if (tx3 bs p why).2.2 = 0 then bs.drop (tx3 bs p why).2.1 else []
theorem tk_rest (bs : List UInt8) (q : Nat) (y : Int) : (tk bs q y (lft bs q y)).1 = (if y = 0 then bs.drop q else []) := by
  unfold tk lft
  by_cases h : y = 0
  · simp only [h, if_true, Nat.lt_irrefl, if_false]
    exact List.take_of_length_le (by simp)
  · simp [h]
theorem whole_rest (bs : List UInt8) (q : Nat) (y : Int) : wholeB bs (tk bs q y (lft bs q y)).2.1 (tk bs q y (lft bs q y)).2.2 = decide (y = 0) := by
  unfold tk lft wholeB ends
  by_cases h : y = 0
  · simp only [h, if_true, Nat.lt_irrefl, if_false]
    rw [if_neg (by omega)]
    rfl
  · simp [h]

def loginV (n s m : List UInt8) (v : Value) : Value := .agg #[.string (strB n), .string (strB s), .string (strB m), v]
/-- A login in memory. -/
def LoginAt (w : World) (B : Nat) (n s m : List UInt8) (v : Value) : Prop := w.heap[B]? = some (.cells #[.string (strB n), .string (strB s), .string (strB m), v] 94 (0, 0))

theorem WR.rowLt {w : World} {a : Nat} {g : Option Nat} {bs : List UInt8} {p : Nat} {why : Int} (h : WR w a g bs p why) (hne : bs ≠ []) : ∀ k, g = some k → k < w.heap.size := by
  obtain ⟨v, h1, h2, rfl, _⟩ := h
  cases bs with
  | nil => exact absurd rfl hne
  | cons x r => exact h2.blockLt
/-- While readLogin reads: the Reader, the answer's place, and the login that is filled. -/
structure RL (W w : World) (a : Nat) (g : Option Nat) (bs : List UInt8) (p : Nat) (why : Int) (c0 c1 c2 c3 : Value) : Prop where
  st : WR w a g bs p why
  zero : w.heap[W.heap.size]? = some (.cells #[.string ⟨#[]⟩, .string ⟨#[]⟩, .string ⟨#[]⟩, .slice none 0 0] 94 (0, 0))
  mine : w.heap[W.heap.size + 1]? = some (.cells #[c0, c1, c2, c3] 94 (0, 0))
  keep : Keeps (fun k => k = a) W w
  lt : a < W.heap.size
  row : ∀ k, g = some k → k < W.heap.size
theorem RL.took {W w w1 : World} {a : Nat} {g : Option Nat} {bs : List UInt8} {p q : Nat} {why y : Int} {c0 c1 c2 c3 : Value} (h : RL W w a g bs p why c0 c1 c2 c3) (t : Took a g bs q y w w1) : RL W w1 a g bs q y c0 c1 c2 c3 :=
  ⟨t.state, (t.keeps.block _ (lt_of_block h.zero) (by have := h.lt; omega)).trans h.zero, (t.keeps.block _ (lt_of_block h.mine) (by have := h.lt; omega)).trans h.mine, h.keep.trans t.keeps, h.lt, h.row⟩
theorem RL.still {W w w1 : World} {a : Nat} {g : Option Nat} {bs : List UInt8} {p : Nat} {why : Int} {c0 c1 c2 c3 : Value} (h : RL W w a g bs p why c0 c1 c2 c3) (k : Keeps (fun _ => False) w w1) : RL W w1 a g bs p why c0 c1 c2 c3 :=
  h.took ⟨h.st.same k, k.mono fun _ _ h => h.elim⟩
theorem set4 {w : World} {a : Nat} {t : TypeId} {v0 v1 v2 v3 : Value} (h : w.heap[a]? = some (.cells #[v0, v1, v2, v3] t (0, 0))) (u : Value) :
    (w.setCell ⟨a, 0, none⟩ u).heap[a]? = some (.cells #[u, v1, v2, v3] t (0, 0)) ∧ (w.setCell ⟨a, 1, none⟩ u).heap[a]? = some (.cells #[v0, u, v2, v3] t (0, 0)) ∧ (w.setCell ⟨a, 2, none⟩ u).heap[a]? = some (.cells #[v0, v1, u, v3] t (0, 0)) ∧ (w.setCell ⟨a, 3, none⟩ u).heap[a]? = some (.cells #[v0, v1, v2, u] t (0, 0)) := by
  refine ⟨?_, ?_, ?_, ?_⟩ <;> (simp only [World.setCell, Array.getElem?_modify, if_true, h]; simp)
theorem cells4 {w : World} {a : Nat} {t : TypeId} {v0 v1 v2 v3 : Value} (h : w.heap[a]? = some (.cells #[v0, v1, v2, v3] t (0, 0))) :
    w.cell? ⟨a, 0, none⟩ = some v0 ∧ w.cell? ⟨a, 1, none⟩ = some v1 ∧ w.cell? ⟨a, 2, none⟩ = some v2 ∧ w.cell? ⟨a, 3, none⟩ = some v3 ∧ ∀ j, w.frozen? ⟨a, j, none⟩ = false := by
  refine ⟨?_, ?_, ?_, ?_, fun j => by simp [World.frozen?, h]⟩ <;> simp [World.cell?, h]
theorem RL.set {W w : World} {a : Nat} {g : Option Nat} {bs : List UInt8} {p : Nat} {why : Int} {c0 c1 c2 c3 : Value} (h : RL W w a g bs p why c0 c1 c2 c3) {i : Nat} {u : Value} {d0 d1 d2 d3 : Value}
    (hs : (w.setCell ⟨W.heap.size + 1, i, none⟩ u).heap[W.heap.size + 1]? = some (.cells #[d0, d1, d2, d3] 94 (0, 0))) : RL W (w.setCell ⟨W.heap.size + 1, i, none⟩ u) a g bs p why d0 d1 d2 d3 := by
  have hk : Keeps (fun k => k = W.heap.size + 1) w (w.setCell ⟨W.heap.size + 1, i, none⟩ u) := Keeps.setCell (S := fun k => k = W.heap.size + 1) (p := ⟨W.heap.size + 1, i, none⟩) (Keeps.refl _ _) (.inl rfl) _
  have hl := h.lt
  refine ⟨h.st.keep hk (by omega) (fun k e => by have := h.row k e; omega), (hk.block _ (lt_of_block h.zero) (by omega)).trans h.zero, hs, ?_, h.lt, h.row⟩
  exact h.keep.setCell (.inr (by show W.heap.size ≤ W.heap.size + 1; omega)) _

set_option maxHeartbeats 1600000 in
set_option maxRecDepth 100000 in
theorem readLogin_c (w : World) {a : Nat} {g : Option Nat} {bs : List UInt8} {p : Nat} {why : Int} (h : WR w a g bs p why) (hne : bs ≠ []) :
    Calls Try.prog 57 #[.pointer (some ⟨a, 0, none⟩)] w fun e w' => ∃ v, e = .returned (.tuple #[loginV (tx bs p why 64).1 (tx2 bs p why).1 (tx3 bs p why).1 v, .bool (decide ((tx3 bs p why).2.2 = 0))]) ∧ BSl w' v (restOf bs p why) ∧ (∀ k, v.ownBlock = some k → w.heap.size ≤ k) ∧ Keeps (fun k => k = a) w w' := by
  have HL0 : Hid (RL w ((w.alloc (.cells #[.string ⟨#[]⟩, .string ⟨#[]⟩, .string ⟨#[]⟩, .slice none 0 0] 94)).alloc (.cells #[.string ⟨#[]⟩, .string ⟨#[]⟩, .string ⟨#[]⟩, .slice none 0 0] 94)) a g bs p why (.string ⟨#[]⟩) (.string ⟨#[]⟩) (.string ⟨#[]⟩) (.slice none 0 0)) := by
    have hk : Keeps (fun _ => False) w ((w.alloc (.cells #[.string ⟨#[]⟩, .string ⟨#[]⟩, .string ⟨#[]⟩, .slice none 0 0] 94)).alloc (.cells #[.string ⟨#[]⟩, .string ⟨#[]⟩, .string ⟨#[]⟩, .slice none 0 0] 94)) := ((Keeps.refl _ _).alloc _).alloc _
    refine ⟨h.same hk, (Below.heap_alloc _ _ _ (by simp)).trans (heap_alloc_new w _), ?_, hk.mono (fun _ _ h => h.elim), h.lt, h.rowLt hne⟩
    have := heap_alloc_new (w.alloc (.cells #[.string ⟨#[]⟩, .string ⟨#[]⟩, .string ⟨#[]⟩, .slice none 0 0] 94)) (.cells #[.string ⟨#[]⟩, .string ⟨#[]⟩, .string ⟨#[]⟩, .slice none 0 0] 94)
    simpa using this
  obtain ⟨r1, e1⟩ : ∃ r, r = tx bs p why 64 := ⟨_, rfl⟩
  obtain ⟨r2, e2⟩ : ∃ r, r = tx bs r1.2.1 r1.2.2 64 := ⟨_, rfl⟩
  obtain ⟨r3, e3⟩ : ∃ r, r = tx bs r2.2.1 r2.2.2 64 := ⟨_, rfl⟩
  have q2 : tx2 bs p why = r2 := by rw [e2, e1]; rfl
  have q3 : tx3 bs p why = r3 := by rw [e3, ← q2]; rfl
  obtain ⟨r4, e4⟩ : ∃ r, r = tk bs r3.2.1 r3.2.2 (lft bs r3.2.1 r3.2.2) := ⟨_, rfl⟩
  have q4 : restOf bs p why = r4.1 := by rw [e4, tk_rest, ← q3]; rfl
  have q5 : decide ((tx3 bs p why).2.2 = 0) = wholeB bs r4.2.1 r4.2.2 := by rw [e4, whole_rest, ← q3]
  rw [q5, q4, q3, q2, ← e1]
  obtain ⟨d, hd⟩ : ∃ d, d = wholeB bs r4.2.1 r4.2.2 := ⟨_, rfl⟩
  rw [← hd]
  have E1 := hidden e1
  have E2 := hidden e2
  have E3 := hidden e3
  have E4 := hidden e4
  have ED := hidden hd
  clear e1 e2 e3 e4 q2 q3 q4 q5 hd h
  unfold loginV strB
  go_enter Try.func57, Try.ntmps57
  go_wp2_with fail
  generalize ((w.alloc (.cells #[.string ⟨#[]⟩, .string ⟨#[]⟩, .string ⟨#[]⟩, .slice none 0 0] 94)).alloc (.cells #[.string ⟨#[]⟩, .string ⟨#[]⟩, .string ⟨#[]⟩, .slice none 0 0] 94)) = w0 at HL0 ⊢
  refine (textS_r 64 (by omega) (by omega) w0 HL0.out.st).mono ?_
  rintro e w1 ⟨rfl, ht⟩
  rw [← E1.out] at ht ⊢
  have HL1 := hidden (HL0.out.took ht)
  clear ht HL0
  obtain ⟨k0, k1, k2, k3, kf⟩ := cells4 HL1.out.mine
  go_wp2_with fail
  have HL2 := hidden (HL1.out.set (set4 HL1.out.mine (.string ⟨r1.1.toArray⟩)).1)
  clear k0 k1 k2 k3 kf HL1
  generalize w1.setCell _ _ = w2 at HL2 ⊢
  refine (textS_r 64 (by omega) (by omega) w2 HL2.out.st).mono ?_
  rintro e w3 ⟨rfl, ht⟩
  rw [← E2.out] at ht ⊢
  have HL3 := hidden (HL2.out.took ht)
  clear ht HL2
  obtain ⟨k0, k1, k2, k3, kf⟩ := cells4 HL3.out.mine
  go_wp2_with fail
  have HL4 := hidden (HL3.out.set (set4 HL3.out.mine (.string ⟨r2.1.toArray⟩)).2.1)
  clear k0 k1 k2 k3 kf HL3
  generalize w3.setCell _ _ = w4 at HL4 ⊢
  refine (textS_r 64 (by omega) (by omega) w4 HL4.out.st).mono ?_
  rintro e w5 ⟨rfl, ht⟩
  rw [← E3.out] at ht ⊢
  have HL5 := hidden (HL4.out.took ht)
  clear ht HL4
  obtain ⟨k0, k1, k2, k3, kf⟩ := cells4 HL5.out.mine
  go_wp2_with fail
  have HL6 := hidden (HL5.out.set (set4 HL5.out.mine (.string ⟨r3.1.toArray⟩)).2.2.1)
  clear k0 k1 k2 k3 kf HL5
  generalize w5.setCell _ _ = w6 at HL6 ⊢
  refine (rest_r w6 HL6.out.st).mono ?_
  rintro e w7 ⟨v7, rfl, hb7, ho7, ht⟩
  rw [← E4.out] at ht hb7
  have HL7 := hidden (HL6.out.took ht)
  have ho7' : Hid (∀ k, v7.ownBlock = some k → w.heap.size + 1 < k) := by
    have := lt_of_block HL6.out.mine
    exact hidden fun k hk => by have := ho7 k hk; omega
  clear ho7 ht HL6
  have HB7 := hidden hb7
  obtain ⟨ao7, cp7, rfl⟩ := hb7.len
  clear hb7
  obtain ⟨k0, k1, k2, k3, kf⟩ := cells4 HL7.out.mine
  generalize r4.1.length = n7 at *
  go_wp2_with fail
  have HL8 := hidden (HL7.out.set (set4 HL7.out.mine (.slice ao7 n7 cp7)).2.2.2)
  have HB8 : Hid (BSl (w7.setCell ⟨w.heap.size + 1, 3, none⟩ (.slice ao7 n7 cp7)) (.slice ao7 n7 cp7) r4.1) :=
    hidden (HB7.out.keep (S := fun k => k = w.heap.size + 1) (Keeps.setCell (S := fun k => k = w.heap.size + 1) (p := ⟨w.heap.size + 1, 3, none⟩) (Keeps.refl _ _) (.inl rfl) _) (fun k hk e => by have := ho7'.out k hk; omega))
  clear k0 k1 k2 k3 kf HL7 HB7
  generalize w7.setCell ⟨w.heap.size + 1, 3, none⟩ (.slice ao7 n7 cp7) = w8 at HL8 HB8 ⊢
  obtain ⟨k0, k1, k2, k3, kf⟩ := cells4 HL8.out.mine
  obtain ⟨z0, z1, z2, z3, zf⟩ := cells4 HL8.out.zero
  have HW : Hid (∀ wx, Keeps (fun _ => False) w8 wx → Calls Try.prog 66 #[.pointer (some ⟨a, 0, none⟩)] wx fun e w' => e = .returned (.bool d) ∧ RL w w' a g bs r4.2.1 r4.2.2 (.string ⟨r1.1.toArray⟩) (.string ⟨r2.1.toArray⟩) (.string ⟨r3.1.toArray⟩) (.slice ao7 n7 cp7) ∧ BSl w' (.slice ao7 n7 cp7) r4.1) := by
    refine hidden fun wx hx => ?_
    have h9 := HL8.out.still hx
    refine (isWhole_c wx h9.st).mono ?_
    rintro e w9 ⟨rfl, hk⟩
    exact ⟨by rw [ED.out], h9.still hk, HB8.out.keep (hx.trans hk) (fun _ _ h => h)⟩
  go_region_with (go_at_call 66; refine (HW.out _ (by first | exact Keeps.refl _ _ | exact (Keeps.refl _ _).drew)).mono ?_; rintro e w9 ⟨rfl, hl9, hb9⟩; have HL9 := hidden hl9; have HB9 := hidden hb9; clear hl9 hb9 k0 k1 k2 k3 kf z0 z1 z2 z3 zf; obtain ⟨k0, k1, k2, k3, kf⟩ := cells4 HL9.out.mine; obtain ⟨z0, z1, z2, z3, zf⟩ := cells4 HL9.out.zero)
  all_goals
    have hz := (set4 (set4 (set4 (set4 HL9.out.zero (.string ⟨r1.1.toArray⟩)).1 (.string ⟨r2.1.toArray⟩)).2.1 (.string ⟨r3.1.toArray⟩)).2.2.1 (.slice ao7 n7 cp7)).2.2.2
    have hk : Keeps (fun k => k = w.heap.size) w9 ((((w9.setCell ⟨w.heap.size, 0, none⟩ (.string ⟨r1.1.toArray⟩)).setCell ⟨w.heap.size, 1, none⟩ (.string ⟨r2.1.toArray⟩)).setCell ⟨w.heap.size, 2, none⟩ (.string ⟨r3.1.toArray⟩)).setCell ⟨w.heap.size, 3, none⟩ (.slice ao7 n7 cp7)) :=
      Keeps.setCell (S := fun k => k = w.heap.size) (p := ⟨w.heap.size, 3, none⟩) (Keeps.setCell (S := fun k => k = w.heap.size) (p := ⟨w.heap.size, 2, none⟩) (Keeps.setCell (S := fun k => k = w.heap.size) (p := ⟨w.heap.size, 1, none⟩) (Keeps.setCell (S := fun k => k = w.heap.size) (p := ⟨w.heap.size, 0, none⟩) (Keeps.refl _ _) (.inl rfl) _) (.inl rfl) _) (.inl rfl) _) (.inl rfl) _
    have HB10 := hidden (HB9.out.keep hk (fun k e h => by have := ho7'.out k e; omega))
    have HK10 : Hid (Keeps (fun k => k = a) w ((((w9.setCell ⟨w.heap.size, 0, none⟩ (.string ⟨r1.1.toArray⟩)).setCell ⟨w.heap.size, 1, none⟩ (.string ⟨r2.1.toArray⟩)).setCell ⟨w.heap.size, 2, none⟩ (.string ⟨r3.1.toArray⟩)).setCell ⟨w.heap.size, 3, none⟩ (.slice ao7 n7 cp7))) :=
      hidden ⟨hk.os.trans HL9.out.keep.os, hk.tape.trans HL9.out.keep.tape, hk.output.trans HL9.out.keep.output, Nat.le_trans HL9.out.keep.size hk.size, fun k h1 h2 => (hk.block k (Nat.lt_of_lt_of_le h1 HL9.out.keep.size) (by omega)).trans (HL9.out.keep.block k h1 h2)⟩
    clear hk HL9 HB9 k0 k1 k2 k3 kf z0 z1 z2 z3 zf HW HL8 HB8
    generalize ((((w9.setCell ⟨w.heap.size, 0, none⟩ (.string ⟨r1.1.toArray⟩)).setCell ⟨w.heap.size, 1, none⟩ (.string ⟨r2.1.toArray⟩)).setCell ⟨w.heap.size, 2, none⟩ (.string ⟨r3.1.toArray⟩)).setCell ⟨w.heap.size, 3, none⟩ (.slice ao7 n7 cp7)) = w10 at hz HB10 HK10 ⊢
    obtain ⟨y0, y1, y2, y3, yf⟩ := cells4 hz
    clear hz
    go_wp2
    refine bodyPost_ret (v := .tuple #[.agg #[.string ⟨r1.1.toArray⟩, .string ⟨r2.1.toArray⟩, .string ⟨r3.1.toArray⟩, .slice ao7 n7 cp7], .bool d]) (by simp [results, Try.results57, go_sem, y0, y1, y2, y3]) rfl ⟨_, rfl, HB10.out, fun k hk => by have := ho7'.out k hk; omega, HK10.out⟩

end Go.Proofs.Ytpildjijaigmfaa
