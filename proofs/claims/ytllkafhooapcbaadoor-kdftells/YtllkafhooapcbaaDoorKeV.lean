/- The walk of the law KdfTells. -/
import Derived.Test.YtllkafhooapcbaaDoorKeQ
import Derived.Test.YtllkafhooapcbaaDoorKeE
namespace Go.Proofs.YtllkafhooapcbaaDoor
open Go Go.RowKit
theorem gives_build {o : Oper} {ρ : Operand → Value} {w : World} {v : Value} {Φ : Value → World → Prop} {t : TypeId} {parts : Array (Nat × Operand)} (ho : o.op = .build t parts) (hr : (Instr.build t (parts.map fun (i, x) => (i, ρ x))).run Tryd.prog w = .ok v w) (h : Φ v w) : Gives Tryd.prog o ρ w Φ := by
  refine Gives.value (w' := w) (v := v) ?_ h
  unfold execOp
  simp only [ho]
  rw [Sem.run_bind, hr]
  rfl

/-- The number and the bytes that Derive tells. -/
def dN (n : Int) : Int := if 0 ≤ n ∧ n ≤ 256 then 0 else 1
def dL (k h : List UInt8) (letter : UInt8) (id : List UInt8) (n : Int) : List UInt8 := if 0 ≤ n ∧ n ≤ 256 then deriveL k h letter id n.toNat else []
theorem DTold.one {w : World} {k h : List UInt8} {letter : UInt8} {id : List UInt8} {n : Int} {e : Ending} {w' : World} (ht : DTold w k h letter id n e w') : Below w.heap.size w w' ∧ ∃ v, e = .returned (.tuple #[v, .int .i64 (dN n)]) ∧ BSl w' v (dL k h letter id n) := by
  obtain ⟨hb, ⟨h0, h1, v, he, hv⟩ | ⟨hn, he⟩⟩ := ht
  · refine ⟨hb, v, ?_, ?_⟩
    · rw [dN, if_pos ⟨h0, h1⟩]; exact he
    · rw [dL, if_pos ⟨h0, h1⟩]; exact hv
  · refine ⟨hb, .slice none 0 0, ?_, ?_⟩
    · rw [dN, if_neg (by omega)]; exact he
    · rw [dL, if_neg (by omega)]; exact (Own.nothing w').bsl
theorem roomy_bsl {w : World} {g : Nat} {xs : List UInt8} (hg : w.heap[g]? = some (.cells (bcells (xs ++ List.replicate 80 165)).toArray 5 (0, 0))) (hl : xs.length ≤ 1000000000) : BSl w (.slice (some ⟨g, 0, none⟩) xs.length (xs.length + 80)) xs := by
  refine ⟨_, _, rfl, by omega, by unfold maxLen; omega, (fun e => by cases e), fun ad e _ => ⟨g, 0, by cases e; rfl, fun j u hu => ?_⟩⟩
  rw [Nat.zero_add, cell_row hg, bcells_append, List.getElem?_append_left (List.getElem?_eq_some_iff.1 hu).1]
  exact hu

set_option maxHeartbeats 3200000 in
set_option maxRecDepth 100000 in
theorem kdfTells_c (vc vz : ByteArray) (v2 v3 v4 v5 : Value) (n : Nat) (z3 z4 z5 : List UInt8) (letter : UInt8) (size : Int) (w : World) (hr : Rw w) (h2 : LSl w v2 n) (h3 : BSl w v3 z3) (h4 : BSl w v4 z4) (h5 : BSl w v5 z5) :
    Calls Tryd.prog 4 #[.string vc, .string vz, v2, v3, v4, v5, .int .u8 letter.toNat, .int .i64 size] w fun e w' => e = .returned (.bool true) ∧ Below w.heap.size w w' := by
  have HR0 := hidden hr
  have HL := hidden h2
  have H3 := hidden h3
  have H4 := hidden h4
  have H5 := hidden h5
  obtain ⟨lo, lc, rfl, hl1, hl2, _⟩ := h2
  unfold maxLen at hl2
  obtain ⟨a3, n3, rfl⟩ := h3.len
  obtain ⟨a4, n4, rfl⟩ := h4.len
  obtain ⟨a5, n5, rfl⟩ := h5.len
  have HX0 := hidden (XI.start w)
  clear h3 h4 h5 hr
  go_enter Tryd.func4, Tryd.ntmps4
  go_upto_block 0 with fail
  go_cut [18] from 26 to 42 (fun _ wx => XI w wx)
  case first =>
    go_wp2_with fail
    go_loopw [18] (fun c wr => ∃ j : Nat, j ≤ n ∧ j ≤ 5 ∧ c = .int .i64 (j : Int) ∧ XI w wr) (fun c _ => 5 - (intOf c).toNat)
    case atStart => exact ⟨0, by omega, by omega, rfl, HX0.out⟩
    case round =>
      clear HX0
      obtain ⟨j, hj, hj5, rfl, ht⟩ := hrel
      have HT := hidden ht
      clear ht
      by_cases h5 : j < 5
      · have h5' : (j : Int) < 5 := by omega
        by_cases hlt : j < n
        · have hlt' : (j : Int) < (n : Int) := by omega
          obtain ⟨b, off, rfl, u, us, hcu, hbu⟩ := HL.out.at j hlt
          have hbw := HT.out.below
          have hcu1 := cell_kept hcu hbw
          have HBU := hidden (hbu.fresh hbw)
          obtain ⟨au, cu, rfl⟩ := hbu.len
          obtain ⟨old, ho, hf⟩ := HT.out.cell j h5
          have HBU0 := hidden hbu
          clear hcu hbu hbw
          generalize us.length = nu at hcu1 HBU HBU0
          go_wp2_with fail
          refine (cut_c 150 (by omega) _ us _ HBU.out).mono ?_
          rintro e w2 ⟨v2, rfl, hv2, hob, rfl⟩
          obtain ⟨a2, c2, rfl⟩ := hv2.len
          have HN := hidden (HT.out.set j h5 (cut_at HBU0.out hv2 HT.out.below hob) (by simp; omega))
          clear hv2 hob
          generalize (us.take 150).length = nt at HN ⊢
          go_wp2
          go_roundw
          case rel => exact ⟨j + 1, by omega, by omega, by go_num, HN.out⟩
          case measure => simp [intOf]; omega
        · have hlt' : ¬ (j : Int) < (n : Int) := by omega
          go_wp2_with fail
          go_meet
          case rel => exact HT.out
      · have h5' : ¬ (j : Int) < 5 := by omega
        go_wp2_with fail
        go_meet
        case rel => exact HT.out
  case rest =>
    obtain ⟨pv, px, hx0, hx1, hx2, hxb⟩ := hcut
    have HP := hidden hx0
    have HPV := hidden hx1
    have HPX := hidden hx2
    have HB0 := hidden hxb
    clear HX0 HL hx0 hx1 hx2 hxb hl1 hl2
    generalize hT : w.heap.size = T at HP ⊢
    have HTe := hidden hT
    clear hT
    go_wp2_with fail
    refine (cut_c 100 (by omega) _ z3 _ (H3.out.fresh HB0.out)).mono ?_
    rintro e w1 ⟨vk, rfl, hk, _, e1⟩
    subst e1
    have hlK : (z3.take 100).length ≤ 100 := by simp; omega
    generalize z3.take 100 = K at hk hlK
    obtain ⟨ak, ck, rfl⟩ := hk.len
    have HK0 := hidden hk
    clear hk H3
    go_wp2_with fail
    refine (cut_c 100 (by omega) _ z4 _ (H4.out.fresh HB0.out)).mono ?_
    rintro e w1 ⟨vh, rfl, hh, _, e1⟩
    subst e1
    have hlH : (z4.take 100).length ≤ 100 := by simp; omega
    generalize z4.take 100 = H at hh hlH
    obtain ⟨ah, ch, rfl⟩ := hh.len
    have HH0 := hidden hh
    clear hh H4
    go_wp2_with fail
    refine (cut_c 100 (by omega) _ z5 _ (H5.out.fresh HB0.out)).mono ?_
    rintro e w1 ⟨vi, rfl, hi, _, e1⟩
    subst e1
    have hlI : (z5.take 100).length ≤ 100 := by simp; omega
    generalize z5.take 100 = I at hi hlI
    obtain ⟨ai, ci, rfl⟩ := hi.len
    have HI0 := hidden hi
    clear hi H5
    go_wp2_with fail
    refine (head_c vc 100 (by omega) _).mono ?_
    rintro e w1 ⟨rfl, e1⟩
    subst e1
    have hsVC : (vc.extract 0 100).size ≤ 100 := by simp; omega
    generalize vc.extract 0 100 = VC at hsVC ⊢
    go_wp2_with fail
    refine (head_c vz 100 (by omega) _).mono ?_
    rintro e w1 ⟨rfl, e1⟩
    subst e1
    have hsVS : (vz.extract 0 100).size ≤ 100 := by simp; omega
    generalize vz.extract 0 100 = VS at hsVS ⊢
    go_wp2_with fail
    refine (roomy_c _ K w1 HK0.out (by omega)).mono ?_
    rintro e w2 ⟨g, rfl, hg, hgc, hb2⟩
    have HB2 := hidden (HB0.out.trans (hb2.mono HB0.out.size))
    have HK := hidden (HK0.out.fresh hb2)
    have HH := hidden (HH0.out.fresh hb2)
    have HI := hidden (HI0.out.fresh hb2)
    have HR := hidden (HR0.out.fresh HB2.out)
    have HKf := hidden (roomy_bsl hgc (by omega))
    have HGc : Hid (∀ wx, Ex w2 wx → wx.heap[g]? = some (.cells (bcells (K ++ List.replicate 80 165)).toArray 5 (0, 0))) := fun wx hx => (hx.block g (lt_of_block hgc)).trans hgc
    have hTl : T < w2.heap.size := by have := lt_of_block HP.out; have := hb2.size; omega
    have hP2 := (hb2.block T (lt_of_block HP.out)).trans HP.out
    have HPV2 : Hid (∀ i, i < 5 → BSl w2 (pv i) (px i)) := fun i hi => (HPV.out i hi).fresh HB2.out
    have HHa : Hid (∀ wx, Ex w2 wx → Calls Tryd.prog 19 #[.agg #[.string VC, .string VS, pv 0, pv 1, pv 2, pv 3, pv 4], .slice (some ⟨g, 0, none⟩) K.length (K.length + 80)] wx fun e w' => Fresh wx (hashL VC.data.toList VS.data.toList px K) e w') := fun wx hx => Hash_c VC VS pv px _ K (by omega) (by omega) (fun i => by have := HPX.out i; omega) (by omega) wx (HR.out.fresh hx) (fun i hi => (HPV2.out i hi).fresh hx) (HKf.out.fresh hx)
    have HHb : Hid (∀ wx, Ex w2 wx → Calls Tryd.prog 20 #[.agg #[.string VC, .string VS, pv 0, pv 1, pv 2, pv 3, pv 4], .slice ak K.length ck] wx fun e w' => Fresh wx (hashL VC.data.toList VS.data.toList px K) e w') := fun wx hx => rHash_c VC VS pv px _ K (by omega) (by omega) (fun i => by have := HPX.out i; omega) (by omega) wx (fun i hi => (HPV2.out i hi).fresh hx) (HK.out.fresh hx)
    have HX150 : Hid ((px 0).length ≤ 150) := HPX.out 0
    have HCa : Hid (∀ j, j < 5 → ∀ wx, Ex w2 wx → wx.cell? ⟨T, j, none⟩ = some (pv j)) := fun j hj wx hx => by
      have := (hx.block T hTl).trans hP2
      rw [cell_row (cs := (five pv).toList) (by simpa using this), Array.getElem?_toList, five_at pv j hj]
    have HP0 := hidden (HPV2.out 0 (by omega))
    have HC0 := hidden (HCa.out 0 (by omega))
    obtain ⟨s0, t0, e0⟩ := (HPV2.out 0 (by omega)).len
    rw [e0] at HHa HHb HP0 HC0
    generalize (px 0).length = l0 at HHa HHb HP0 HC0 e0
    have HP1 := hidden (HPV2.out 1 (by omega))
    have HC1 := hidden (HCa.out 1 (by omega))
    obtain ⟨s1, t1, e1⟩ := (HPV2.out 1 (by omega)).len
    rw [e1] at HHa HHb HP1 HC1
    generalize (px 1).length = l1 at HHa HHb HP1 HC1 e1
    have HP2 := hidden (HPV2.out 2 (by omega))
    have HC2 := hidden (HCa.out 2 (by omega))
    obtain ⟨s2, t2, e2⟩ := (HPV2.out 2 (by omega)).len
    rw [e2] at HHa HHb HP2 HC2
    generalize (px 2).length = l2 at HHa HHb HP2 HC2 e2
    have HP3 := hidden (HPV2.out 3 (by omega))
    have HC3 := hidden (HCa.out 3 (by omega))
    obtain ⟨s3, t3, e3⟩ := (HPV2.out 3 (by omega)).len
    rw [e3] at HHa HHb HP3 HC3
    generalize (px 3).length = l3 at HHa HHb HP3 HC3 e3
    have HP4 := hidden (HPV2.out 4 (by omega))
    have HC4 := hidden (HCa.out 4 (by omega))
    obtain ⟨s4, t4, e4⟩ := (HPV2.out 4 (by omega)).len
    rw [e4] at HHa HHb HP4 HC4
    generalize (px 4).length = l4 at HHa HHb HP4 HC4 e4
    generalize hHL : hashL VC.data.toList VS.data.toList px K = HL at HHa HHb
    clear hg hgc hb2 HP hP2 HPV HPV2 HCa e0 e1 e2 e3 e4 HK0 HH0 HI0 hHL HPX
    have HSl : Hid (∀ w', (Instr.sliceAt 22 (.slice (some ⟨g, 0, none⟩) (K.length + 80) (K.length + 80)) none (some (.int .i64 (K.length : Nat))) none).run Tryd.prog w' = .ok (.slice (some ⟨g, 0, none⟩) K.length (K.length + 80)) w') := fun w' => run_front (some ⟨g, 0, none⟩) (K.length + 80) K.length (K.length + 80) (by omega) w'
    have HBd : Hid (∀ w', (Instr.build 36 #[(0, .string VC), (1, .string VS), (2, .slice s0 l0 t0), (3, .slice s1 l1 t1), (4, .slice s2 l2 t2), (5, .slice s3 l3 t3), (6, .slice s4 l4 t4)]).run Tryd.prog w' = .ok (.agg #[.string VC, .string VS, .slice s0 l0 t0, .slice s1 l1 t1, .slice s2 l2 t2, .slice s3 l3 t3, .slice s4 l4 t4]) w') := fun w' => by kernel_rfl
    go_wp2_with fail
    refine region_free [(.val (.string VC)), (.val (.string VS)), (.val (.pointer (some ⟨T, 0, none⟩))), (.val (.slice s0 l0 t0)), (.val (.pointer (some ⟨T, 1, none⟩))), (.val (.slice s1 l1 t1)), (.val (.pointer (some ⟨T, 2, none⟩))), (.val (.slice s2 l2 t2)), (.val (.pointer (some ⟨T, 3, none⟩))), (.val (.slice s3 l3 t3)), (.val (.pointer (some ⟨T, 4, none⟩))), (.val (.slice s4 l4 t4)), (.val (.agg #[.string VC, .string VS, .slice s0 l0 t0, .slice s1 l1 t1, .slice s2 l2 t2, .slice s3 l3 t3, .slice s4 l4 t4])), (.val (.slice (some ⟨g, 0, none⟩) (K.length + 80) (K.length + 80))), (.val (.slice ak K.length ck)), (.val (.int .i64 (K.length : Nat))), (.val (.slice (some ⟨g, 0, none⟩) K.length (K.length + 80))), (.bsl HL), (.bsl HL)] (by kernel_rfl) ?_ ?_
    · refine req_cons (.val (.string VC)) (by kernel_rfl) (fun vs w1 he hd => StepG.plain (by kernel_rfl) (gives_move (x := (.tmp 0)) (v := (.string VC)) (by kernel_rfl) (by kernel_rfl) ⟨Ex.refl _, rfl⟩)) ?_
      refine req_cons (.val (.string VS)) (by kernel_rfl) (fun vs w1 he hd => StepG.plain (by kernel_rfl) (gives_move (x := (.tmp 1)) (v := (.string VS)) (by kernel_rfl) (by kernel_rfl) ⟨Ex.refl _, rfl⟩)) ?_
      refine req_cons (.val (.pointer (some ⟨T, 0, none⟩))) (by kernel_rfl) (fun vs w1 he hd => StepG.plain (by kernel_rfl) (gives_idx (x := .tmp 17) (j := 0) (T := T) (by decide) (by kernel_rfl) (by kernel_rfl) (by kernel_rfl) ⟨Ex.refl _, rfl⟩)) ?_
      refine req_cons (.val (.slice s0 l0 t0)) (by kernel_rfl) (fun vs w1 he hd => StepG.plain (by kernel_rfl) (gives_load (x := .tmp 57) (a := ⟨T, 0, none⟩) (v := (.slice s0 l0 t0)) (by kernel_rfl) (Eq.trans (b := vs 2) (by kernel_rfl) (hd 2 (.val (.pointer (some ⟨T, 0, none⟩))) (by kernel_rfl) (by kernel_rfl))) (HC0.out _ he) ⟨Ex.refl _, rfl⟩)) ?_
      refine req_cons (.val (.pointer (some ⟨T, 1, none⟩))) (by kernel_rfl) (fun vs w1 he hd => StepG.plain (by kernel_rfl) (gives_idx (x := .tmp 17) (j := 1) (T := T) (by decide) (by kernel_rfl) (by kernel_rfl) (by kernel_rfl) ⟨Ex.refl _, rfl⟩)) ?_
      refine req_cons (.val (.slice s1 l1 t1)) (by kernel_rfl) (fun vs w1 he hd => StepG.plain (by kernel_rfl) (gives_load (x := .tmp 59) (a := ⟨T, 1, none⟩) (v := (.slice s1 l1 t1)) (by kernel_rfl) (Eq.trans (b := vs 4) (by kernel_rfl) (hd 4 (.val (.pointer (some ⟨T, 1, none⟩))) (by kernel_rfl) (by kernel_rfl))) (HC1.out _ he) ⟨Ex.refl _, rfl⟩)) ?_
      refine req_cons (.val (.pointer (some ⟨T, 2, none⟩))) (by kernel_rfl) (fun vs w1 he hd => StepG.plain (by kernel_rfl) (gives_idx (x := .tmp 17) (j := 2) (T := T) (by decide) (by kernel_rfl) (by kernel_rfl) (by kernel_rfl) ⟨Ex.refl _, rfl⟩)) ?_
      refine req_cons (.val (.slice s2 l2 t2)) (by kernel_rfl) (fun vs w1 he hd => StepG.plain (by kernel_rfl) (gives_load (x := .tmp 61) (a := ⟨T, 2, none⟩) (v := (.slice s2 l2 t2)) (by kernel_rfl) (Eq.trans (b := vs 6) (by kernel_rfl) (hd 6 (.val (.pointer (some ⟨T, 2, none⟩))) (by kernel_rfl) (by kernel_rfl))) (HC2.out _ he) ⟨Ex.refl _, rfl⟩)) ?_
      refine req_cons (.val (.pointer (some ⟨T, 3, none⟩))) (by kernel_rfl) (fun vs w1 he hd => StepG.plain (by kernel_rfl) (gives_idx (x := .tmp 17) (j := 3) (T := T) (by decide) (by kernel_rfl) (by kernel_rfl) (by kernel_rfl) ⟨Ex.refl _, rfl⟩)) ?_
      refine req_cons (.val (.slice s3 l3 t3)) (by kernel_rfl) (fun vs w1 he hd => StepG.plain (by kernel_rfl) (gives_load (x := .tmp 63) (a := ⟨T, 3, none⟩) (v := (.slice s3 l3 t3)) (by kernel_rfl) (Eq.trans (b := vs 8) (by kernel_rfl) (hd 8 (.val (.pointer (some ⟨T, 3, none⟩))) (by kernel_rfl) (by kernel_rfl))) (HC3.out _ he) ⟨Ex.refl _, rfl⟩)) ?_
      refine req_cons (.val (.pointer (some ⟨T, 4, none⟩))) (by kernel_rfl) (fun vs w1 he hd => StepG.plain (by kernel_rfl) (gives_idx (x := .tmp 17) (j := 4) (T := T) (by decide) (by kernel_rfl) (by kernel_rfl) (by kernel_rfl) ⟨Ex.refl _, rfl⟩)) ?_
      refine req_cons (.val (.slice s4 l4 t4)) (by kernel_rfl) (fun vs w1 he hd => StepG.plain (by kernel_rfl) (gives_load (x := .tmp 65) (a := ⟨T, 4, none⟩) (v := (.slice s4 l4 t4)) (by kernel_rfl) (Eq.trans (b := vs 10) (by kernel_rfl) (hd 10 (.val (.pointer (some ⟨T, 4, none⟩))) (by kernel_rfl) (by kernel_rfl))) (HC4.out _ he) ⟨Ex.refl _, rfl⟩)) ?_
      refine req_cons (.val (.agg #[.string VC, .string VS, .slice s0 l0 t0, .slice s1 l1 t1, .slice s2 l2 t2, .slice s3 l3 t3, .slice s4 l4 t4])) (by kernel_rfl) (fun vs w1 he hd => StepG.plain (by kernel_rfl) (gives_build (t := 36) (parts := #[(0, .tmp 55), (1, .tmp 56), (2, .tmp 58), (3, .tmp 60), (4, .tmp 62), (5, .tmp 64), (6, .tmp 66)]) (v := (.agg #[.string VC, .string VS, .slice s0 l0 t0, .slice s1 l1 t1, .slice s2 l2 t2, .slice s3 l3 t3, .slice s4 l4 t4])) (by kernel_rfl) (by simp only [List.map_toArray, List.map_cons, List.map_nil]; rw [show (actsTo _ _ _ vs _).eval (.tmp 55) = (.string VC) from Eq.trans (b := vs 0) (by kernel_rfl) (hd 0 (.val (.string VC)) (by kernel_rfl) (by kernel_rfl)), show (actsTo _ _ _ vs _).eval (.tmp 56) = (.string VS) from Eq.trans (b := vs 1) (by kernel_rfl) (hd 1 (.val (.string VS)) (by kernel_rfl) (by kernel_rfl)), show (actsTo _ _ _ vs _).eval (.tmp 58) = (.slice s0 l0 t0) from Eq.trans (b := vs 3) (by kernel_rfl) (hd 3 (.val (.slice s0 l0 t0)) (by kernel_rfl) (by kernel_rfl)), show (actsTo _ _ _ vs _).eval (.tmp 60) = (.slice s1 l1 t1) from Eq.trans (b := vs 5) (by kernel_rfl) (hd 5 (.val (.slice s1 l1 t1)) (by kernel_rfl) (by kernel_rfl)), show (actsTo _ _ _ vs _).eval (.tmp 62) = (.slice s2 l2 t2) from Eq.trans (b := vs 7) (by kernel_rfl) (hd 7 (.val (.slice s2 l2 t2)) (by kernel_rfl) (by kernel_rfl)), show (actsTo _ _ _ vs _).eval (.tmp 64) = (.slice s3 l3 t3) from Eq.trans (b := vs 9) (by kernel_rfl) (hd 9 (.val (.slice s3 l3 t3)) (by kernel_rfl) (by kernel_rfl)), show (actsTo _ _ _ vs _).eval (.tmp 66) = (.slice s4 l4 t4) from Eq.trans (b := vs 11) (by kernel_rfl) (hd 11 (.val (.slice s4 l4 t4)) (by kernel_rfl) (by kernel_rfl))]; exact HBd.out _) ⟨Ex.refl _, rfl⟩)) ?_
      refine req_cons (.val (.slice (some ⟨g, 0, none⟩) (K.length + 80) (K.length + 80))) (by kernel_rfl) (fun vs w1 he hd => StepG.plain (by kernel_rfl) (gives_move (x := (.tmp 19)) (v := (.slice (some ⟨g, 0, none⟩) (K.length + 80) (K.length + 80))) (by kernel_rfl) (by kernel_rfl) ⟨Ex.refl _, rfl⟩)) ?_
      refine req_cons (.val (.slice ak K.length ck)) (by kernel_rfl) (fun vs w1 he hd => StepG.plain (by kernel_rfl) (gives_move (x := (.tmp 3)) (v := (.slice ak K.length ck)) (by kernel_rfl) (by kernel_rfl) ⟨Ex.refl _, rfl⟩)) ?_
      refine req_cons (.val (.int .i64 (K.length : Nat))) (by kernel_rfl) (fun vs w1 he hd => StepG.plain (by kernel_rfl) (gives_len (ty := 22) (x := (.tmp 69)) (n := K.length) (by kernel_rfl) (Eq.trans (b := vs 14) (by kernel_rfl) (hd 14 (.val (.slice ak K.length ck)) (by kernel_rfl) (by kernel_rfl))) ⟨_, Tryd.underlying22⟩ ⟨Ex.refl _, rfl⟩)) ?_
      refine req_cons (.val (.slice (some ⟨g, 0, none⟩) K.length (K.length + 80))) (by kernel_rfl) (fun vs w1 he hd => StepG.plain (by kernel_rfl) (gives_slice (x := .tmp 68) (lo := none) (hi := some (.tmp 70)) (mx := none) (v := .slice (some ⟨g, 0, none⟩) K.length (K.length + 80)) (by kernel_rfl) (by rw [show (actsTo _ _ _ vs _).eval (.tmp 68) = .slice (some ⟨g, 0, none⟩) (K.length + 80) (K.length + 80) from Eq.trans (b := vs 13) (by kernel_rfl) (hd 13 (.val (.slice (some ⟨g, 0, none⟩) (K.length + 80) (K.length + 80))) (by kernel_rfl) (by kernel_rfl)), show Option.map (actsTo _ _ _ vs _).eval (some (.tmp 70)) = some (.int .i64 (K.length : Nat)) from congrArg some (Eq.trans (b := vs 15) (by kernel_rfl) (hd 15 (.val (.int .i64 (K.length : Nat))) (by kernel_rfl) (by kernel_rfl)))]; exact HSl.out _) ⟨Ex.refl _, rfl⟩)) ?_
      refine req_cons (.bsl HL) (by kernel_rfl) (fun vs w1 he hd => StepG.plain (by kernel_rfl) (gives_call (f := 19) (xs := #[(.tmp 67), (.tmp 71)]) (ts := #[36, 22]) (vs := #[(vs 12), (vs 16)]) (by kernel_rfl) (by kernel_rfl) (by kernel_rfl) Tryd.func19 (by kernel_rfl) (by kernel_rfl) (by rw [show vs 12 = (.agg #[.string VC, .string VS, .slice s0 l0 t0, .slice s1 l1 t1, .slice s2 l2 t2, .slice s3 l3 t3, .slice s4 l4 t4]) from (hd 12 (.val (.agg #[.string VC, .string VS, .slice s0 l0 t0, .slice s1 l1 t1, .slice s2 l2 t2, .slice s3 l3 t3, .slice s4 l4 t4])) (by kernel_rfl) (by kernel_rfl)), show vs 16 = (.slice (some ⟨g, 0, none⟩) K.length (K.length + 80)) from (hd 16 (.val (.slice (some ⟨g, 0, none⟩) K.length (K.length + 80))) (by kernel_rfl) (by kernel_rfl))]; exact told_bytes (HHa.out _ he)))) ?_
      refine req_cons (.bsl HL) (by kernel_rfl) (fun vs w1 he hd => StepG.plain (by kernel_rfl) (gives_assign (x := (.tmp 72)) (v := (vs 17)) (by kernel_rfl) (by kernel_rfl) ⟨Ex.refl _, (hd 17 (.bsl HL) (by kernel_rfl) (by kernel_rfl))⟩)) ?_
      exact req_nil
    intro vs w3 hx hF
    have e0 : vs 0 = (.string VC) := told_at hF 0 (.val (.string VC)) (by decide) (by kernel_rfl)
    have e1 : vs 1 = (.string VS) := told_at hF 1 (.val (.string VS)) (by decide) (by kernel_rfl)
    have e2 : vs 2 = (.pointer (some ⟨T, 0, none⟩)) := told_at hF 2 (.val (.pointer (some ⟨T, 0, none⟩))) (by decide) (by kernel_rfl)
    have e3 : vs 3 = (.slice s0 l0 t0) := told_at hF 3 (.val (.slice s0 l0 t0)) (by decide) (by kernel_rfl)
    have e4 : vs 4 = (.pointer (some ⟨T, 1, none⟩)) := told_at hF 4 (.val (.pointer (some ⟨T, 1, none⟩))) (by decide) (by kernel_rfl)
    have e5 : vs 5 = (.slice s1 l1 t1) := told_at hF 5 (.val (.slice s1 l1 t1)) (by decide) (by kernel_rfl)
    have e6 : vs 6 = (.pointer (some ⟨T, 2, none⟩)) := told_at hF 6 (.val (.pointer (some ⟨T, 2, none⟩))) (by decide) (by kernel_rfl)
    have e7 : vs 7 = (.slice s2 l2 t2) := told_at hF 7 (.val (.slice s2 l2 t2)) (by decide) (by kernel_rfl)
    have e8 : vs 8 = (.pointer (some ⟨T, 3, none⟩)) := told_at hF 8 (.val (.pointer (some ⟨T, 3, none⟩))) (by decide) (by kernel_rfl)
    have e9 : vs 9 = (.slice s3 l3 t3) := told_at hF 9 (.val (.slice s3 l3 t3)) (by decide) (by kernel_rfl)
    have e10 : vs 10 = (.pointer (some ⟨T, 4, none⟩)) := told_at hF 10 (.val (.pointer (some ⟨T, 4, none⟩))) (by decide) (by kernel_rfl)
    have e11 : vs 11 = (.slice s4 l4 t4) := told_at hF 11 (.val (.slice s4 l4 t4)) (by decide) (by kernel_rfl)
    have e12 : vs 12 = (.agg #[.string VC, .string VS, .slice s0 l0 t0, .slice s1 l1 t1, .slice s2 l2 t2, .slice s3 l3 t3, .slice s4 l4 t4]) := told_at hF 12 (.val (.agg #[.string VC, .string VS, .slice s0 l0 t0, .slice s1 l1 t1, .slice s2 l2 t2, .slice s3 l3 t3, .slice s4 l4 t4])) (by decide) (by kernel_rfl)
    have e13 : vs 13 = (.slice (some ⟨g, 0, none⟩) (K.length + 80) (K.length + 80)) := told_at hF 13 (.val (.slice (some ⟨g, 0, none⟩) (K.length + 80) (K.length + 80))) (by decide) (by kernel_rfl)
    have e14 : vs 14 = (.slice ak K.length ck) := told_at hF 14 (.val (.slice ak K.length ck)) (by decide) (by kernel_rfl)
    have e15 : vs 15 = (.int .i64 (K.length : Nat)) := told_at hF 15 (.val (.int .i64 (K.length : Nat))) (by decide) (by kernel_rfl)
    have e16 : vs 16 = (.slice (some ⟨g, 0, none⟩) K.length (K.length + 80)) := told_at hF 16 (.val (.slice (some ⟨g, 0, none⟩) K.length (K.length + 80))) (by decide) (by kernel_rfl)
    have HA := hidden (told_at hF 18 (.bsl HL) (by decide) (by kernel_rfl))
    simp only [List.length_cons, List.length_nil, actsTo, if_true, dstOf, List.getElem?_toArray, List.getElem?_cons_succ, List.getElem?_cons_zero, Option.bind_some, Act.put, List.setIfInBounds_toArray, List.set_cons_zero, List.set_cons_succ]
    simp only [e0, e1, e2, e3, e4, e5, e6, e7, e8, e9, e10, e11, e12, e13, e14, e15, e16]
    generalize vs 17 = y17
    generalize vs 18 = y18 at HA ⊢
    clear hF e0 e1 e2 e3 e4 e5 e6 e7 e8 e9 e10 e11 e12 e13 e14 e15 e16 vs
    have HX3 := hidden hx
    have g0 := HC0.out w3 hx
    have g1 := HC1.out w3 hx
    have g2 := HC2.out w3 hx
    have g3 := HC3.out w3 hx
    have g4 := HC4.out w3 hx
    clear hx
    go_wp2_with fail
    refine (HHb.out w3 HX3.out).mono ?_
    rintro e w4 ⟨vb, rfl, hob, hb4⟩
    have HBv := hidden (BSl.ofRow hob)
    have HX4 : Hid (Ex w2 w4) := Ex.trans HX3.out hb4
    have HA4 := hidden (BSl.fresh HA.out hb4)
    clear hob hb4 g0 g1 g2 g3 g4 HA HX3 HHa HHb HBd HSl
    go_wp2_with fail
    refine (Derive_c _ _ _ K H I letter size (by omega) (by omega) (by omega) w4 (HR.out.fresh HX4.out) (HKf.out.fresh HX4.out) (HH.out.fresh HX4.out) (HI.out.fresh HX4.out)).mono ?_
    rintro e w5 hT
    obtain ⟨hb5, vd, rfl, hvd⟩ := hT.one
    have HX5 : Hid (Ex w2 w5) := Ex.trans HX4.out hb5
    have HA5 := hidden (HA4.out.fresh hb5)
    have HB5 := hidden (HBv.out.fresh hb5)
    have HD5 := hidden hvd
    clear hT hb5 hvd HA4 HBv HX4
    go_wp2_with fail
    refine (rDerive_c _ _ _ K H I letter size (by omega) (by omega) (by omega) w5 (HK.out.fresh HX5.out) (HH.out.fresh HX5.out) (HI.out.fresh HX5.out)).mono ?_
    rintro e w6 hT
    obtain ⟨hb6, vf, rfl, hvf⟩ := hT.one
    have HX6 : Hid (Ex w2 w6) := Ex.trans HX5.out hb6
    have HAz := hidden (HA5.out.fresh hb6)
    have HBz := hidden (HB5.out.fresh hb6)
    have HDz := hidden (HD5.out.fresh hb6)
    have HFz := hidden hvf
    have HKz := hidden (HK.out.fresh HX6.out)
    have HHz := hidden (HH.out.fresh HX6.out)
    have HRz := hidden (HR.out.fresh HX6.out)
    have HPz := hidden (HP0.out.fresh HX6.out)
    have HXz : Hid ((px 0).length ≤ 150) := by show _ ≤ _; exact HX150.out
    have HCz : Hid (∀ wx, Ex w6 wx → wx.cell? ⟨T, 0, none⟩ = some (.slice s0 l0 t0)) := fun wx hx => HC0.out wx (Ex.trans HX6.out hx)
    have HIn : Hid (∀ wx, Ex w6 wx → Calls Tryd.prog 22 #[.slice (some ⟨g, 0, none⟩) (K.length + 80) (K.length + 80), .slice ak K.length ck, .int .u8 165] wx fun e w' => e = .returned (.bool true) ∧ Below wx.heap.size wx w') := fun wx hx => (intact_c g _ K wx (by omega) (HGc.out wx (Ex.trans HX6.out hx)) (HKz.out.fresh hx)).mono fun e w' h => ⟨h.1, h.2.below (Nat.le_refl _) (fun _ h => h.elim)⟩
    have HBe := hidden (HB2.out.trans (HX6.out.mono HB2.out.size))
    generalize dN size = DN at HD5 HFz ⊢
    generalize dL K H letter I size = DL at HDz HFz
    clear hT hb6 hvf HA5 HB5 HD5 HX5 HX6 HK HH HI HR HKf HGc HC0 HC1 HC2 HC3 HC4 HP0 HP1 HP2 HP3 HP4 HB2
    go_wp2_with fail
    refine region_free [(.val y18), (.val (.string ⟨(List.toArray HL)⟩)), (.val vb), (.val (.string ⟨(List.toArray HL)⟩)), (.val (.bool true)), (.val (.bool true)), (.val vd), (.val (.string ⟨(List.toArray DL)⟩)), (.val vf), (.val (.string ⟨(List.toArray DL)⟩)), (.val (.bool true)), (.val (.bool true)), (.val (.bool true)), (.val (.int .i64 DN)), (.val (.int .i64 DN)), (.val (.bool true)), (.val (.bool true)), (.val (.bool true)), (.val (.slice ak K.length ck)), (.val (.slice ah H.length ch)), (.bsl (macL K H)), (.val (.string ⟨(List.toArray (macL K H))⟩)), (.val (.slice ak K.length ck)), (.val (.slice ah H.length ch)), (.bsl (macL K H)), (.val (.string ⟨(List.toArray (macL K H))⟩)), (.val (.bool true)), (.val (.bool true)), (.val (.bool true)), (.val (.pointer (some ⟨T, 0, none⟩))), (.val (.slice s0 l0 t0)), (.bsl (sumL (px 0))), (.val (.string ⟨(List.toArray (sumL (px 0)))⟩)), (.val (.pointer (some ⟨T, 0, none⟩))), (.val (.slice s0 l0 t0)), (.bsl (sumL (px 0))), (.val (.string ⟨(List.toArray (sumL (px 0)))⟩)), (.val (.bool true)), (.val (.bool true)), (.val (.bool true)), (.val (.slice (some ⟨g, 0, none⟩) (K.length + 80) (K.length + 80))), (.val (.slice ak K.length ck)), (.val (.bool true)), (.val (.bool true)), (.val (.bool true)), (.val (.bool true)), (.val (.bool true)), (.val (.bool true))] (by kernel_rfl) ?_ ?_
    · refine req_cons (.val y18) (by kernel_rfl) (fun vs w1 he hd => StepG.plain (by kernel_rfl) (gives_move (x := (.tmp 20)) (v := y18) (by kernel_rfl) (by kernel_rfl) ⟨Ex.refl _, rfl⟩)) ?_
      refine req_cons (.val (.string ⟨(List.toArray HL)⟩)) (by kernel_rfl) (fun vs w1 he hd => StepG.plain (by kernel_rfl) (gives_str (x := (.tmp 109)) (v := y18) (xs := HL) (by kernel_rfl) (Eq.trans (b := vs 0) (by kernel_rfl) (hd 0 (.val y18) (by kernel_rfl) (by kernel_rfl))) ((HAz.out.fresh he)) ⟨Ex.refl _, rfl⟩)) ?_
      refine req_cons (.val vb) (by kernel_rfl) (fun vs w1 he hd => StepG.plain (by kernel_rfl) (gives_move (x := (.tmp 21)) (v := vb) (by kernel_rfl) (by kernel_rfl) ⟨Ex.refl _, rfl⟩)) ?_
      refine req_cons (.val (.string ⟨(List.toArray HL)⟩)) (by kernel_rfl) (fun vs w1 he hd => StepG.plain (by kernel_rfl) (gives_str (x := (.tmp 111)) (v := vb) (xs := HL) (by kernel_rfl) (Eq.trans (b := vs 2) (by kernel_rfl) (hd 2 (.val vb) (by kernel_rfl) (by kernel_rfl))) ((HBz.out.fresh he)) ⟨Ex.refl _, rfl⟩)) ?_
      refine req_cons (.val (.bool true)) (by kernel_rfl) (fun vs w1 he hd => StepG.plain (by kernel_rfl) (gives_eqS (x := (.tmp 110)) (y := (.tmp 112)) (xs := HL) (ys := HL) (r := true) (by kernel_rfl) (Eq.trans (b := vs 1) (by kernel_rfl) (hd 1 (.val (.string ⟨(List.toArray HL)⟩)) (by kernel_rfl) (by kernel_rfl))) (Eq.trans (b := vs 3) (by kernel_rfl) (hd 3 (.val (.string ⟨(List.toArray HL)⟩)) (by kernel_rfl) (by kernel_rfl))) (by simp) ⟨Ex.refl _, rfl⟩)) ?_
      refine req_cons (.val (.bool true)) (by kernel_rfl) (fun vs w1 he hd => StepG.plain (by kernel_rfl) (gives_move (x := (.tmp 113)) (v := (.bool true)) (by kernel_rfl) (Eq.trans (b := vs 4) (by kernel_rfl) (hd 4 (.val (.bool true)) (by kernel_rfl) (by kernel_rfl))) ⟨Ex.refl _, rfl⟩)) ?_
      refine req_cons (.val vd) (by kernel_rfl) (fun vs w1 he hd => StepG.on (g := 5) (d := 114) (x := true) (v := vs 5) (by kernel_rfl) (by kernel_rfl) (by kernel_rfl) (hd 5 (.val (.bool true)) (by kernel_rfl) (by kernel_rfl)) (gives_move (x := (.tmp 22)) (v := vd) (by kernel_rfl) (by kernel_rfl) ⟨Ex.refl _, rfl⟩)) ?_
      refine req_cons (.val (.string ⟨(List.toArray DL)⟩)) (by kernel_rfl) (fun vs w1 he hd => StepG.on (g := 5) (d := 114) (x := true) (v := vs 5) (by kernel_rfl) (by kernel_rfl) (by kernel_rfl) (hd 5 (.val (.bool true)) (by kernel_rfl) (by kernel_rfl)) (gives_str (x := (.tmp 115)) (v := vd) (xs := DL) (by kernel_rfl) (Eq.trans (b := vs 6) (by kernel_rfl) (hd 6 (.val vd) (by kernel_rfl) (by kernel_rfl))) ((HDz.out.fresh he)) ⟨Ex.refl _, rfl⟩)) ?_
      refine req_cons (.val vf) (by kernel_rfl) (fun vs w1 he hd => StepG.on (g := 5) (d := 114) (x := true) (v := vs 5) (by kernel_rfl) (by kernel_rfl) (by kernel_rfl) (hd 5 (.val (.bool true)) (by kernel_rfl) (by kernel_rfl)) (gives_move (x := (.tmp 24)) (v := vf) (by kernel_rfl) (by kernel_rfl) ⟨Ex.refl _, rfl⟩)) ?_
      refine req_cons (.val (.string ⟨(List.toArray DL)⟩)) (by kernel_rfl) (fun vs w1 he hd => StepG.on (g := 5) (d := 114) (x := true) (v := vs 5) (by kernel_rfl) (by kernel_rfl) (by kernel_rfl) (hd 5 (.val (.bool true)) (by kernel_rfl) (by kernel_rfl)) (gives_str (x := (.tmp 117)) (v := vf) (xs := DL) (by kernel_rfl) (Eq.trans (b := vs 8) (by kernel_rfl) (hd 8 (.val vf) (by kernel_rfl) (by kernel_rfl))) ((HFz.out.fresh he)) ⟨Ex.refl _, rfl⟩)) ?_
      refine req_cons (.val (.bool true)) (by kernel_rfl) (fun vs w1 he hd => StepG.on (g := 5) (d := 114) (x := true) (v := vs 5) (by kernel_rfl) (by kernel_rfl) (by kernel_rfl) (hd 5 (.val (.bool true)) (by kernel_rfl) (by kernel_rfl)) (gives_eqS (x := (.tmp 116)) (y := (.tmp 118)) (xs := DL) (ys := DL) (r := true) (by kernel_rfl) (Eq.trans (b := vs 7) (by kernel_rfl) (hd 7 (.val (.string ⟨(List.toArray DL)⟩)) (by kernel_rfl) (by kernel_rfl))) (Eq.trans (b := vs 9) (by kernel_rfl) (hd 9 (.val (.string ⟨(List.toArray DL)⟩)) (by kernel_rfl) (by kernel_rfl))) (by simp) ⟨Ex.refl _, rfl⟩)) ?_
      refine req_cons (.val (.bool true)) (by kernel_rfl) (fun vs w1 he hd => StepG.plain (by kernel_rfl) (gives_pick_t (x := (.tmp 114)) (y := (.tmp 119)) (z := (.const (.bool false))) (v := (.bool true)) (by kernel_rfl) (Eq.trans (b := vs 5) (by kernel_rfl) (hd 5 (.val (.bool true)) (by kernel_rfl) (by kernel_rfl))) (Eq.trans (b := vs 10) (by kernel_rfl) (hd 10 (.val (.bool true)) (by kernel_rfl) (by kernel_rfl))) ⟨Ex.refl _, rfl⟩)) ?_
      refine req_cons (.val (.bool true)) (by kernel_rfl) (fun vs w1 he hd => StepG.plain (by kernel_rfl) (gives_move (x := (.tmp 120)) (v := (.bool true)) (by kernel_rfl) (Eq.trans (b := vs 11) (by kernel_rfl) (hd 11 (.val (.bool true)) (by kernel_rfl) (by kernel_rfl))) ⟨Ex.refl _, rfl⟩)) ?_
      refine req_cons (.val (.int .i64 DN)) (by kernel_rfl) (fun vs w1 he hd => StepG.on (g := 12) (d := 121) (x := true) (v := vs 12) (by kernel_rfl) (by kernel_rfl) (by kernel_rfl) (hd 12 (.val (.bool true)) (by kernel_rfl) (by kernel_rfl)) (gives_move (x := (.tmp 23)) (v := (.int .i64 DN)) (by kernel_rfl) (by kernel_rfl) ⟨Ex.refl _, rfl⟩)) ?_
      refine req_cons (.val (.int .i64 DN)) (by kernel_rfl) (fun vs w1 he hd => StepG.on (g := 12) (d := 121) (x := true) (v := vs 12) (by kernel_rfl) (by kernel_rfl) (by kernel_rfl) (hd 12 (.val (.bool true)) (by kernel_rfl) (by kernel_rfl)) (gives_move (x := (.tmp 25)) (v := (.int .i64 DN)) (by kernel_rfl) (by kernel_rfl) ⟨Ex.refl _, rfl⟩)) ?_
      refine req_cons (.val (.bool true)) (by kernel_rfl) (fun vs w1 he hd => StepG.on (g := 12) (d := 121) (x := true) (v := vs 12) (by kernel_rfl) (by kernel_rfl) (by kernel_rfl) (hd 12 (.val (.bool true)) (by kernel_rfl) (by kernel_rfl)) (gives_eqI (t := 3) (k := .i64) (a := DN) (b := DN) (x := (.tmp 122)) (y := (.tmp 123)) (r := true) (by kernel_rfl) (Eq.trans (b := vs 13) (by kernel_rfl) (hd 13 (.val (.int .i64 DN)) (by kernel_rfl) (by kernel_rfl))) (Eq.trans (b := vs 14) (by kernel_rfl) (hd 14 (.val (.int .i64 DN)) (by kernel_rfl) (by kernel_rfl))) (by simp) ⟨Ex.refl _, rfl⟩)) ?_
      refine req_cons (.val (.bool true)) (by kernel_rfl) (fun vs w1 he hd => StepG.plain (by kernel_rfl) (gives_pick_t (x := (.tmp 121)) (y := (.tmp 124)) (z := (.const (.bool false))) (v := (.bool true)) (by kernel_rfl) (Eq.trans (b := vs 12) (by kernel_rfl) (hd 12 (.val (.bool true)) (by kernel_rfl) (by kernel_rfl))) (Eq.trans (b := vs 15) (by kernel_rfl) (hd 15 (.val (.bool true)) (by kernel_rfl) (by kernel_rfl))) ⟨Ex.refl _, rfl⟩)) ?_
      refine req_cons (.val (.bool true)) (by kernel_rfl) (fun vs w1 he hd => StepG.plain (by kernel_rfl) (gives_move (x := (.tmp 125)) (v := (.bool true)) (by kernel_rfl) (Eq.trans (b := vs 16) (by kernel_rfl) (hd 16 (.val (.bool true)) (by kernel_rfl) (by kernel_rfl))) ⟨Ex.refl _, rfl⟩)) ?_
      refine req_cons (.val (.slice ak K.length ck)) (by kernel_rfl) (fun vs w1 he hd => StepG.on (g := 17) (d := 126) (x := true) (v := vs 17) (by kernel_rfl) (by kernel_rfl) (by kernel_rfl) (hd 17 (.val (.bool true)) (by kernel_rfl) (by kernel_rfl)) (gives_move (x := (.tmp 3)) (v := (.slice ak K.length ck)) (by kernel_rfl) (by kernel_rfl) ⟨Ex.refl _, rfl⟩)) ?_
      refine req_cons (.val (.slice ah H.length ch)) (by kernel_rfl) (fun vs w1 he hd => StepG.on (g := 17) (d := 126) (x := true) (v := vs 17) (by kernel_rfl) (by kernel_rfl) (by kernel_rfl) (hd 17 (.val (.bool true)) (by kernel_rfl) (by kernel_rfl)) (gives_move (x := (.tmp 4)) (v := (.slice ah H.length ch)) (by kernel_rfl) (by kernel_rfl) ⟨Ex.refl _, rfl⟩)) ?_
      refine req_cons (.bsl (macL K H)) (by kernel_rfl) (fun vs w1 he hd => StepG.on (g := 17) (d := 126) (x := true) (v := vs 17) (by kernel_rfl) (by kernel_rfl) (by kernel_rfl) (hd 17 (.val (.bool true)) (by kernel_rfl) (by kernel_rfl)) (gives_call (f := 11) (xs := #[(.tmp 127), (.tmp 128)]) (ts := #[22, 22]) (vs := #[(vs 18), (vs 19)]) (by kernel_rfl) (by kernel_rfl) (by kernel_rfl) Tryd.func11 (by kernel_rfl) (by kernel_rfl) (told_bytes (Mac_c _ _ K H (by omega) (by omega) _ (HRz.out.fresh he) (by rw [show vs 18 = (.slice ak K.length ck) from (hd 18 (.val (.slice ak K.length ck)) (by kernel_rfl) (by kernel_rfl))]; exact (HKz.out.fresh he)) (by rw [show vs 19 = (.slice ah H.length ch) from (hd 19 (.val (.slice ah H.length ch)) (by kernel_rfl) (by kernel_rfl))]; exact (HHz.out.fresh he)))))) ?_
      refine req_cons (.val (.string ⟨(List.toArray (macL K H))⟩)) (by kernel_rfl) (fun vs w1 he hd => StepG.on (g := 17) (d := 126) (x := true) (v := vs 17) (by kernel_rfl) (by kernel_rfl) (by kernel_rfl) (hd 17 (.val (.bool true)) (by kernel_rfl) (by kernel_rfl)) (gives_str (x := (.tmp 129)) (v := (vs 20)) (xs := (macL K H)) (by kernel_rfl) (by kernel_rfl) ((hd 20 (.bsl (macL K H)) (by kernel_rfl) (by kernel_rfl))) ⟨Ex.refl _, rfl⟩)) ?_
      refine req_cons (.val (.slice ak K.length ck)) (by kernel_rfl) (fun vs w1 he hd => StepG.on (g := 17) (d := 126) (x := true) (v := vs 17) (by kernel_rfl) (by kernel_rfl) (by kernel_rfl) (hd 17 (.val (.bool true)) (by kernel_rfl) (by kernel_rfl)) (gives_move (x := (.tmp 3)) (v := (.slice ak K.length ck)) (by kernel_rfl) (by kernel_rfl) ⟨Ex.refl _, rfl⟩)) ?_
      refine req_cons (.val (.slice ah H.length ch)) (by kernel_rfl) (fun vs w1 he hd => StepG.on (g := 17) (d := 126) (x := true) (v := vs 17) (by kernel_rfl) (by kernel_rfl) (by kernel_rfl) (hd 17 (.val (.bool true)) (by kernel_rfl) (by kernel_rfl)) (gives_move (x := (.tmp 4)) (v := (.slice ah H.length ch)) (by kernel_rfl) (by kernel_rfl) ⟨Ex.refl _, rfl⟩)) ?_
      refine req_cons (.bsl (macL K H)) (by kernel_rfl) (fun vs w1 he hd => StepG.on (g := 17) (d := 126) (x := true) (v := vs 17) (by kernel_rfl) (by kernel_rfl) (by kernel_rfl) (hd 17 (.val (.bool true)) (by kernel_rfl) (by kernel_rfl)) (gives_call (f := 12) (xs := #[(.tmp 131), (.tmp 132)]) (ts := #[22, 22]) (vs := #[(vs 22), (vs 23)]) (by kernel_rfl) (by kernel_rfl) (by kernel_rfl) Tryd.func12 (by kernel_rfl) (by kernel_rfl) (told_bytes (rMac_c _ _ K H (by omega) (by omega) _ (by rw [show vs 22 = (.slice ak K.length ck) from (hd 22 (.val (.slice ak K.length ck)) (by kernel_rfl) (by kernel_rfl))]; exact (HKz.out.fresh he)) (by rw [show vs 23 = (.slice ah H.length ch) from (hd 23 (.val (.slice ah H.length ch)) (by kernel_rfl) (by kernel_rfl))]; exact (HHz.out.fresh he)))))) ?_
      refine req_cons (.val (.string ⟨(List.toArray (macL K H))⟩)) (by kernel_rfl) (fun vs w1 he hd => StepG.on (g := 17) (d := 126) (x := true) (v := vs 17) (by kernel_rfl) (by kernel_rfl) (by kernel_rfl) (hd 17 (.val (.bool true)) (by kernel_rfl) (by kernel_rfl)) (gives_str (x := (.tmp 133)) (v := (vs 24)) (xs := (macL K H)) (by kernel_rfl) (by kernel_rfl) ((hd 24 (.bsl (macL K H)) (by kernel_rfl) (by kernel_rfl))) ⟨Ex.refl _, rfl⟩)) ?_
      refine req_cons (.val (.bool true)) (by kernel_rfl) (fun vs w1 he hd => StepG.on (g := 17) (d := 126) (x := true) (v := vs 17) (by kernel_rfl) (by kernel_rfl) (by kernel_rfl) (hd 17 (.val (.bool true)) (by kernel_rfl) (by kernel_rfl)) (gives_eqS (x := (.tmp 130)) (y := (.tmp 134)) (xs := (macL K H)) (ys := (macL K H)) (r := true) (by kernel_rfl) (Eq.trans (b := vs 21) (by kernel_rfl) (hd 21 (.val (.string ⟨(List.toArray (macL K H))⟩)) (by kernel_rfl) (by kernel_rfl))) (Eq.trans (b := vs 25) (by kernel_rfl) (hd 25 (.val (.string ⟨(List.toArray (macL K H))⟩)) (by kernel_rfl) (by kernel_rfl))) (by simp) ⟨Ex.refl _, rfl⟩)) ?_
      refine req_cons (.val (.bool true)) (by kernel_rfl) (fun vs w1 he hd => StepG.plain (by kernel_rfl) (gives_pick_t (x := (.tmp 126)) (y := (.tmp 135)) (z := (.const (.bool false))) (v := (.bool true)) (by kernel_rfl) (Eq.trans (b := vs 17) (by kernel_rfl) (hd 17 (.val (.bool true)) (by kernel_rfl) (by kernel_rfl))) (Eq.trans (b := vs 26) (by kernel_rfl) (hd 26 (.val (.bool true)) (by kernel_rfl) (by kernel_rfl))) ⟨Ex.refl _, rfl⟩)) ?_
      refine req_cons (.val (.bool true)) (by kernel_rfl) (fun vs w1 he hd => StepG.plain (by kernel_rfl) (gives_move (x := (.tmp 136)) (v := (.bool true)) (by kernel_rfl) (Eq.trans (b := vs 27) (by kernel_rfl) (hd 27 (.val (.bool true)) (by kernel_rfl) (by kernel_rfl))) ⟨Ex.refl _, rfl⟩)) ?_
      refine req_cons (.val (.pointer (some ⟨T, 0, none⟩))) (by kernel_rfl) (fun vs w1 he hd => StepG.on (g := 28) (d := 137) (x := true) (v := vs 28) (by kernel_rfl) (by kernel_rfl) (by kernel_rfl) (hd 28 (.val (.bool true)) (by kernel_rfl) (by kernel_rfl)) (gives_idx (x := .tmp 17) (j := 0) (T := T) (by decide) (by kernel_rfl) (by kernel_rfl) (by kernel_rfl) ⟨Ex.refl _, rfl⟩)) ?_
      refine req_cons (.val (.slice s0 l0 t0)) (by kernel_rfl) (fun vs w1 he hd => StepG.on (g := 28) (d := 137) (x := true) (v := vs 28) (by kernel_rfl) (by kernel_rfl) (by kernel_rfl) (hd 28 (.val (.bool true)) (by kernel_rfl) (by kernel_rfl)) (gives_load (x := .tmp 138) (a := ⟨T, 0, none⟩) (v := (.slice s0 l0 t0)) (by kernel_rfl) (Eq.trans (b := vs 29) (by kernel_rfl) (hd 29 (.val (.pointer (some ⟨T, 0, none⟩))) (by kernel_rfl) (by kernel_rfl))) (HCz.out _ he) ⟨Ex.refl _, rfl⟩)) ?_
      refine req_cons (.bsl (sumL (px 0))) (by kernel_rfl) (fun vs w1 he hd => StepG.on (g := 28) (d := 137) (x := true) (v := vs 28) (by kernel_rfl) (by kernel_rfl) (by kernel_rfl) (hd 28 (.val (.bool true)) (by kernel_rfl) (by kernel_rfl)) (gives_call (f := 9) (xs := #[(.tmp 139)]) (ts := #[22]) (vs := #[(vs 30)]) (by kernel_rfl) (by kernel_rfl) (by kernel_rfl) Tryd.func9 (by kernel_rfl) (by kernel_rfl) (told_bytes (Sum_c _ (px 0) (by have := HXz.out; omega) _ (HRz.out.fresh he) (by rw [show vs 30 = (.slice s0 l0 t0) from (hd 30 (.val (.slice s0 l0 t0)) (by kernel_rfl) (by kernel_rfl))]; exact (HPz.out.fresh he)))))) ?_
      refine req_cons (.val (.string ⟨(List.toArray (sumL (px 0)))⟩)) (by kernel_rfl) (fun vs w1 he hd => StepG.on (g := 28) (d := 137) (x := true) (v := vs 28) (by kernel_rfl) (by kernel_rfl) (by kernel_rfl) (hd 28 (.val (.bool true)) (by kernel_rfl) (by kernel_rfl)) (gives_str (x := (.tmp 140)) (v := (vs 31)) (xs := (sumL (px 0))) (by kernel_rfl) (by kernel_rfl) ((hd 31 (.bsl (sumL (px 0))) (by kernel_rfl) (by kernel_rfl))) ⟨Ex.refl _, rfl⟩)) ?_
      refine req_cons (.val (.pointer (some ⟨T, 0, none⟩))) (by kernel_rfl) (fun vs w1 he hd => StepG.on (g := 28) (d := 137) (x := true) (v := vs 28) (by kernel_rfl) (by kernel_rfl) (by kernel_rfl) (hd 28 (.val (.bool true)) (by kernel_rfl) (by kernel_rfl)) (gives_idx (x := .tmp 17) (j := 0) (T := T) (by decide) (by kernel_rfl) (by kernel_rfl) (by kernel_rfl) ⟨Ex.refl _, rfl⟩)) ?_
      refine req_cons (.val (.slice s0 l0 t0)) (by kernel_rfl) (fun vs w1 he hd => StepG.on (g := 28) (d := 137) (x := true) (v := vs 28) (by kernel_rfl) (by kernel_rfl) (by kernel_rfl) (hd 28 (.val (.bool true)) (by kernel_rfl) (by kernel_rfl)) (gives_load (x := .tmp 142) (a := ⟨T, 0, none⟩) (v := (.slice s0 l0 t0)) (by kernel_rfl) (Eq.trans (b := vs 33) (by kernel_rfl) (hd 33 (.val (.pointer (some ⟨T, 0, none⟩))) (by kernel_rfl) (by kernel_rfl))) (HCz.out _ he) ⟨Ex.refl _, rfl⟩)) ?_
      refine req_cons (.bsl (sumL (px 0))) (by kernel_rfl) (fun vs w1 he hd => StepG.on (g := 28) (d := 137) (x := true) (v := vs 28) (by kernel_rfl) (by kernel_rfl) (by kernel_rfl) (hd 28 (.val (.bool true)) (by kernel_rfl) (by kernel_rfl)) (gives_call (f := 10) (xs := #[(.tmp 143)]) (ts := #[22]) (vs := #[(vs 34)]) (by kernel_rfl) (by kernel_rfl) (by kernel_rfl) Tryd.func10 (by kernel_rfl) (by kernel_rfl) (told_bytes (rSum_c _ (px 0) (by have := HXz.out; omega) _ (by rw [show vs 34 = (.slice s0 l0 t0) from (hd 34 (.val (.slice s0 l0 t0)) (by kernel_rfl) (by kernel_rfl))]; exact (HPz.out.fresh he)))))) ?_
      refine req_cons (.val (.string ⟨(List.toArray (sumL (px 0)))⟩)) (by kernel_rfl) (fun vs w1 he hd => StepG.on (g := 28) (d := 137) (x := true) (v := vs 28) (by kernel_rfl) (by kernel_rfl) (by kernel_rfl) (hd 28 (.val (.bool true)) (by kernel_rfl) (by kernel_rfl)) (gives_str (x := (.tmp 144)) (v := (vs 35)) (xs := (sumL (px 0))) (by kernel_rfl) (by kernel_rfl) ((hd 35 (.bsl (sumL (px 0))) (by kernel_rfl) (by kernel_rfl))) ⟨Ex.refl _, rfl⟩)) ?_
      refine req_cons (.val (.bool true)) (by kernel_rfl) (fun vs w1 he hd => StepG.on (g := 28) (d := 137) (x := true) (v := vs 28) (by kernel_rfl) (by kernel_rfl) (by kernel_rfl) (hd 28 (.val (.bool true)) (by kernel_rfl) (by kernel_rfl)) (gives_eqS (x := (.tmp 141)) (y := (.tmp 145)) (xs := (sumL (px 0))) (ys := (sumL (px 0))) (r := true) (by kernel_rfl) (Eq.trans (b := vs 32) (by kernel_rfl) (hd 32 (.val (.string ⟨(List.toArray (sumL (px 0)))⟩)) (by kernel_rfl) (by kernel_rfl))) (Eq.trans (b := vs 36) (by kernel_rfl) (hd 36 (.val (.string ⟨(List.toArray (sumL (px 0)))⟩)) (by kernel_rfl) (by kernel_rfl))) (by simp) ⟨Ex.refl _, rfl⟩)) ?_
      refine req_cons (.val (.bool true)) (by kernel_rfl) (fun vs w1 he hd => StepG.plain (by kernel_rfl) (gives_pick_t (x := (.tmp 137)) (y := (.tmp 146)) (z := (.const (.bool false))) (v := (.bool true)) (by kernel_rfl) (Eq.trans (b := vs 28) (by kernel_rfl) (hd 28 (.val (.bool true)) (by kernel_rfl) (by kernel_rfl))) (Eq.trans (b := vs 37) (by kernel_rfl) (hd 37 (.val (.bool true)) (by kernel_rfl) (by kernel_rfl))) ⟨Ex.refl _, rfl⟩)) ?_
      refine req_cons (.val (.bool true)) (by kernel_rfl) (fun vs w1 he hd => StepG.plain (by kernel_rfl) (gives_move (x := (.tmp 147)) (v := (.bool true)) (by kernel_rfl) (Eq.trans (b := vs 38) (by kernel_rfl) (hd 38 (.val (.bool true)) (by kernel_rfl) (by kernel_rfl))) ⟨Ex.refl _, rfl⟩)) ?_
      refine req_cons (.val (.slice (some ⟨g, 0, none⟩) (K.length + 80) (K.length + 80))) (by kernel_rfl) (fun vs w1 he hd => StepG.on (g := 39) (d := 148) (x := true) (v := vs 39) (by kernel_rfl) (by kernel_rfl) (by kernel_rfl) (hd 39 (.val (.bool true)) (by kernel_rfl) (by kernel_rfl)) (gives_move (x := (.tmp 19)) (v := (.slice (some ⟨g, 0, none⟩) (K.length + 80) (K.length + 80))) (by kernel_rfl) (by kernel_rfl) ⟨Ex.refl _, rfl⟩)) ?_
      refine req_cons (.val (.slice ak K.length ck)) (by kernel_rfl) (fun vs w1 he hd => StepG.on (g := 39) (d := 148) (x := true) (v := vs 39) (by kernel_rfl) (by kernel_rfl) (by kernel_rfl) (hd 39 (.val (.bool true)) (by kernel_rfl) (by kernel_rfl)) (gives_move (x := (.tmp 3)) (v := (.slice ak K.length ck)) (by kernel_rfl) (by kernel_rfl) ⟨Ex.refl _, rfl⟩)) ?_
      refine req_cons (.val (.bool true)) (by kernel_rfl) (fun vs w1 he hd => StepG.on (g := 39) (d := 148) (x := true) (v := vs 39) (by kernel_rfl) (by kernel_rfl) (by kernel_rfl) (hd 39 (.val (.bool true)) (by kernel_rfl) (by kernel_rfl)) (gives_call (f := 22) (xs := #[(.tmp 149), (.tmp 150), (.const (.int .u8 165))]) (ts := #[22, 22, 5]) (vs := #[(vs 40), (vs 41), (.int .u8 165)]) (by kernel_rfl) (by kernel_rfl) (by kernel_rfl) Tryd.func22 (by kernel_rfl) (by kernel_rfl) (by rw [show vs 40 = (.slice (some ⟨g, 0, none⟩) (K.length + 80) (K.length + 80)) from (hd 40 (.val (.slice (some ⟨g, 0, none⟩) (K.length + 80) (K.length + 80))) (by kernel_rfl) (by kernel_rfl)), show vs 41 = (.slice ak K.length ck) from (hd 41 (.val (.slice ak K.length ck)) (by kernel_rfl) (by kernel_rfl))]; exact told_true (HIn.out _ he)))) ?_
      refine req_cons (.val (.bool true)) (by kernel_rfl) (fun vs w1 he hd => StepG.plain (by kernel_rfl) (gives_pick_t (x := (.tmp 148)) (y := (.tmp 151)) (z := (.const (.bool false))) (v := (.bool true)) (by kernel_rfl) (Eq.trans (b := vs 39) (by kernel_rfl) (hd 39 (.val (.bool true)) (by kernel_rfl) (by kernel_rfl))) (Eq.trans (b := vs 42) (by kernel_rfl) (hd 42 (.val (.bool true)) (by kernel_rfl) (by kernel_rfl))) ⟨Ex.refl _, rfl⟩)) ?_
      refine req_cons (.val (.bool true)) (by kernel_rfl) (fun vs w1 he hd => StepG.plain (by kernel_rfl) (gives_move (x := (.tmp 152)) (v := (.bool true)) (by kernel_rfl) (Eq.trans (b := vs 43) (by kernel_rfl) (hd 43 (.val (.bool true)) (by kernel_rfl) (by kernel_rfl))) ⟨Ex.refl _, rfl⟩)) ?_
      refine req_cons (.val (.bool true)) (by kernel_rfl) (fun vs w1 he hd => StepG.on (g := 44) (d := 153) (x := true) (v := vs 44) (by kernel_rfl) (by kernel_rfl) (by kernel_rfl) (hd 44 (.val (.bool true)) (by kernel_rfl) (by kernel_rfl)) (gives_call (f := 15) (xs := #[]) (ts := #[]) (vs := #[]) (by kernel_rfl) (by kernel_rfl) (by kernel_rfl) Tryd.func15 (by kernel_rfl) (by kernel_rfl) (told_true (known_c _ (HRz.out.fresh he))))) ?_
      refine req_cons (.val (.bool true)) (by kernel_rfl) (fun vs w1 he hd => StepG.plain (by kernel_rfl) (gives_pick_t (x := (.tmp 153)) (y := (.tmp 154)) (z := (.const (.bool false))) (v := (.bool true)) (by kernel_rfl) (Eq.trans (b := vs 44) (by kernel_rfl) (hd 44 (.val (.bool true)) (by kernel_rfl) (by kernel_rfl))) (Eq.trans (b := vs 45) (by kernel_rfl) (hd 45 (.val (.bool true)) (by kernel_rfl) (by kernel_rfl))) ⟨Ex.refl _, rfl⟩)) ?_
      refine req_cons (.val (.bool true)) (by kernel_rfl) (fun vs w1 he hd => StepG.plain (by kernel_rfl) (gives_assign (x := (.tmp 155)) (v := (.bool true)) (by kernel_rfl) (Eq.trans (b := vs 46) (by kernel_rfl) (hd 46 (.val (.bool true)) (by kernel_rfl) (by kernel_rfl))) ⟨Ex.refl _, rfl⟩)) ?_
      exact req_nil
    intro vs w7 hx hF
    have e0 : vs 0 = y18 := told_at hF 0 (.val y18) (by decide) (by kernel_rfl)
    have e1 : vs 1 = (.string ⟨(List.toArray HL)⟩) := told_at hF 1 (.val (.string ⟨(List.toArray HL)⟩)) (by decide) (by kernel_rfl)
    have e2 : vs 2 = vb := told_at hF 2 (.val vb) (by decide) (by kernel_rfl)
    have e3 : vs 3 = (.string ⟨(List.toArray HL)⟩) := told_at hF 3 (.val (.string ⟨(List.toArray HL)⟩)) (by decide) (by kernel_rfl)
    have e4 : vs 4 = (.bool true) := told_at hF 4 (.val (.bool true)) (by decide) (by kernel_rfl)
    have e5 : vs 5 = (.bool true) := told_at hF 5 (.val (.bool true)) (by decide) (by kernel_rfl)
    have e6 : vs 6 = vd := told_at hF 6 (.val vd) (by decide) (by kernel_rfl)
    have e7 : vs 7 = (.string ⟨(List.toArray DL)⟩) := told_at hF 7 (.val (.string ⟨(List.toArray DL)⟩)) (by decide) (by kernel_rfl)
    have e8 : vs 8 = vf := told_at hF 8 (.val vf) (by decide) (by kernel_rfl)
    have e9 : vs 9 = (.string ⟨(List.toArray DL)⟩) := told_at hF 9 (.val (.string ⟨(List.toArray DL)⟩)) (by decide) (by kernel_rfl)
    have e10 : vs 10 = (.bool true) := told_at hF 10 (.val (.bool true)) (by decide) (by kernel_rfl)
    have e11 : vs 11 = (.bool true) := told_at hF 11 (.val (.bool true)) (by decide) (by kernel_rfl)
    have e12 : vs 12 = (.bool true) := told_at hF 12 (.val (.bool true)) (by decide) (by kernel_rfl)
    have e13 : vs 13 = (.int .i64 DN) := told_at hF 13 (.val (.int .i64 DN)) (by decide) (by kernel_rfl)
    have e14 : vs 14 = (.int .i64 DN) := told_at hF 14 (.val (.int .i64 DN)) (by decide) (by kernel_rfl)
    have e15 : vs 15 = (.bool true) := told_at hF 15 (.val (.bool true)) (by decide) (by kernel_rfl)
    have e16 : vs 16 = (.bool true) := told_at hF 16 (.val (.bool true)) (by decide) (by kernel_rfl)
    have e17 : vs 17 = (.bool true) := told_at hF 17 (.val (.bool true)) (by decide) (by kernel_rfl)
    have e18 : vs 18 = (.slice ak K.length ck) := told_at hF 18 (.val (.slice ak K.length ck)) (by decide) (by kernel_rfl)
    have e19 : vs 19 = (.slice ah H.length ch) := told_at hF 19 (.val (.slice ah H.length ch)) (by decide) (by kernel_rfl)
    have e21 : vs 21 = (.string ⟨(List.toArray (macL K H))⟩) := told_at hF 21 (.val (.string ⟨(List.toArray (macL K H))⟩)) (by decide) (by kernel_rfl)
    have e22 : vs 22 = (.slice ak K.length ck) := told_at hF 22 (.val (.slice ak K.length ck)) (by decide) (by kernel_rfl)
    have e23 : vs 23 = (.slice ah H.length ch) := told_at hF 23 (.val (.slice ah H.length ch)) (by decide) (by kernel_rfl)
    have e25 : vs 25 = (.string ⟨(List.toArray (macL K H))⟩) := told_at hF 25 (.val (.string ⟨(List.toArray (macL K H))⟩)) (by decide) (by kernel_rfl)
    have e26 : vs 26 = (.bool true) := told_at hF 26 (.val (.bool true)) (by decide) (by kernel_rfl)
    have e27 : vs 27 = (.bool true) := told_at hF 27 (.val (.bool true)) (by decide) (by kernel_rfl)
    have e28 : vs 28 = (.bool true) := told_at hF 28 (.val (.bool true)) (by decide) (by kernel_rfl)
    have e29 : vs 29 = (.pointer (some ⟨T, 0, none⟩)) := told_at hF 29 (.val (.pointer (some ⟨T, 0, none⟩))) (by decide) (by kernel_rfl)
    have e30 : vs 30 = (.slice s0 l0 t0) := told_at hF 30 (.val (.slice s0 l0 t0)) (by decide) (by kernel_rfl)
    have e32 : vs 32 = (.string ⟨(List.toArray (sumL (px 0)))⟩) := told_at hF 32 (.val (.string ⟨(List.toArray (sumL (px 0)))⟩)) (by decide) (by kernel_rfl)
    have e33 : vs 33 = (.pointer (some ⟨T, 0, none⟩)) := told_at hF 33 (.val (.pointer (some ⟨T, 0, none⟩))) (by decide) (by kernel_rfl)
    have e34 : vs 34 = (.slice s0 l0 t0) := told_at hF 34 (.val (.slice s0 l0 t0)) (by decide) (by kernel_rfl)
    have e36 : vs 36 = (.string ⟨(List.toArray (sumL (px 0)))⟩) := told_at hF 36 (.val (.string ⟨(List.toArray (sumL (px 0)))⟩)) (by decide) (by kernel_rfl)
    have e37 : vs 37 = (.bool true) := told_at hF 37 (.val (.bool true)) (by decide) (by kernel_rfl)
    have e38 : vs 38 = (.bool true) := told_at hF 38 (.val (.bool true)) (by decide) (by kernel_rfl)
    have e39 : vs 39 = (.bool true) := told_at hF 39 (.val (.bool true)) (by decide) (by kernel_rfl)
    have e40 : vs 40 = (.slice (some ⟨g, 0, none⟩) (K.length + 80) (K.length + 80)) := told_at hF 40 (.val (.slice (some ⟨g, 0, none⟩) (K.length + 80) (K.length + 80))) (by decide) (by kernel_rfl)
    have e41 : vs 41 = (.slice ak K.length ck) := told_at hF 41 (.val (.slice ak K.length ck)) (by decide) (by kernel_rfl)
    have e42 : vs 42 = (.bool true) := told_at hF 42 (.val (.bool true)) (by decide) (by kernel_rfl)
    have e43 : vs 43 = (.bool true) := told_at hF 43 (.val (.bool true)) (by decide) (by kernel_rfl)
    have e44 : vs 44 = (.bool true) := told_at hF 44 (.val (.bool true)) (by decide) (by kernel_rfl)
    have e45 : vs 45 = (.bool true) := told_at hF 45 (.val (.bool true)) (by decide) (by kernel_rfl)
    have e46 : vs 46 = (.bool true) := told_at hF 46 (.val (.bool true)) (by decide) (by kernel_rfl)
    have e47 : vs 47 = (.bool true) := told_at hF 47 (.val (.bool true)) (by decide) (by kernel_rfl)
    simp only [List.length_cons, List.length_nil, actsTo, if_true, dstOf, List.getElem?_toArray, List.getElem?_cons_succ, List.getElem?_cons_zero, Option.bind_some, Act.put, List.setIfInBounds_toArray, List.set_cons_zero, List.set_cons_succ]
    simp only [e0, e1, e2, e3, e4, e5, e6, e7, e8, e9, e10, e11, e12, e13, e14, e15, e16, e17, e18, e19, e21, e22, e23, e25, e26, e27, e28, e29, e30, e32, e33, e34, e36, e37, e38, e39, e40, e41, e42, e43, e44, e45, e46, e47]
    generalize vs 20 = y20
    generalize vs 24 = y24
    generalize vs 31 = y31
    generalize vs 35 = y35
    clear hF e0 e1 e2 e3 e4 e5 e6 e7 e8 e9 e10 e11 e12 e13 e14 e15 e16 e17 e18 e19 e21 e22 e23 e25 e26 e27 e28 e29 e30 e32 e33 e34 e36 e37 e38 e39 e40 e41 e42 e43 e44 e45 e46 e47 vs
    go_wp2
    go_ret
    exact ⟨rfl, HBe.out.trans (hx.mono HBe.out.size)⟩
end Go.Proofs.YtllkafhooapcbaaDoor
