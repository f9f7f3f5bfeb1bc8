/- What Next does, way by way. -/
import Derived.Test.YthkaibkmpenclaaDoorPkN
namespace Go.Proofs.YthkaibkmpenclaaDoor
open Go Go.RowKit

theorem lenE_six {key : List UInt8} {L : Nat} (h : lenE key L = 0) : 6 ≤ L := by
  rw [lenE] at h
  split at h
  · cases h
  · split at h
    · cases h
    · omega
theorem elemU8 : Tryd.prog.underlying 22 = some (.slice (Tryd.prog.elem 22)) := by kernel_rfl
theorem elemEq : Tryd.prog.elem 22 = 5 := by kernel_rfl
theorem run_mid (b o n cap l h : Nat) (h1 : l ≤ h) (h2 : h ≤ cap) (h3 : l < cap) (w : World) : (Instr.sliceAt 22 (.slice (some ⟨b, o, none⟩) n cap) (some (.int .i64 (l : Int))) (some (.int .i64 (h : Int))) none).run Tryd.prog w = .ok (.slice (some ⟨b, o + l, none⟩) (h - l) (cap - l)) w := by
  obtain ⟨i0, hi, hz0, hz1, hz2⟩ := info_parts Tryd.infoU8
  rw [run_sliceAt_slice w _ _ _ _ _ elemU8, run_slice_lh w _ _ _ _ elemU8 _ _ _ _ (by omega) (by omega) (by omega), elemEq]
  simp [sizeOf, typeInfo, hi, hz1, sliced, add_lit', show ¬ cap = l by omega]
section
variable {o : Oper} {ρ : Operand → Value} {w : World} {x : Operand} {v : Value} {Φ : Value → World → Prop}
theorem gives_fieldI0 {g : Nat} (ho : o.op = .fieldAddr 74 x 0) (hx : ρ x = .pointer (some ⟨g, 0, none⟩)) (h : Φ (.pointer (some ⟨g, 0, none⟩)) w) : Gives Tryd.prog o ρ w Φ := by
  refine Gives.value (w' := w) (v := .pointer (some ⟨g, 0, none⟩)) ?_ h
  unfold execOp
  simp only [ho]
  rw [hx]
  kernel_rfl
theorem gives_fieldI1 {g : Nat} (ho : o.op = .fieldAddr 74 x 1) (hx : ρ x = .pointer (some ⟨g, 0, none⟩)) (h : Φ (.pointer (some ⟨g, 2, none⟩)) w) : Gives Tryd.prog o ρ w Φ := by
  refine Gives.value (w' := w) (v := .pointer (some ⟨g, 2, none⟩)) ?_ h
  unfold execOp
  simp only [ho]
  rw [hx]
  kernel_rfl
end

set_option maxHeartbeats 1600000 in
set_option maxRecDepth 100000 in
theorem next_s1 (w : World) {g h : Nat} {kb : Option Nat} {key : List UInt8} {c : Nat} {xs : List UInt8} (i : InS w g h kb key c xs 0) (hl : xs.length ≤ 9500) (h4x : xs.length < 4) :
    Calls Tryd.prog 27 #[.pointer (some ⟨g, 0, none⟩)] w fun e w' => NTold w g h kb key c xs (.short) e w' := by
  have HI := hidden i
  have HMV := hidden (Moved.refl g h kb w)
  have HLN := hidden i.line
  have hbl := i.blockLt
  obtain ⟨⟨kv, hv0, ps, h1, h2, hkb, h3, h4⟩, h5, h6, h7, h8, h9⟩ := i
  obtain ⟨c0, c1, c2, c3, c4, hf⟩ := cells5 h1
  simp only [NTold]
  obtain ⟨a0, p0, rfl⟩ := h3.len
  have hlt : (xs.length : Int) < 4 := by omega
  clear h1 h2 h3 h7 h8 c0 c1 c3 h4x hkb
  go_enter Tryd.func27, Tryd.ntmps27
  go_wp2
  refine scope_forward 3 ?_
  go_wp2
  go_step3
  refine .inr ⟨_, rfl, ?_⟩
  go_wp2
  simp only [hops]
  go_ret3
  exact ⟨rfl, HI.out, HMV.out⟩

set_option maxHeartbeats 1600000 in
set_option maxRecDepth 100000 in
theorem next_b1 (w : World) {g h : Nat} {kb : Option Nat} {key : List UInt8} {c : Nat} {xs : List UInt8} (i : InS w g h kb key c xs 0) (hl : xs.length ≤ 9500) (h4x : 4 ≤ xs.length) (hE : lenE key (lenOf xs) ≠ 0) :
    Calls Tryd.prog 27 #[.pointer (some ⟨g, 0, none⟩)] w fun e w' => NTold w g h kb key c xs (.bad (lenE key (lenOf xs))) e w' := by
  have HI := hidden i
  have HMV := hidden (Moved.refl g h kb w)
  have HLN := hidden i.line
  have hbl := i.blockLt
  obtain ⟨⟨kv, hv0, ps, h1, h2, hkb, h3, h4⟩, h5, h6, h7, h8, h9⟩ := i
  obtain ⟨c0, c1, c2, c3, c4, hf⟩ := cells5 h1
  simp only [NTold]
  have HG := hidden h1
  obtain ⟨off, cap, e0, hcap, hcm⟩ : ∃ off cap, hv0 = .slice (some ⟨h, off, none⟩) xs.length cap ∧ xs.length ≤ cap ∧ cap ≤ maxLen := by
    rcases h3 with ⟨_, e, _⟩ | ⟨hne, off, cap, cur, rfl, r2, r3, r4, r5, r6⟩
    · rw [e] at h4x; simp at h4x
    · exact ⟨off, cap, rfl, r4, r5⟩
  have hbs := h3.bsl
  subst e0
  have HBS := hidden hbs
  unfold maxLen at hcm
  have hhd := hbs.head' (n := 4) h4x
  have HHD := hidden hhd
  have hlen4 : (xs.take 4).length = 4 := by rw [List.length_take]; omega
  have hLE := lengthOf_c _ (xs.take 4) hlen4 w hhd HLN.out
  rw [show val (xs.take 4) = lenOf xs from rfl] at hLE
  obtain ⟨n, hn⟩ : ∃ n, n = xs.length := ⟨_, rfl⟩
  have HN := hidden hn
  have hn4 : ¬ (n : Int) < 4 := by omega
  have hc4 : (4 : Int) ≤ (cap : Int) := by omega
  rw [if_neg hE] at hLE
  rw [← hn] at c2 HBS
  have HLE := hidden hLE
  generalize lenE key (lenOf xs) = E at hE HLE ⊢
  have HW := hidden (wiped_ok (kb := kb) (Keeps.refl (fun k => k = g ∨ k = h) w) h1 E)
  have hE3 : ((E : Int) != 0) = true := by simpa using hE
  clear h1 h2 h3 h7 h8 h4x hkb hbs hhd hlen4 hLE hn hE HG
  go_enter Tryd.func27, Tryd.ntmps27
  go_wp2
  refine scope_forward 3 ?_
  go_wp2_with fail
  refine HLE.out.mono ?_
  rintro e w2 ⟨rfl, hw2⟩
  subst hw2
  go_wp2
  go_step3
  refine .inr ⟨_, rfl, ?_⟩
  go_wp2
  go_step3
  go_wp2
  simp only [hops]
  go_ret3
  exact ⟨rfl, HW.out.1, HW.out.2⟩

set_option maxHeartbeats 1600000 in
set_option maxRecDepth 100000 in
theorem next_s2 (w : World) {g h : Nat} {kb : Option Nat} {key : List UInt8} {c : Nat} {xs : List UInt8} (i : InS w g h kb key c xs 0) (hl : xs.length ≤ 9500) (h4x : 4 ≤ xs.length) (hE : lenE key (lenOf xs) = 0) (hsh : xs.length < 4 + lenOf xs + tagN key) :
    Calls Tryd.prog 27 #[.pointer (some ⟨g, 0, none⟩)] w fun e w' => NTold w g h kb key c xs (.short) e w' := by
  have HI := hidden i
  have HMV := hidden (Moved.refl g h kb w)
  have HLN := hidden i.line
  have hbl := i.blockLt
  obtain ⟨⟨kv, hv0, ps, h1, h2, hkb, h3, h4⟩, h5, h6, h7, h8, h9⟩ := i
  obtain ⟨c0, c1, c2, c3, c4, hf⟩ := cells5 h1
  simp only [NTold]
  have HG := hidden h1
  obtain ⟨off, cap, e0, hcap, hcm⟩ : ∃ off cap, hv0 = .slice (some ⟨h, off, none⟩) xs.length cap ∧ xs.length ≤ cap ∧ cap ≤ maxLen := by
    rcases h3 with ⟨_, e, _⟩ | ⟨hne, off, cap, cur, rfl, r2, r3, r4, r5, r6⟩
    · rw [e] at h4x; simp at h4x
    · exact ⟨off, cap, rfl, r4, r5⟩
  have hbs := h3.bsl
  subst e0
  have HBS := hidden hbs
  unfold maxLen at hcm
  have hhd := hbs.head' (n := 4) h4x
  have HHD := hidden hhd
  have hlen4 : (xs.take 4).length = 4 := by rw [List.length_take]; omega
  have hLE := lengthOf_c _ (xs.take 4) hlen4 w hhd HLN.out
  rw [show val (xs.take 4) = lenOf xs from rfl] at hLE
  obtain ⟨n, hn⟩ : ∃ n, n = xs.length := ⟨_, rfl⟩
  have HN := hidden hn
  have hn4 : ¬ (n : Int) < 4 := by omega
  have hc4 : (4 : Int) ≤ (cap : Int) := by omega
  rw [if_pos hE, hE] at hLE
  have HLE := hidden hLE
  have HBH := hidden (behind_c w HLN.out)
  rw [← hn] at c2 HBS
  have hL35 : lenOf xs ≤ 35000 := by
    rw [lenE] at hE
    split at hE
    · cases hE
    · omega
  have hL6 := lenE_six hE
  have htg : tagN key ≤ 16 := by unfold tagN; split <;> omega
  rw [← hn] at hsh
  generalize lenOf xs = L at hL35 hL6 HLE hsh
  generalize tagN key = T at htg HBH hsh
  have hcmp : (n : Int) < 4 + (L : Int) + (T : Int) := by omega
  clear h1 h2 h3 h7 h8 c0 c1 c3 h4x hkb hbs hhd hlen4 hLE hn hE HG
  go_enter Tryd.func27, Tryd.ntmps27
  go_wp2
  refine scope_forward 3 ?_
  go_wp2_with fail
  refine HLE.out.mono ?_
  rintro e w2 ⟨rfl, hw2⟩
  subst hw2
  go_wp2_with fail
  refine HBH.out.mono ?_
  rintro e w3 ⟨rfl, hw3⟩
  subst hw3
  go_wp2
  go_step3
  refine .inr ⟨_, rfl, ?_⟩
  go_wp2
  simp only [hops]
  go_ret3
  exact ⟨rfl, HI.out, HMV.out⟩

set_option maxHeartbeats 1600000 in
set_option maxRecDepth 100000 in
theorem next_b2 (w : World) {g h : Nat} {kb : Option Nat} {key : List UInt8} {c : Nat} {xs : List UInt8} (i : InS w g h kb key c xs 0) (hl : xs.length ≤ 9500) (hcl : Cl w) (h4x : 4 ≤ xs.length) (hE : lenE key (lenOf xs) = 0) (hsh : 4 + lenOf xs + tagN key ≤ xs.length) (hO : openedE key c xs ≠ 0) :
    Calls Tryd.prog 27 #[.pointer (some ⟨g, 0, none⟩)] w fun e w' => NTold w g h kb key c xs (.bad (openedE key c xs)) e w' := by
  have HI := hidden i
  have HMV := hidden (Moved.refl g h kb w)
  have HLN := hidden i.line
  have hbl := i.blockLt
  obtain ⟨⟨kv, hv0, ps, h1, h2, hkb, h3, h4⟩, h5, h6, h7, h8, h9⟩ := i
  obtain ⟨c0, c1, c2, c3, c4, hf⟩ := cells5 h1
  simp only [NTold]
  have HCL := hidden hcl
  have HG := hidden h1
  obtain ⟨off, cap, e0, hcap, hcm⟩ : ∃ off cap, hv0 = .slice (some ⟨h, off, none⟩) xs.length cap ∧ xs.length ≤ cap ∧ cap ≤ maxLen := by
    rcases h3 with ⟨_, e, _⟩ | ⟨hne, off, cap, cur, rfl, r2, r3, r4, r5, r6⟩
    · rw [e] at h4x; simp at h4x
    · exact ⟨off, cap, rfl, r4, r5⟩
  have hbs := h3.bsl
  subst e0
  have HBS := hidden hbs
  unfold maxLen at hcm
  have hhd := hbs.head' (n := 4) h4x
  have HHD := hidden hhd
  have hlen4 : (xs.take 4).length = 4 := by rw [List.length_take]; omega
  have hLE := lengthOf_c _ (xs.take 4) hlen4 w hhd HLN.out
  rw [show val (xs.take 4) = lenOf xs from rfl] at hLE
  obtain ⟨n, hn⟩ : ∃ n, n = xs.length := ⟨_, rfl⟩
  have HN := hidden hn
  have hn4 : ¬ (n : Int) < 4 := by omega
  have hc4 : (4 : Int) ≤ (cap : Int) := by omega
  rw [if_pos hE, hE] at hLE
  have HLE := hidden hLE
  have HBH := hidden (behind_c w HLN.out)
  rw [← hn] at c2 HBS
  have hL35 : lenOf xs ≤ 35000 := by
    rw [lenE] at hE
    split at hE
    · cases hE
    · omega
  have hL6 := lenE_six hE
  have htg : tagN key ≤ 16 := by unfold tagN; split <;> omega
  have hpart := hbs.part (i := 4) (j := lenOf xs + tagN key) (by omega)
  have HOPEN : Hid (∀ wx : World, Ex w wx → Calls Tryd.prog 43 #[.pointer (some ⟨g, 0, none⟩), .slice (some ⟨h, off, none⟩) 4 cap, .slice (some ⟨h, off + 4, none⟩) (lenOf xs + tagN key) (cap - 4)] wx fun e w' => ∃ v, e = .returned v ∧ Ex wx w' ∧ (Fact.told (openedT key c xs) ((openedE key c xs : Nat) : Int)).holds v w') := by
    intro wx he
    refine (open_c wx (HLN.out.fresh he) (HCL.out.fresh he) _ _ (xs.take 4) (bodyAt key xs) (HHD.out.fresh he) (hpart.fresh he) (by omega) (by rw [bodyAt, List.length_take, List.length_drop]; omega)).mono ?_
    rintro e w' ⟨hx, v, rfl, hb⟩
    exact ⟨_, rfl, hx, v, rfl, hb⟩
  rw [← hn] at hsh
  have hsz : 4 + lenOf xs + tagN key - 4 = lenOf xs + tagN key := by omega
  generalize hLL : lenOf xs = L at hL35 hL6 HLE hsh HOPEN hsz
  generalize hTT : tagN key = T at htg HBH hsh HOPEN hsz
  obtain ⟨sz, hsze⟩ : ∃ sz, sz = 4 + L + T := ⟨_, rfl⟩
  have HSZ := hidden hsze
  have hcmp : ¬ (n : Int) < 4 + (L : Int) + (T : Int) := by omega
  have hIszz : 4 + (L : Int) + (T : Int) = (sz : Int) := by omega
  have HSL : Hid (∀ wx : World, (Instr.sliceAt 22 (.slice (some ⟨h, off, none⟩) n cap) (some (.int .i64 4)) (some (.int .i64 (sz : Int))) none).run Tryd.prog wx = .ok (.slice (some ⟨h, off + 4, none⟩) (L + T) (cap - 4)) wx) := by
    intro wx
    have := run_mid h off n cap 4 sz (by omega) (by omega) (by omega) wx
    rw [show sz - 4 = L + T by omega] at this
    exact this
  have HC2 := hidden c2
  generalize openedE key c xs = En at hO HOPEN ⊢
  generalize openedT key c xs = Tn at HOPEN
  have hO3 : ((En : Int) != 0) = true := by simpa using hO
  clear h1 h2 h3 h8 c0 c1 c3 h4x hbs hhd hlen4 hLE hn hE hpart hLL hTT hsz
  clear hcl hkb h7 hO hsze
  go_enter Tryd.func27, Tryd.ntmps27
  go_wp2
  refine scope_forward 3 ?_
  go_wp2_with fail
  refine HLE.out.mono ?_
  rintro e w2 ⟨rfl, hw2⟩
  subst hw2
  go_wp2_with fail
  refine HBH.out.mono ?_
  rintro e w3 ⟨rfl, hw3⟩
  subst hw3
  go_wp2_with fail
  refine region_free [(.val (.pointer (some ⟨g, 0, none⟩))), (.val (.pointer (some ⟨g, 0, none⟩))), (.val (.pointer (some ⟨g, 0, none⟩))), (.val (.slice (some ⟨h, off, none⟩) 4 cap)), (.val (.pointer (some ⟨g, 0, none⟩))), (.val (.pointer (some ⟨g, 0, none⟩))), (.val (.pointer (some ⟨g, 2, none⟩))), (.val (.slice (some ⟨h, off, none⟩) n cap)), (.val (.int .i64 (sz : Int))), (.val (.slice (some ⟨h, off + 4, none⟩) (L + T) (cap - 4))), (.told Tn (En : Int)), (.told Tn (En : Int)), (.bsl Tn), (.val (.int .i64 (En : Int))), (.bsl Tn), (.val (.int .i64 (En : Int)))] (by kernel_rfl) ?_ ?_
  · refine req_cons (.val (.pointer (some ⟨g, 0, none⟩))) (by kernel_rfl) (fun vs w1 he hd => StepG.plain (by kernel_rfl) (gives_move (x := (.tmp 0)) (v := (.pointer (some ⟨g, 0, none⟩))) (by kernel_rfl) (by kernel_rfl) ⟨Ex.refl _, rfl⟩)) ?_
    refine req_cons (.val (.pointer (some ⟨g, 0, none⟩))) (by kernel_rfl) (fun vs w1 he hd => StepG.plain (by kernel_rfl) (gives_nil (x := .tmp 53) (by kernel_rfl) (Eq.trans (b := vs 0) (by kernel_rfl) (hd 0 (.val (.pointer (some ⟨g, 0, none⟩))) (by kernel_rfl) (by kernel_rfl))) ⟨Ex.refl _, rfl⟩)) ?_
    refine req_cons (.val (.pointer (some ⟨g, 0, none⟩))) (by kernel_rfl) (fun vs w1 he hd => StepG.plain (by kernel_rfl) (gives_fieldI0 (x := .tmp 54) (by kernel_rfl) (Eq.trans (b := vs 1) (by kernel_rfl) (hd 1 (.val (.pointer (some ⟨g, 0, none⟩))) (by kernel_rfl) (by kernel_rfl))) ⟨Ex.refl _, rfl⟩)) ?_
    refine req_cons (.val (.slice (some ⟨h, off, none⟩) 4 cap)) (by kernel_rfl) (fun vs w1 he hd => StepG.plain (by kernel_rfl) (gives_move (x := (.tmp 5)) (v := (.slice (some ⟨h, off, none⟩) 4 cap)) (by kernel_rfl) (by kernel_rfl) ⟨Ex.refl _, rfl⟩)) ?_
    refine req_cons (.val (.pointer (some ⟨g, 0, none⟩))) (by kernel_rfl) (fun vs w1 he hd => StepG.plain (by kernel_rfl) (gives_move (x := (.tmp 0)) (v := (.pointer (some ⟨g, 0, none⟩))) (by kernel_rfl) (by kernel_rfl) ⟨Ex.refl _, rfl⟩)) ?_
    refine req_cons (.val (.pointer (some ⟨g, 0, none⟩))) (by kernel_rfl) (fun vs w1 he hd => StepG.plain (by kernel_rfl) (gives_nil (x := .tmp 57) (by kernel_rfl) (Eq.trans (b := vs 4) (by kernel_rfl) (hd 4 (.val (.pointer (some ⟨g, 0, none⟩))) (by kernel_rfl) (by kernel_rfl))) ⟨Ex.refl _, rfl⟩)) ?_
    refine req_cons (.val (.pointer (some ⟨g, 2, none⟩))) (by kernel_rfl) (fun vs w1 he hd => StepG.plain (by kernel_rfl) (gives_fieldI1 (x := .tmp 58) (by kernel_rfl) (Eq.trans (b := vs 5) (by kernel_rfl) (hd 5 (.val (.pointer (some ⟨g, 0, none⟩))) (by kernel_rfl) (by kernel_rfl))) ⟨Ex.refl _, rfl⟩)) ?_
    refine req_cons (.val (.slice (some ⟨h, off, none⟩) n cap)) (by kernel_rfl) (fun vs w1 he hd => StepG.plain (by kernel_rfl) (gives_load (x := .tmp 59) (v := (.slice (some ⟨h, off, none⟩) n cap)) (by kernel_rfl) (Eq.trans (b := vs 6) (by kernel_rfl) (hd 6 (.val (.pointer (some ⟨g, 2, none⟩))) (by kernel_rfl) (by kernel_rfl))) (cell_kept HC2.out he) ⟨Ex.refl _, rfl⟩)) ?_
    refine req_cons (.val (.int .i64 (sz : Int))) (by kernel_rfl) (fun vs w1 he hd => StepG.plain (by kernel_rfl) (gives_move (x := (.tmp 9)) (v := (.int .i64 (sz : Int))) (by kernel_rfl) (by kernel_rfl) ⟨Ex.refl _, rfl⟩)) ?_
    refine req_cons (.val (.slice (some ⟨h, off + 4, none⟩) (L + T) (cap - 4))) (by kernel_rfl) (fun vs w1 he hd => StepG.plain (by kernel_rfl) (gives_slice (x := .tmp 60) (lo := some (.const (.int .i64 4))) (hi := some (.tmp 61)) (mx := none) (v := (.slice (some ⟨h, off + 4, none⟩) (L + T) (cap - 4))) (by kernel_rfl) (by rw [show (actsTo _ _ _ vs _).eval (.tmp 60) = (.slice (some ⟨h, off, none⟩) n cap) from Eq.trans (b := vs 7) (by kernel_rfl) (hd 7 (.val (.slice (some ⟨h, off, none⟩) n cap)) (by kernel_rfl) (by kernel_rfl)), show Option.map (actsTo _ _ _ vs _).eval (some (.tmp 61)) = some (.int .i64 (sz : Int)) from congrArg some (Eq.trans (b := vs 8) (by kernel_rfl) (hd 8 (.val (.int .i64 (sz : Int))) (by kernel_rfl) (by kernel_rfl)))]; exact HSL.out _) ⟨Ex.refl _, rfl⟩)) ?_
    refine req_cons (.told Tn (En : Int)) (by kernel_rfl) (fun vs w1 he hd => StepG.plain (by kernel_rfl) (gives_call (f := 43) (xs := #[(.tmp 55), (.tmp 56), (.tmp 62)]) (ts := #[61, 22, 22]) (vs := #[(vs 2), (vs 3), (vs 9)]) (by kernel_rfl) (by kernel_rfl) (by kernel_rfl) Tryd.func43 (by kernel_rfl) (by kernel_rfl) (by rw [show vs 2 = .pointer (some ⟨g, 0, none⟩) from (hd 2 (.val (.pointer (some ⟨g, 0, none⟩))) (by kernel_rfl) (by kernel_rfl)), show vs 3 = (.slice (some ⟨h, off, none⟩) 4 cap) from (hd 3 (.val (.slice (some ⟨h, off, none⟩) 4 cap)) (by kernel_rfl) (by kernel_rfl)), show vs 9 = (.slice (some ⟨h, off + 4, none⟩) (L + T) (cap - 4)) from (hd 9 (.val (.slice (some ⟨h, off + 4, none⟩) (L + T) (cap - 4))) (by kernel_rfl) (by kernel_rfl))]; exact HOPEN.out _ he))) ?_
    refine req_cons (.told Tn (En : Int)) (by kernel_rfl) (fun vs w1 he hd => StepG.plain (by kernel_rfl) (gives_move (x := (.tmp 63)) (v := (vs 10)) (by kernel_rfl) (by kernel_rfl) ⟨Ex.refl _, (hd 10 (.told Tn (En : Int)) (by kernel_rfl) (by kernel_rfl))⟩)) ?_
    refine req_cons (.bsl Tn) (by kernel_rfl) (fun vs w1 he hd => StepG.plain (by kernel_rfl) (gives_ext0 (n := (En : Int)) (x := .tmp 52) (v := vs 11) (by kernel_rfl) (by kernel_rfl) (hd 11 (.told Tn (En : Int)) (by kernel_rfl) (by kernel_rfl)))) ?_
    refine req_cons (.val (.int .i64 (En : Int))) (by kernel_rfl) (fun vs w1 he hd => StepG.plain (by kernel_rfl) (gives_ext1 (xs := Tn) (x := .tmp 52) (v := vs 11) (by kernel_rfl) (by kernel_rfl) (hd 11 (.told Tn (En : Int)) (by kernel_rfl) (by kernel_rfl)))) ?_
    refine req_cons (.bsl Tn) (by kernel_rfl) (fun vs w1 he hd => StepG.plain (by kernel_rfl) (gives_assign (x := (.tmp 64)) (v := (vs 12)) (by kernel_rfl) (by kernel_rfl) ⟨Ex.refl _, (hd 12 (.bsl Tn) (by kernel_rfl) (by kernel_rfl))⟩)) ?_
    refine req_cons (.val (.int .i64 (En : Int))) (by kernel_rfl) (fun vs w1 he hd => StepG.plain (by kernel_rfl) (gives_assign (x := (.tmp 65)) (v := (.int .i64 (En : Int))) (by kernel_rfl) (Eq.trans (b := vs 13) (by kernel_rfl) (hd 13 (.val (.int .i64 (En : Int))) (by kernel_rfl) (by kernel_rfl))) ⟨Ex.refl _, rfl⟩)) ?_
    exact req_nil
  intro vs w4 hx hF
  have e0 : vs 0 = (.pointer (some ⟨g, 0, none⟩)) := told_at hF 0 (.val (.pointer (some ⟨g, 0, none⟩))) (by decide) (by kernel_rfl)
  have e1 : vs 1 = (.pointer (some ⟨g, 0, none⟩)) := told_at hF 1 (.val (.pointer (some ⟨g, 0, none⟩))) (by decide) (by kernel_rfl)
  have e2 : vs 2 = (.pointer (some ⟨g, 0, none⟩)) := told_at hF 2 (.val (.pointer (some ⟨g, 0, none⟩))) (by decide) (by kernel_rfl)
  have e3 : vs 3 = (.slice (some ⟨h, off, none⟩) 4 cap) := told_at hF 3 (.val (.slice (some ⟨h, off, none⟩) 4 cap)) (by decide) (by kernel_rfl)
  have e4 : vs 4 = (.pointer (some ⟨g, 0, none⟩)) := told_at hF 4 (.val (.pointer (some ⟨g, 0, none⟩))) (by decide) (by kernel_rfl)
  have e5 : vs 5 = (.pointer (some ⟨g, 0, none⟩)) := told_at hF 5 (.val (.pointer (some ⟨g, 0, none⟩))) (by decide) (by kernel_rfl)
  have e6 : vs 6 = (.pointer (some ⟨g, 2, none⟩)) := told_at hF 6 (.val (.pointer (some ⟨g, 2, none⟩))) (by decide) (by kernel_rfl)
  have e7 : vs 7 = (.slice (some ⟨h, off, none⟩) n cap) := told_at hF 7 (.val (.slice (some ⟨h, off, none⟩) n cap)) (by decide) (by kernel_rfl)
  have e8 : vs 8 = (.int .i64 (sz : Int)) := told_at hF 8 (.val (.int .i64 (sz : Int))) (by decide) (by kernel_rfl)
  have e9 : vs 9 = (.slice (some ⟨h, off + 4, none⟩) (L + T) (cap - 4)) := told_at hF 9 (.val (.slice (some ⟨h, off + 4, none⟩) (L + T) (cap - 4))) (by decide) (by kernel_rfl)
  have e13 : vs 13 = (.int .i64 (En : Int)) := told_at hF 13 (.val (.int .i64 (En : Int))) (by decide) (by kernel_rfl)
  have e15 : vs 15 = (.int .i64 (En : Int)) := told_at hF 15 (.val (.int .i64 (En : Int))) (by decide) (by kernel_rfl)
  have HB14 := hidden (told_at hF 14 (.bsl Tn) (by decide) (by kernel_rfl))
  simp only [List.length_cons, List.length_nil, actsTo, if_true, dstOf, List.getElem?_toArray, List.getElem?_cons_succ, List.getElem?_cons_zero, Option.bind_some, Act.put, List.setIfInBounds_toArray, List.set_cons_zero, List.set_cons_succ]
  simp only [e0, e1, e2, e3, e4, e5, e6, e7, e8, e9, e13, e15]
  generalize vs 10 = y10
  generalize vs 11 = y11
  generalize vs 12 = y12
  generalize vs 14 = y14 at HB14 ⊢
  clear hF e0 e1 e2 e3 e4 e5 e6 e7 e8 e9 e13 e15 vs
  have HX := hidden hx
  clear hx
  have hg4 := ((Keeps.ofFresh (S := fun _ => False) HX.out).block g hbl.1 (fun h => h)).trans HG.out
  have HW := hidden (wiped_ok (kb := kb) (Keeps.ofFresh (S := fun k => k = g ∨ k = h) HX.out) hg4 En)
  obtain ⟨d0, d1, d2, d3, d4, hf4⟩ := cells5 hg4
  clear hg4 c2 c4 hf HC2 HG
  go_wp2
  go_step3
  refine .inr ⟨_, rfl, ?_⟩
  go_wp2
  go_step3
  go_wp2
  simp only [hops]
  go_ret3
  exact ⟨rfl, HW.out.1, HW.out.2⟩

theorem opened_len {key : List UInt8} (c : Nat) (xs : List UInt8) (hsh : 4 + lenOf xs + tagN key ≤ xs.length) (hO : openedE key c xs = 0) : (openedT key c xs).length = lenOf xs := by
  have hb : (bodyAt key xs).length = lenOf xs + tagN key := by rw [bodyAt, List.length_take, List.length_drop]; omega
  by_cases h : key = []
  · rw [openedT, if_pos h, hb, tagN, if_pos h]; rfl
  · rw [openedE, if_neg h] at hO
    rw [openedT, if_neg h, openT, if_pos hO, xorL_length, List.length_take, hb, tagN, if_neg h]; omega

set_option maxHeartbeats 1600000 in
set_option maxRecDepth 100000 in
theorem next_b3 (w : World) {g h : Nat} {kb : Option Nat} {key : List UInt8} {c : Nat} {xs : List UInt8} (i : InS w g h kb key c xs 0) (hl : xs.length ≤ 9500) (hcl : Cl w) (h4x : 4 ≤ xs.length) (hE : lenE key (lenOf xs) = 0) (hsh : 4 + lenOf xs + tagN key ≤ xs.length) (hO : openedE key c xs = 0) (hP : payE (openedT key c xs) ≠ 0) :
    Calls Tryd.prog 27 #[.pointer (some ⟨g, 0, none⟩)] w fun e w' => NTold w g h kb key c xs (.bad (payE (openedT key c xs))) e w' := by
  have HI := hidden i
  have HMV := hidden (Moved.refl g h kb w)
  have HLN := hidden i.line
  have hbl := i.blockLt
  obtain ⟨⟨kv, hv0, ps, h1, h2, hkb, h3, h4⟩, h5, h6, h7, h8, h9⟩ := i
  obtain ⟨c0, c1, c2, c3, c4, hf⟩ := cells5 h1
  simp only [NTold]
  have HCL := hidden hcl
  have hTl : 1 ≤ (openedT key c xs).length ∧ (openedT key c xs).length ≤ 1000000 := by
    have := opened_len c xs hsh hO
    have := lenE_six hE
    omega
  have HG := hidden h1
  obtain ⟨off, cap, e0, hcap, hcm⟩ : ∃ off cap, hv0 = .slice (some ⟨h, off, none⟩) xs.length cap ∧ xs.length ≤ cap ∧ cap ≤ maxLen := by
    rcases h3 with ⟨_, e, _⟩ | ⟨hne, off, cap, cur, rfl, r2, r3, r4, r5, r6⟩
    · rw [e] at h4x; simp at h4x
    · exact ⟨off, cap, rfl, r4, r5⟩
  have hbs := h3.bsl
  subst e0
  have HBS := hidden hbs
  unfold maxLen at hcm
  have hhd := hbs.head' (n := 4) h4x
  have HHD := hidden hhd
  have hlen4 : (xs.take 4).length = 4 := by rw [List.length_take]; omega
  have hLE := lengthOf_c _ (xs.take 4) hlen4 w hhd HLN.out
  rw [show val (xs.take 4) = lenOf xs from rfl] at hLE
  obtain ⟨n, hn⟩ : ∃ n, n = xs.length := ⟨_, rfl⟩
  have HN := hidden hn
  have hn4 : ¬ (n : Int) < 4 := by omega
  have hc4 : (4 : Int) ≤ (cap : Int) := by omega
  rw [if_pos hE, hE] at hLE
  have HLE := hidden hLE
  have HBH := hidden (behind_c w HLN.out)
  rw [← hn] at c2 HBS
  have hL35 : lenOf xs ≤ 35000 := by
    rw [lenE] at hE
    split at hE
    · cases hE
    · omega
  have hL6 := lenE_six hE
  have htg : tagN key ≤ 16 := by unfold tagN; split <;> omega
  have hpart := hbs.part (i := 4) (j := lenOf xs + tagN key) (by omega)
  have HOPEN : Hid (∀ wx : World, Ex w wx → Calls Tryd.prog 43 #[.pointer (some ⟨g, 0, none⟩), .slice (some ⟨h, off, none⟩) 4 cap, .slice (some ⟨h, off + 4, none⟩) (lenOf xs + tagN key) (cap - 4)] wx fun e w' => ∃ v, e = .returned v ∧ Ex wx w' ∧ (Fact.told (openedT key c xs) ((openedE key c xs : Nat) : Int)).holds v w') := by
    intro wx he
    refine (open_c wx (HLN.out.fresh he) (HCL.out.fresh he) _ _ (xs.take 4) (bodyAt key xs) (HHD.out.fresh he) (hpart.fresh he) (by omega) (by rw [bodyAt, List.length_take, List.length_drop]; omega)).mono ?_
    rintro e w' ⟨hx, v, rfl, hb⟩
    exact ⟨_, rfl, hx, v, rfl, hb⟩
  rw [← hn] at hsh
  have hsz : 4 + lenOf xs + tagN key - 4 = lenOf xs + tagN key := by omega
  generalize hLL : lenOf xs = L at hL35 hL6 HLE hsh HOPEN hsz
  generalize hTT : tagN key = T at htg HBH hsh HOPEN hsz
  obtain ⟨sz, hsze⟩ : ∃ sz, sz = 4 + L + T := ⟨_, rfl⟩
  have HSZ := hidden hsze
  have hcmp : ¬ (n : Int) < 4 + (L : Int) + (T : Int) := by omega
  have hIszz : 4 + (L : Int) + (T : Int) = (sz : Int) := by omega
  have HSL : Hid (∀ wx : World, (Instr.sliceAt 22 (.slice (some ⟨h, off, none⟩) n cap) (some (.int .i64 4)) (some (.int .i64 (sz : Int))) none).run Tryd.prog wx = .ok (.slice (some ⟨h, off + 4, none⟩) (L + T) (cap - 4)) wx) := by
    intro wx
    have := run_mid h off n cap 4 sz (by omega) (by omega) (by omega) wx
    rw [show sz - 4 = L + T by omega] at this
    exact this
  have HC2 := hidden c2
  have HPAY := hidden (fun (wx : World) (vx : Value) (hb : BSl wx vx (openedT key c xs)) => payloadOf_c vx (openedT key c xs) hTl.1 hTl.2 wx hb)
  generalize hEn : openedE key c xs = En at HOPEN
  have HEN : Hid (En = 0) := hEn.symm.trans hO
  generalize payE (openedT key c xs) = pe at hP HPAY ⊢
  generalize payL (openedT key c xs) = pl at HPAY
  generalize openedT key c xs = Tn at HOPEN HPAY hTl
  have hO3 : ((pe : Int) != 0) = true := by simpa using hP
  clear h1 h2 h3 h8 c0 c1 c3 h4x hbs hhd hlen4 hLE hn hE hpart hLL hTT hsz
  clear hcl hkb h7 hO hsze hTl hEn
  go_enter Tryd.func27, Tryd.ntmps27
  go_wp2
  refine scope_forward 3 ?_
  go_wp2_with fail
  refine HLE.out.mono ?_
  rintro e w2 ⟨rfl, hw2⟩
  subst hw2
  go_wp2_with fail
  refine HBH.out.mono ?_
  rintro e w3 ⟨rfl, hw3⟩
  subst hw3
  go_wp2_with fail
  refine region_free [(.val (.pointer (some ⟨g, 0, none⟩))), (.val (.pointer (some ⟨g, 0, none⟩))), (.val (.pointer (some ⟨g, 0, none⟩))), (.val (.slice (some ⟨h, off, none⟩) 4 cap)), (.val (.pointer (some ⟨g, 0, none⟩))), (.val (.pointer (some ⟨g, 0, none⟩))), (.val (.pointer (some ⟨g, 2, none⟩))), (.val (.slice (some ⟨h, off, none⟩) n cap)), (.val (.int .i64 (sz : Int))), (.val (.slice (some ⟨h, off + 4, none⟩) (L + T) (cap - 4))), (.told Tn (En : Int)), (.told Tn (En : Int)), (.bsl Tn), (.val (.int .i64 (En : Int))), (.bsl Tn), (.val (.int .i64 (En : Int)))] (by kernel_rfl) ?_ ?_
  · refine req_cons (.val (.pointer (some ⟨g, 0, none⟩))) (by kernel_rfl) (fun vs w1 he hd => StepG.plain (by kernel_rfl) (gives_move (x := (.tmp 0)) (v := (.pointer (some ⟨g, 0, none⟩))) (by kernel_rfl) (by kernel_rfl) ⟨Ex.refl _, rfl⟩)) ?_
    refine req_cons (.val (.pointer (some ⟨g, 0, none⟩))) (by kernel_rfl) (fun vs w1 he hd => StepG.plain (by kernel_rfl) (gives_nil (x := .tmp 53) (by kernel_rfl) (Eq.trans (b := vs 0) (by kernel_rfl) (hd 0 (.val (.pointer (some ⟨g, 0, none⟩))) (by kernel_rfl) (by kernel_rfl))) ⟨Ex.refl _, rfl⟩)) ?_
    refine req_cons (.val (.pointer (some ⟨g, 0, none⟩))) (by kernel_rfl) (fun vs w1 he hd => StepG.plain (by kernel_rfl) (gives_fieldI0 (x := .tmp 54) (by kernel_rfl) (Eq.trans (b := vs 1) (by kernel_rfl) (hd 1 (.val (.pointer (some ⟨g, 0, none⟩))) (by kernel_rfl) (by kernel_rfl))) ⟨Ex.refl _, rfl⟩)) ?_
    refine req_cons (.val (.slice (some ⟨h, off, none⟩) 4 cap)) (by kernel_rfl) (fun vs w1 he hd => StepG.plain (by kernel_rfl) (gives_move (x := (.tmp 5)) (v := (.slice (some ⟨h, off, none⟩) 4 cap)) (by kernel_rfl) (by kernel_rfl) ⟨Ex.refl _, rfl⟩)) ?_
    refine req_cons (.val (.pointer (some ⟨g, 0, none⟩))) (by kernel_rfl) (fun vs w1 he hd => StepG.plain (by kernel_rfl) (gives_move (x := (.tmp 0)) (v := (.pointer (some ⟨g, 0, none⟩))) (by kernel_rfl) (by kernel_rfl) ⟨Ex.refl _, rfl⟩)) ?_
    refine req_cons (.val (.pointer (some ⟨g, 0, none⟩))) (by kernel_rfl) (fun vs w1 he hd => StepG.plain (by kernel_rfl) (gives_nil (x := .tmp 57) (by kernel_rfl) (Eq.trans (b := vs 4) (by kernel_rfl) (hd 4 (.val (.pointer (some ⟨g, 0, none⟩))) (by kernel_rfl) (by kernel_rfl))) ⟨Ex.refl _, rfl⟩)) ?_
    refine req_cons (.val (.pointer (some ⟨g, 2, none⟩))) (by kernel_rfl) (fun vs w1 he hd => StepG.plain (by kernel_rfl) (gives_fieldI1 (x := .tmp 58) (by kernel_rfl) (Eq.trans (b := vs 5) (by kernel_rfl) (hd 5 (.val (.pointer (some ⟨g, 0, none⟩))) (by kernel_rfl) (by kernel_rfl))) ⟨Ex.refl _, rfl⟩)) ?_
    refine req_cons (.val (.slice (some ⟨h, off, none⟩) n cap)) (by kernel_rfl) (fun vs w1 he hd => StepG.plain (by kernel_rfl) (gives_load (x := .tmp 59) (v := (.slice (some ⟨h, off, none⟩) n cap)) (by kernel_rfl) (Eq.trans (b := vs 6) (by kernel_rfl) (hd 6 (.val (.pointer (some ⟨g, 2, none⟩))) (by kernel_rfl) (by kernel_rfl))) (cell_kept HC2.out he) ⟨Ex.refl _, rfl⟩)) ?_
    refine req_cons (.val (.int .i64 (sz : Int))) (by kernel_rfl) (fun vs w1 he hd => StepG.plain (by kernel_rfl) (gives_move (x := (.tmp 9)) (v := (.int .i64 (sz : Int))) (by kernel_rfl) (by kernel_rfl) ⟨Ex.refl _, rfl⟩)) ?_
    refine req_cons (.val (.slice (some ⟨h, off + 4, none⟩) (L + T) (cap - 4))) (by kernel_rfl) (fun vs w1 he hd => StepG.plain (by kernel_rfl) (gives_slice (x := .tmp 60) (lo := some (.const (.int .i64 4))) (hi := some (.tmp 61)) (mx := none) (v := (.slice (some ⟨h, off + 4, none⟩) (L + T) (cap - 4))) (by kernel_rfl) (by rw [show (actsTo _ _ _ vs _).eval (.tmp 60) = (.slice (some ⟨h, off, none⟩) n cap) from Eq.trans (b := vs 7) (by kernel_rfl) (hd 7 (.val (.slice (some ⟨h, off, none⟩) n cap)) (by kernel_rfl) (by kernel_rfl)), show Option.map (actsTo _ _ _ vs _).eval (some (.tmp 61)) = some (.int .i64 (sz : Int)) from congrArg some (Eq.trans (b := vs 8) (by kernel_rfl) (hd 8 (.val (.int .i64 (sz : Int))) (by kernel_rfl) (by kernel_rfl)))]; exact HSL.out _) ⟨Ex.refl _, rfl⟩)) ?_
    refine req_cons (.told Tn (En : Int)) (by kernel_rfl) (fun vs w1 he hd => StepG.plain (by kernel_rfl) (gives_call (f := 43) (xs := #[(.tmp 55), (.tmp 56), (.tmp 62)]) (ts := #[61, 22, 22]) (vs := #[(vs 2), (vs 3), (vs 9)]) (by kernel_rfl) (by kernel_rfl) (by kernel_rfl) Tryd.func43 (by kernel_rfl) (by kernel_rfl) (by rw [show vs 2 = .pointer (some ⟨g, 0, none⟩) from (hd 2 (.val (.pointer (some ⟨g, 0, none⟩))) (by kernel_rfl) (by kernel_rfl)), show vs 3 = (.slice (some ⟨h, off, none⟩) 4 cap) from (hd 3 (.val (.slice (some ⟨h, off, none⟩) 4 cap)) (by kernel_rfl) (by kernel_rfl)), show vs 9 = (.slice (some ⟨h, off + 4, none⟩) (L + T) (cap - 4)) from (hd 9 (.val (.slice (some ⟨h, off + 4, none⟩) (L + T) (cap - 4))) (by kernel_rfl) (by kernel_rfl))]; exact HOPEN.out _ he))) ?_
    refine req_cons (.told Tn (En : Int)) (by kernel_rfl) (fun vs w1 he hd => StepG.plain (by kernel_rfl) (gives_move (x := (.tmp 63)) (v := (vs 10)) (by kernel_rfl) (by kernel_rfl) ⟨Ex.refl _, (hd 10 (.told Tn (En : Int)) (by kernel_rfl) (by kernel_rfl))⟩)) ?_
    refine req_cons (.bsl Tn) (by kernel_rfl) (fun vs w1 he hd => StepG.plain (by kernel_rfl) (gives_ext0 (n := (En : Int)) (x := .tmp 52) (v := vs 11) (by kernel_rfl) (by kernel_rfl) (hd 11 (.told Tn (En : Int)) (by kernel_rfl) (by kernel_rfl)))) ?_
    refine req_cons (.val (.int .i64 (En : Int))) (by kernel_rfl) (fun vs w1 he hd => StepG.plain (by kernel_rfl) (gives_ext1 (xs := Tn) (x := .tmp 52) (v := vs 11) (by kernel_rfl) (by kernel_rfl) (hd 11 (.told Tn (En : Int)) (by kernel_rfl) (by kernel_rfl)))) ?_
    refine req_cons (.bsl Tn) (by kernel_rfl) (fun vs w1 he hd => StepG.plain (by kernel_rfl) (gives_assign (x := (.tmp 64)) (v := (vs 12)) (by kernel_rfl) (by kernel_rfl) ⟨Ex.refl _, (hd 12 (.bsl Tn) (by kernel_rfl) (by kernel_rfl))⟩)) ?_
    refine req_cons (.val (.int .i64 (En : Int))) (by kernel_rfl) (fun vs w1 he hd => StepG.plain (by kernel_rfl) (gives_assign (x := (.tmp 65)) (v := (.int .i64 (En : Int))) (by kernel_rfl) (Eq.trans (b := vs 13) (by kernel_rfl) (hd 13 (.val (.int .i64 (En : Int))) (by kernel_rfl) (by kernel_rfl))) ⟨Ex.refl _, rfl⟩)) ?_
    exact req_nil
  intro vs w4 hx hF
  have e0 : vs 0 = (.pointer (some ⟨g, 0, none⟩)) := told_at hF 0 (.val (.pointer (some ⟨g, 0, none⟩))) (by decide) (by kernel_rfl)
  have e1 : vs 1 = (.pointer (some ⟨g, 0, none⟩)) := told_at hF 1 (.val (.pointer (some ⟨g, 0, none⟩))) (by decide) (by kernel_rfl)
  have e2 : vs 2 = (.pointer (some ⟨g, 0, none⟩)) := told_at hF 2 (.val (.pointer (some ⟨g, 0, none⟩))) (by decide) (by kernel_rfl)
  have e3 : vs 3 = (.slice (some ⟨h, off, none⟩) 4 cap) := told_at hF 3 (.val (.slice (some ⟨h, off, none⟩) 4 cap)) (by decide) (by kernel_rfl)
  have e4 : vs 4 = (.pointer (some ⟨g, 0, none⟩)) := told_at hF 4 (.val (.pointer (some ⟨g, 0, none⟩))) (by decide) (by kernel_rfl)
  have e5 : vs 5 = (.pointer (some ⟨g, 0, none⟩)) := told_at hF 5 (.val (.pointer (some ⟨g, 0, none⟩))) (by decide) (by kernel_rfl)
  have e6 : vs 6 = (.pointer (some ⟨g, 2, none⟩)) := told_at hF 6 (.val (.pointer (some ⟨g, 2, none⟩))) (by decide) (by kernel_rfl)
  have e7 : vs 7 = (.slice (some ⟨h, off, none⟩) n cap) := told_at hF 7 (.val (.slice (some ⟨h, off, none⟩) n cap)) (by decide) (by kernel_rfl)
  have e8 : vs 8 = (.int .i64 (sz : Int)) := told_at hF 8 (.val (.int .i64 (sz : Int))) (by decide) (by kernel_rfl)
  have e9 : vs 9 = (.slice (some ⟨h, off + 4, none⟩) (L + T) (cap - 4)) := told_at hF 9 (.val (.slice (some ⟨h, off + 4, none⟩) (L + T) (cap - 4))) (by decide) (by kernel_rfl)
  have e13 : vs 13 = (.int .i64 (En : Int)) := told_at hF 13 (.val (.int .i64 (En : Int))) (by decide) (by kernel_rfl)
  have e15 : vs 15 = (.int .i64 (En : Int)) := told_at hF 15 (.val (.int .i64 (En : Int))) (by decide) (by kernel_rfl)
  have HB14 := hidden (told_at hF 14 (.bsl Tn) (by decide) (by kernel_rfl))
  simp only [List.length_cons, List.length_nil, actsTo, if_true, dstOf, List.getElem?_toArray, List.getElem?_cons_succ, List.getElem?_cons_zero, Option.bind_some, Act.put, List.setIfInBounds_toArray, List.set_cons_zero, List.set_cons_succ]
  simp only [e0, e1, e2, e3, e4, e5, e6, e7, e8, e9, e13, e15]
  generalize vs 10 = y10
  generalize vs 11 = y11
  generalize vs 12 = y12
  generalize vs 14 = y14 at HB14 ⊢
  clear hF e0 e1 e2 e3 e4 e5 e6 e7 e8 e9 e13 e15 vs
  have HX := hidden hx
  clear hx
  obtain rfl : En = 0 := HEN.out
  have hg4 := ((Keeps.ofFresh (S := fun _ => False) HX.out).block g hbl.1 (fun h => h)).trans HG.out
  have HG4 := hidden hg4
  clear hg4 c2 c4 hf HC2 hP
  go_wp2_with fail
  refine (HPAY.out _ _ HB14.out).mono ?_
  rintro e w5 ⟨hx5, v5, rfl, _⟩
  have hx45 : Ex _ w5 := Ex.trans HX.out hx5
  have hg5 := ((Keeps.ofFresh (S := fun _ => False) hx45).block g hbl.1 (fun h => h)).trans HG.out
  have HW := hidden (wiped_ok (kb := kb) (Keeps.ofFresh (S := fun k => k = g ∨ k = h) hx45) hg5 pe)
  obtain ⟨d0, d1, d2, d3, d4, hf4⟩ := cells5 hg5
  clear hg5 HG HX HG4 hx5 hx45 HPAY
  go_wp2
  go_step3
  refine .inr ⟨_, rfl, ?_⟩
  go_wp2
  go_step3
  go_wp2
  simp only [hops]
  go_ret3
  exact ⟨rfl, HW.out.1, HW.out.2⟩

set_option maxHeartbeats 1600000 in
set_option maxRecDepth 100000 in
theorem next_t (w : World) {g h : Nat} {kb : Option Nat} {key : List UInt8} {c : Nat} {xs : List UInt8} (i : InS w g h kb key c xs 0) (hl : xs.length ≤ 9500) (hcl : Cl w) (hc : c + 1 ≤ 1000000) (h4x : 4 ≤ xs.length) (hE : lenE key (lenOf xs) = 0) (hsh : 4 + lenOf xs + tagN key ≤ xs.length) (hO : openedE key c xs = 0) (hP : payE (openedT key c xs) = 0) :
    Calls Tryd.prog 27 #[.pointer (some ⟨g, 0, none⟩)] w fun e w' => NTold w g h kb key c xs (.told (payL (openedT key c xs)) (restAt key xs)) e w' := by
  have HI := hidden i
  have HMV := hidden (Moved.refl g h kb w)
  have HLN := hidden i.line
  have hbl := i.blockLt
  obtain ⟨⟨kv, hv0, ps, h1, h2, hkb, h3, h4⟩, h5, h6, h7, h8, h9⟩ := i
  obtain ⟨c0, c1, c2, c3, c4, hf⟩ := cells5 h1
  simp only [NTold]
  have HCL := hidden hcl
  have hTl : 1 ≤ (openedT key c xs).length ∧ (openedT key c xs).length ≤ 1000000 := by
    have := opened_len c xs hsh hO
    have := lenE_six hE
    omega
  have HH8 := hidden h8
  have HG := hidden h1
  obtain ⟨off, cap, e0, hcap, hcm⟩ : ∃ off cap, hv0 = .slice (some ⟨h, off, none⟩) xs.length cap ∧ xs.length ≤ cap ∧ cap ≤ maxLen := by
    rcases h3 with ⟨_, e, _⟩ | ⟨hne, off, cap, cur, rfl, r2, r3, r4, r5, r6⟩
    · rw [e] at h4x; simp at h4x
    · exact ⟨off, cap, rfl, r4, r5⟩
  have hbs := h3.bsl
  subst e0
  have HBS := hidden hbs
  unfold maxLen at hcm
  have hhd := hbs.head' (n := 4) h4x
  have HHD := hidden hhd
  have hlen4 : (xs.take 4).length = 4 := by rw [List.length_take]; omega
  have hLE := lengthOf_c _ (xs.take 4) hlen4 w hhd HLN.out
  rw [show val (xs.take 4) = lenOf xs from rfl] at hLE
  obtain ⟨n, hn⟩ : ∃ n, n = xs.length := ⟨_, rfl⟩
  have HN := hidden hn
  have hn4 : ¬ (n : Int) < 4 := by omega
  have hc4 : (4 : Int) ≤ (cap : Int) := by omega
  rw [if_pos hE, hE] at hLE
  have HLE := hidden hLE
  have HBH := hidden (behind_c w HLN.out)
  rw [← hn] at c2 HBS
  have hL35 : lenOf xs ≤ 35000 := by
    rw [lenE] at hE
    split at hE
    · cases hE
    · omega
  have hL6 := lenE_six hE
  have htg : tagN key ≤ 16 := by unfold tagN; split <;> omega
  rw [show restAt key xs = xs.drop (4 + lenOf xs + tagN key) from rfl]
  have HSX : Hid (4 + lenOf xs + tagN key ≤ xs.length) := hsh
  obtain ⟨sz0, hsz0⟩ : ∃ s, s = 4 + lenOf xs + tagN key := ⟨_, rfl⟩
  rw [← hsz0] at HSX ⊢
  have hpart := hbs.part (i := 4) (j := lenOf xs + tagN key) (by omega)
  have HOPEN : Hid (∀ wx : World, Ex w wx → Calls Tryd.prog 43 #[.pointer (some ⟨g, 0, none⟩), .slice (some ⟨h, off, none⟩) 4 cap, .slice (some ⟨h, off + 4, none⟩) (lenOf xs + tagN key) (cap - 4)] wx fun e w' => ∃ v, e = .returned v ∧ Ex wx w' ∧ (Fact.told (openedT key c xs) ((openedE key c xs : Nat) : Int)).holds v w') := by
    intro wx he
    refine (open_c wx (HLN.out.fresh he) (HCL.out.fresh he) _ _ (xs.take 4) (bodyAt key xs) (HHD.out.fresh he) (hpart.fresh he) (by omega) (by rw [bodyAt, List.length_take, List.length_drop]; omega)).mono ?_
    rintro e w' ⟨hx, v, rfl, hb⟩
    exact ⟨_, rfl, hx, v, rfl, hb⟩
  rw [← hn] at hsh
  have hsz : 4 + lenOf xs + tagN key - 4 = lenOf xs + tagN key := by omega
  generalize hLL : lenOf xs = L at hL35 hL6 HLE hsh HOPEN hsz
  generalize hTT : tagN key = T at htg HBH hsh HOPEN hsz
  obtain ⟨sz, hsze⟩ : ∃ sz, sz = 4 + L + T := ⟨_, rfl⟩
  have HSZ := hidden hsze
  have hcmp : ¬ (n : Int) < 4 + (L : Int) + (T : Int) := by omega
  have hIszz : 4 + (L : Int) + (T : Int) = (sz : Int) := by omega
  have HSL : Hid (∀ wx : World, (Instr.sliceAt 22 (.slice (some ⟨h, off, none⟩) n cap) (some (.int .i64 4)) (some (.int .i64 (sz : Int))) none).run Tryd.prog wx = .ok (.slice (some ⟨h, off + 4, none⟩) (L + T) (cap - 4)) wx) := by
    intro wx
    have := run_mid h off n cap 4 sz (by omega) (by omega) (by omega) wx
    rw [show sz - 4 = L + T by omega] at this
    exact this
  have HC2 := hidden c2
  have HPAY := hidden (fun (wx : World) (vx : Value) (hb : BSl wx vx (openedT key c xs)) => payloadOf_c vx (openedT key c xs) hTl.1 hTl.2 wx hb)
  obtain rfl : sz = sz0 := by rw [hsz0, hsze, hLL, hTT]
  rw [hP] at HPAY
  generalize hEn : openedE key c xs = En at HOPEN
  have HEN : Hid (En = 0) := hEn.symm.trans hO
  generalize payL (openedT key c xs) = pl at HPAY ⊢
  generalize openedT key c xs = Tn at HOPEN HPAY hTl
  have hszp : 1 ≤ sz := by omega
  clear h1 h2 h3 h8 c0 c1 c3 h4x hbs hhd hlen4 hLE hn hE hpart hLL hTT hsz
  clear hcl hkb h7 hO hsze hTl hEn hP hsz0
  go_enter Tryd.func27, Tryd.ntmps27
  go_wp2
  refine scope_forward 3 ?_
  go_wp2_with fail
  refine HLE.out.mono ?_
  rintro e w2 ⟨rfl, hw2⟩
  subst hw2
  go_wp2_with fail
  refine HBH.out.mono ?_
  rintro e w3 ⟨rfl, hw3⟩
  subst hw3
  go_wp2_with fail
  refine region_free [(.val (.pointer (some ⟨g, 0, none⟩))), (.val (.pointer (some ⟨g, 0, none⟩))), (.val (.pointer (some ⟨g, 0, none⟩))), (.val (.slice (some ⟨h, off, none⟩) 4 cap)), (.val (.pointer (some ⟨g, 0, none⟩))), (.val (.pointer (some ⟨g, 0, none⟩))), (.val (.pointer (some ⟨g, 2, none⟩))), (.val (.slice (some ⟨h, off, none⟩) n cap)), (.val (.int .i64 (sz : Int))), (.val (.slice (some ⟨h, off + 4, none⟩) (L + T) (cap - 4))), (.told Tn (En : Int)), (.told Tn (En : Int)), (.bsl Tn), (.val (.int .i64 (En : Int))), (.bsl Tn), (.val (.int .i64 (En : Int)))] (by kernel_rfl) ?_ ?_
  · refine req_cons (.val (.pointer (some ⟨g, 0, none⟩))) (by kernel_rfl) (fun vs w1 he hd => StepG.plain (by kernel_rfl) (gives_move (x := (.tmp 0)) (v := (.pointer (some ⟨g, 0, none⟩))) (by kernel_rfl) (by kernel_rfl) ⟨Ex.refl _, rfl⟩)) ?_
    refine req_cons (.val (.pointer (some ⟨g, 0, none⟩))) (by kernel_rfl) (fun vs w1 he hd => StepG.plain (by kernel_rfl) (gives_nil (x := .tmp 53) (by kernel_rfl) (Eq.trans (b := vs 0) (by kernel_rfl) (hd 0 (.val (.pointer (some ⟨g, 0, none⟩))) (by kernel_rfl) (by kernel_rfl))) ⟨Ex.refl _, rfl⟩)) ?_
    refine req_cons (.val (.pointer (some ⟨g, 0, none⟩))) (by kernel_rfl) (fun vs w1 he hd => StepG.plain (by kernel_rfl) (gives_fieldI0 (x := .tmp 54) (by kernel_rfl) (Eq.trans (b := vs 1) (by kernel_rfl) (hd 1 (.val (.pointer (some ⟨g, 0, none⟩))) (by kernel_rfl) (by kernel_rfl))) ⟨Ex.refl _, rfl⟩)) ?_
    refine req_cons (.val (.slice (some ⟨h, off, none⟩) 4 cap)) (by kernel_rfl) (fun vs w1 he hd => StepG.plain (by kernel_rfl) (gives_move (x := (.tmp 5)) (v := (.slice (some ⟨h, off, none⟩) 4 cap)) (by kernel_rfl) (by kernel_rfl) ⟨Ex.refl _, rfl⟩)) ?_
    refine req_cons (.val (.pointer (some ⟨g, 0, none⟩))) (by kernel_rfl) (fun vs w1 he hd => StepG.plain (by kernel_rfl) (gives_move (x := (.tmp 0)) (v := (.pointer (some ⟨g, 0, none⟩))) (by kernel_rfl) (by kernel_rfl) ⟨Ex.refl _, rfl⟩)) ?_
    refine req_cons (.val (.pointer (some ⟨g, 0, none⟩))) (by kernel_rfl) (fun vs w1 he hd => StepG.plain (by kernel_rfl) (gives_nil (x := .tmp 57) (by kernel_rfl) (Eq.trans (b := vs 4) (by kernel_rfl) (hd 4 (.val (.pointer (some ⟨g, 0, none⟩))) (by kernel_rfl) (by kernel_rfl))) ⟨Ex.refl _, rfl⟩)) ?_
    refine req_cons (.val (.pointer (some ⟨g, 2, none⟩))) (by kernel_rfl) (fun vs w1 he hd => StepG.plain (by kernel_rfl) (gives_fieldI1 (x := .tmp 58) (by kernel_rfl) (Eq.trans (b := vs 5) (by kernel_rfl) (hd 5 (.val (.pointer (some ⟨g, 0, none⟩))) (by kernel_rfl) (by kernel_rfl))) ⟨Ex.refl _, rfl⟩)) ?_
    refine req_cons (.val (.slice (some ⟨h, off, none⟩) n cap)) (by kernel_rfl) (fun vs w1 he hd => StepG.plain (by kernel_rfl) (gives_load (x := .tmp 59) (v := (.slice (some ⟨h, off, none⟩) n cap)) (by kernel_rfl) (Eq.trans (b := vs 6) (by kernel_rfl) (hd 6 (.val (.pointer (some ⟨g, 2, none⟩))) (by kernel_rfl) (by kernel_rfl))) (cell_kept HC2.out he) ⟨Ex.refl _, rfl⟩)) ?_
    refine req_cons (.val (.int .i64 (sz : Int))) (by kernel_rfl) (fun vs w1 he hd => StepG.plain (by kernel_rfl) (gives_move (x := (.tmp 9)) (v := (.int .i64 (sz : Int))) (by kernel_rfl) (by kernel_rfl) ⟨Ex.refl _, rfl⟩)) ?_
    refine req_cons (.val (.slice (some ⟨h, off + 4, none⟩) (L + T) (cap - 4))) (by kernel_rfl) (fun vs w1 he hd => StepG.plain (by kernel_rfl) (gives_slice (x := .tmp 60) (lo := some (.const (.int .i64 4))) (hi := some (.tmp 61)) (mx := none) (v := (.slice (some ⟨h, off + 4, none⟩) (L + T) (cap - 4))) (by kernel_rfl) (by rw [show (actsTo _ _ _ vs _).eval (.tmp 60) = (.slice (some ⟨h, off, none⟩) n cap) from Eq.trans (b := vs 7) (by kernel_rfl) (hd 7 (.val (.slice (some ⟨h, off, none⟩) n cap)) (by kernel_rfl) (by kernel_rfl)), show Option.map (actsTo _ _ _ vs _).eval (some (.tmp 61)) = some (.int .i64 (sz : Int)) from congrArg some (Eq.trans (b := vs 8) (by kernel_rfl) (hd 8 (.val (.int .i64 (sz : Int))) (by kernel_rfl) (by kernel_rfl)))]; exact HSL.out _) ⟨Ex.refl _, rfl⟩)) ?_
    refine req_cons (.told Tn (En : Int)) (by kernel_rfl) (fun vs w1 he hd => StepG.plain (by kernel_rfl) (gives_call (f := 43) (xs := #[(.tmp 55), (.tmp 56), (.tmp 62)]) (ts := #[61, 22, 22]) (vs := #[(vs 2), (vs 3), (vs 9)]) (by kernel_rfl) (by kernel_rfl) (by kernel_rfl) Tryd.func43 (by kernel_rfl) (by kernel_rfl) (by rw [show vs 2 = .pointer (some ⟨g, 0, none⟩) from (hd 2 (.val (.pointer (some ⟨g, 0, none⟩))) (by kernel_rfl) (by kernel_rfl)), show vs 3 = (.slice (some ⟨h, off, none⟩) 4 cap) from (hd 3 (.val (.slice (some ⟨h, off, none⟩) 4 cap)) (by kernel_rfl) (by kernel_rfl)), show vs 9 = (.slice (some ⟨h, off + 4, none⟩) (L + T) (cap - 4)) from (hd 9 (.val (.slice (some ⟨h, off + 4, none⟩) (L + T) (cap - 4))) (by kernel_rfl) (by kernel_rfl))]; exact HOPEN.out _ he))) ?_
    refine req_cons (.told Tn (En : Int)) (by kernel_rfl) (fun vs w1 he hd => StepG.plain (by kernel_rfl) (gives_move (x := (.tmp 63)) (v := (vs 10)) (by kernel_rfl) (by kernel_rfl) ⟨Ex.refl _, (hd 10 (.told Tn (En : Int)) (by kernel_rfl) (by kernel_rfl))⟩)) ?_
    refine req_cons (.bsl Tn) (by kernel_rfl) (fun vs w1 he hd => StepG.plain (by kernel_rfl) (gives_ext0 (n := (En : Int)) (x := .tmp 52) (v := vs 11) (by kernel_rfl) (by kernel_rfl) (hd 11 (.told Tn (En : Int)) (by kernel_rfl) (by kernel_rfl)))) ?_
    refine req_cons (.val (.int .i64 (En : Int))) (by kernel_rfl) (fun vs w1 he hd => StepG.plain (by kernel_rfl) (gives_ext1 (xs := Tn) (x := .tmp 52) (v := vs 11) (by kernel_rfl) (by kernel_rfl) (hd 11 (.told Tn (En : Int)) (by kernel_rfl) (by kernel_rfl)))) ?_
    refine req_cons (.bsl Tn) (by kernel_rfl) (fun vs w1 he hd => StepG.plain (by kernel_rfl) (gives_assign (x := (.tmp 64)) (v := (vs 12)) (by kernel_rfl) (by kernel_rfl) ⟨Ex.refl _, (hd 12 (.bsl Tn) (by kernel_rfl) (by kernel_rfl))⟩)) ?_
    refine req_cons (.val (.int .i64 (En : Int))) (by kernel_rfl) (fun vs w1 he hd => StepG.plain (by kernel_rfl) (gives_assign (x := (.tmp 65)) (v := (.int .i64 (En : Int))) (by kernel_rfl) (Eq.trans (b := vs 13) (by kernel_rfl) (hd 13 (.val (.int .i64 (En : Int))) (by kernel_rfl) (by kernel_rfl))) ⟨Ex.refl _, rfl⟩)) ?_
    exact req_nil
  intro vs w4 hx hF
  have e0 : vs 0 = (.pointer (some ⟨g, 0, none⟩)) := told_at hF 0 (.val (.pointer (some ⟨g, 0, none⟩))) (by decide) (by kernel_rfl)
  have e1 : vs 1 = (.pointer (some ⟨g, 0, none⟩)) := told_at hF 1 (.val (.pointer (some ⟨g, 0, none⟩))) (by decide) (by kernel_rfl)
  have e2 : vs 2 = (.pointer (some ⟨g, 0, none⟩)) := told_at hF 2 (.val (.pointer (some ⟨g, 0, none⟩))) (by decide) (by kernel_rfl)
  have e3 : vs 3 = (.slice (some ⟨h, off, none⟩) 4 cap) := told_at hF 3 (.val (.slice (some ⟨h, off, none⟩) 4 cap)) (by decide) (by kernel_rfl)
  have e4 : vs 4 = (.pointer (some ⟨g, 0, none⟩)) := told_at hF 4 (.val (.pointer (some ⟨g, 0, none⟩))) (by decide) (by kernel_rfl)
  have e5 : vs 5 = (.pointer (some ⟨g, 0, none⟩)) := told_at hF 5 (.val (.pointer (some ⟨g, 0, none⟩))) (by decide) (by kernel_rfl)
  have e6 : vs 6 = (.pointer (some ⟨g, 2, none⟩)) := told_at hF 6 (.val (.pointer (some ⟨g, 2, none⟩))) (by decide) (by kernel_rfl)
  have e7 : vs 7 = (.slice (some ⟨h, off, none⟩) n cap) := told_at hF 7 (.val (.slice (some ⟨h, off, none⟩) n cap)) (by decide) (by kernel_rfl)
  have e8 : vs 8 = (.int .i64 (sz : Int)) := told_at hF 8 (.val (.int .i64 (sz : Int))) (by decide) (by kernel_rfl)
  have e9 : vs 9 = (.slice (some ⟨h, off + 4, none⟩) (L + T) (cap - 4)) := told_at hF 9 (.val (.slice (some ⟨h, off + 4, none⟩) (L + T) (cap - 4))) (by decide) (by kernel_rfl)
  have e13 : vs 13 = (.int .i64 (En : Int)) := told_at hF 13 (.val (.int .i64 (En : Int))) (by decide) (by kernel_rfl)
  have e15 : vs 15 = (.int .i64 (En : Int)) := told_at hF 15 (.val (.int .i64 (En : Int))) (by decide) (by kernel_rfl)
  have HB14 := hidden (told_at hF 14 (.bsl Tn) (by decide) (by kernel_rfl))
  simp only [List.length_cons, List.length_nil, actsTo, if_true, dstOf, List.getElem?_toArray, List.getElem?_cons_succ, List.getElem?_cons_zero, Option.bind_some, Act.put, List.setIfInBounds_toArray, List.set_cons_zero, List.set_cons_succ]
  simp only [e0, e1, e2, e3, e4, e5, e6, e7, e8, e9, e13, e15]
  generalize vs 10 = y10
  generalize vs 11 = y11
  generalize vs 12 = y12
  generalize vs 14 = y14 at HB14 ⊢
  clear hF e0 e1 e2 e3 e4 e5 e6 e7 e8 e9 e13 e15 vs
  have HX := hidden hx
  clear hx
  obtain rfl : En = 0 := HEN.out
  have HI4 := hidden (HI.out.fresh HX.out)
  clear c2 c4 hf HC2 HG
  go_wp2_with fail
  refine (HPAY.out _ _ HB14.out).mono ?_
  rintro e w5 ⟨hx5, v5, rfl, ho5⟩
  have HO5 := hidden (ho5 trivial)
  have HI5 := hidden (HI4.out.fresh hx5)
  have HX5 : Hid (Ex _ w5) := Ex.trans HX.out hx5
  obtain ⟨a5, q5, e5⟩ := HO5.out.shape
  generalize pl.length = pn at e5
  subst e5
  obtain ⟨⟨kv', hv', ps', g1, g2, g3, g4, g5⟩, g6, g7, g8, g9, g10⟩ := HI5.out
  obtain ⟨d0, d1, d2, d3, d4, hf4⟩ := cells5 g1
  have hcx : (c : Int) ≤ 999999 := by omega
  have HII : Hid (InS (w5.setCell ⟨g, 1, none⟩ (.int .u64 ((c : Int) + 1))) g h kb key (c + 1) xs 0) := by
    have hk := keepSet (fun k => k = g) w5 g 1 (.int .u64 ((c : Int) + 1)) rfl
    refine ⟨⟨kv', hv', ps', ?_, g2.keep hk (fun k e hs => g6 (by rw [← g3, e, hs])), g3, g4.keep hk (fun hne e => hne e), g5⟩, g6, g7, fun k e => by rw [World.size_setCell]; exact g8 k e, g9, hc⟩
    rw [(set5 g1 _).2.1]
    simp
  have HKK : Hid (Keeps (fun k => k = g ∨ k = h) w5 (w5.setCell ⟨g, 1, none⟩ (.int .u64 ((c : Int) + 1)))) := keepSet _ w5 g 1 _ (.inl rfl)
  have HBV : Hid (BSl (w5.setCell ⟨g, 1, none⟩ (.int .u64 ((c : Int) + 1))) (.slice a5 pn q5) pl) := HO5.out.bsl.keep HKK.out (fun k e hs => by have := (own_ge HO5.out k e).1; have h7 := HI4.out.blockLt; rcases hs with rfl | rfl <;> omega)
  clear g1 g2 g3 g4 g5 g6 g7 g8 g9 d0 d2 d3 d4 ho5 hx5 HPAY hc
  have hpv : Hid (∀ k, (Value.slice a5 pn q5).ownBlock = some k → w3.heap.size ≤ k ∧ k < w5.heap.size ∧ k ≠ g ∧ k ≠ h) := fun k e => by
    have h1 := own_ge HO5.out k e
    have h2 := HX.out.size
    have h3 := HI.out.blockLt
    exact ⟨by omega, h1.2, by omega, by omega⟩
  go_upto_region 16 with fail
  generalize hw6 : w5.setCell ⟨g, 1, none⟩ (.int .u64 ((c : Int) + 1)) = w6 at HII HKK HBV ⊢
  have HS6 : Hid (w6.heap.size = w5.heap.size) := by show _ = _; rw [← hw6, World.size_setCell]
  clear hw6 d1 hf4
  go_wp2_with fail
  refine (pass_c sz w6 HII.out hszp HSX.out (by omega)).mono ?_
  rintro e w7 ⟨rfl, h', hi7, hm7⟩
  have HF : Hid (BSl w7 (.slice a5 pn q5) pl ∧ (∀ k, (Value.slice a5 pn q5).ownBlock = some k → w3.heap.size ≤ k) ∧ InS w7 g h' kb key (c + 1) (xs.drop sz) 0 ∧ Moved g h h' kb kb w3 w7) := by
    have hs6 := HS6.out
    refine ⟨HBV.out.keep hm7.keeps (fun k e hs => ?_), fun k e => (hpv.out k e).1, hi7, ?_, ?_, .inl rfl⟩
    · have := hpv.out k e
      rcases hs with rfl | rfl
      · exact this.2.2.1 rfl
      · exact this.2.2.2 rfl
    · exact ((Keeps.ofFresh HX5.out).trans HKK.out).trans hm7.keeps
    · have := HX5.out.size
      rcases hm7.row with e | e | e
      · exact .inl e
      · exact .inr (.inl e)
      · exact .inr (.inr (by omega))
  clear hi7 hm7
  go_wp2
  simp only [hops]
  go_ret3
  exact ⟨_, _, rfl, HF.out⟩
end Go.Proofs.YthkaibkmpenclaaDoor
