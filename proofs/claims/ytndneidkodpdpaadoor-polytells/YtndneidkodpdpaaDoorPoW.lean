/- The walk of the law PolyTells. -/
import Derived.Test.YtndneidkodpdpaaDoorPoV
import Derived.Deep.RegionHeld3
namespace Go.Proofs.YtndneidkodpdpaaDoor
open Go Go.RowKit

def sumE (key : List UInt8) : Nat := if key.length = 32 then 0 else 1
def sumT (key b : List UInt8) : List UInt8 := if key.length = 32 then polyL key b else []
/-- What Sum tells, either one: bytes and a number. -/
def PTold (w : World) (key b : List UInt8) (e : Ending) (w' : World) : Prop :=
  Below w.heap.size w w' ∧ ∃ ao n cap, e = .returned (.tuple #[.slice ao n cap, .int .i64 (sumE key : Int)]) ∧ BSl w' (.slice ao n cap) (sumT key b)
theorem bsl_none0 (w : World) : BSl w (.slice none 0 0) [] := ⟨none, 0, rfl, by simp, by simp [maxLen], fun _ => ⟨rfl, rfl⟩, fun _ _ h => absurd rfl h⟩
theorem SumTold.p {w w' : World} {key b : List UInt8} {e : Ending} (h : SumTold w key b e w') : PTold w key b e w' := by
  obtain ⟨hb, hT⟩ := h
  refine ⟨hb, ?_⟩
  rcases hT with ⟨hk, g, rfl, hg, hblk⟩ | ⟨hk, rfl⟩
  · exact ⟨_, _, _, by rw [sumE, if_pos hk]; rfl, by rw [sumT, if_pos hk]; exact bsl16 hblk (polyL_length _ _)⟩
  · exact ⟨_, _, _, by rw [sumE, if_neg hk]; rfl, by rw [sumT, if_neg hk]; exact bsl_none0 _⟩
theorem RTold.p {w w' : World} {key b : List UInt8} {e : Ending} (h : RTold w key b e w') : PTold w key b e w' := by
  obtain ⟨hb, hT⟩ := h
  refine ⟨hb, ?_⟩
  rcases hT with ⟨hk, v, rfl, hblk, _⟩ | ⟨hk, rfl⟩
  · obtain ⟨ao, cap, rfl⟩ := hblk.len
    exact ⟨_, _, _, by rw [sumE, if_pos hk]; rfl, by rw [sumT, if_pos hk]; exact hblk⟩
  · exact ⟨_, _, _, by rw [sumE, if_neg hk]; rfl, by rw [sumT, if_neg hk]; exact bsl_none0 _⟩

/-- What stands while the last line is reckoned. -/
theorem held_b {w5 w' : World} {A B C D : Prop} (h : A ∧ B ∧ C ∧ D ∧ Below w5.heap.size w5 w') : Below w5.heap.size w5 w' := h.2.2.2.2
theorem below_drewN_alloc (w : World) (k : Nat) (o : Obj) : Below w.heap.size w ((w.drewN k).alloc o) := (below_drewN (Below.refl _ w) k).alloc (Nat.le_refl _) o
theorem at_dst {P : Program} {o : Oper} {a : Act} {w : World} {K : Act → World → Prop} {Q : Exit → Act → World → Prop} (d : Nat) (_ : o.dst = some d) (h : o.wp P a w K Q) : o.wp P a w K Q := h
theorem wp_clone (w w5 : World) {o : Oper} {a : Act} {K : Act → World → Prop} {Q : Exit → Act → World → Prop} (s xo : Operand)
    (ho : o.op = .call { callee := .builtin .append, args := #[s, xo], argTypes := #[22, 22] }) (hsv : a.eval s = .slice (some ⟨w.heap.size, 0, none⟩) 0 0)
    (x : Value) (xs : List UInt8) (hx : a.eval xo = x) (hb : BSl (w.alloc (.cells #[] 5)) x xs) (hl : xs.length ≤ 1000000) (hB : w5.heap.size ≤ w.heap.size) (hbel : Below w5.heap.size w5 (w.alloc (.cells #[] 5)))
    (h : ∀ v' w', BSl w' v' xs → Below w5.heap.size w5 w' → K (a.put o.dst v') w') :
    o.wp Tryd.prog a (w.alloc (.cells #[] 5)) K Q := by
  obtain ⟨i0, hi, hz0, hz1, hz2⟩ := info_parts Tryd.infoU8
  refine wp_append_src (w.alloc (.cells #[] 5)) s xo 22 22 ho w.heap.size 5 i0 _ 1 Tryd.underlying22 hi hz0 hz1 hz2 rfl (.slice (some ⟨w.heap.size, 0, none⟩) 0 0) 0 _ hsv (own_empty w) x xs.length _ hx hb.src (by unfold maxLen; omega) (by omega) (by simp) (w.heap.size + 1) (by simp) ?_
  intro v' w' hown hgrow _ _
  rw [Nat.zero_add, List.nil_append] at hown
  exact h v' w' (BSl.ofRow hown) (hbel.grown hgrow (by simp; omega) (fun k hk => by simp [Value.ownBlock] at hk; omega))
theorem str_eq (a b : List UInt8) : ((⟨a.toArray⟩ : ByteArray).toList == (⟨b.toArray⟩ : ByteArray).toList) = decide (a = b) := by
  rw [ByteArray.toList_mk, ByteArray.toList_mk]
  exact Bool.eq_iff_iff.2 (by simp)

set_option maxHeartbeats 3200000 in
set_option maxRecDepth 100000 in
theorem polyTells_c (v0 v1 : Value) (z0 z1 : List UInt8) (whole : Bool) (w : World) (hcl : Cl w) (h0 : BSl w v0 z0) (h1 : BSl w v1 z1) :
    Calls Tryd.prog 4 #[v0, v1, .bool whole] w fun e w' => e = .returned (.bool true) ∧ Below w.heap.size w w' := by
  have HCL := hidden hcl
  have HS0 := hidden (cut_c 40 (by omega) v0 z0 w h0)
  have HS1 := hidden (cut_c 400 (by omega) v1 z1 w h1)
  obtain ⟨a0, n0, rfl⟩ := h0.len
  obtain ⟨a1, n1, rfl⟩ := h1.len
  clear h0 h1 hcl
  go_enter Tryd.func4, Tryd.ntmps4
  go_wp2_with fail
  refine HS0.out.mono ?_
  rintro e w' ⟨vk, rfl, hk, _, rfl⟩
  generalize z0.take 40 = key at hk
  obtain ⟨ka, kc, rfl⟩ := hk.len
  have HK := hidden hk
  clear hk HS0
  go_wp2_with fail
  refine HS1.out.mono ?_
  rintro e w' ⟨vb, rfl, hx, _, rfl⟩
  have hxl : (z1.take 400).length ≤ 400 := by simp; omega
  generalize z1.take 400 = xs at hx hxl
  obtain ⟨ba, bc, rfl⟩ := hx.len
  have HX := hidden hx
  clear hx HS1
  cases whole
  · have HB2 : Hid (Below w'.heap.size w' w') := Below.refl _ _
    obtain ⟨kn, hkn⟩ : ∃ kn, kn = key.length := ⟨_, rfl⟩
    rw [← hkn] at HK ⊢
    clear hkn
    go_wp2_with fail
    refine (roomy_c _ xs w' HX.out (by omega)).mono ?_
    rintro e w3 ⟨g, rfl, hgl, hg3, hb3⟩
    have HG3 := hidden hg3
    have HF3 := hidden (BSl.roomy hg3 (by omega))
    have HB3 := hidden (HB2.out.trans (hb3.mono HB2.out.size))
    have HK3 := hidden (HK.out.fresh hb3)
    have HX3 := hidden (HX.out.fresh hb3)
    clear hg3 hb3 hgl HK HX HB2
    obtain ⟨n, hn⟩ : ∃ n, n = xs.length := ⟨_, rfl⟩
    have HN := hidden hn
    rw [← hn] at HX3 HF3 hxl ⊢
    clear hn
    have hn80 : (n : Int) ≤ (n : Int) + 80 := by omega
    go_wp2_with fail
    refine (Sum_c _ _ key xs (by have := HN.out; omega) w3 (HCL.out.fresh HB3.out) HK3.out HF3.out).mono ?_
    rintro e w4 hT
    obtain ⟨hb4, xa, xn, xc, rfl, hx4⟩ := hT.p
    have HY4 := hidden hx4
    have HB4 := hidden (HB3.out.trans (hb4.mono HB3.out.size))
    have HK4 := hidden (HK3.out.fresh hb4)
    have HX4 := hidden (HX3.out.fresh hb4)
    have HG4 := hidden ((Keeps.ofFresh (S := fun _ => False) hb4).block g (lt_of_block HG3.out) (fun h => h) |>.trans HG3.out)
    clear hT hb4 hx4 HB3 HK3 HX3 HG3 HF3 hn80
    go_wp2_with fail
    refine (rSum_c _ _ key xs (by have := HN.out; omega) w4 HK4.out HX4.out).mono ?_
    rintro e w5 hT
    obtain ⟨hb5, ya, yn, yc, rfl, hy5⟩ := hT.p
    have hz5 : ∀ w', Below w5.heap.size w5 w' → _ := fun w' hb => run_string (hy5.fresh hb)
    have hyy5 : ∀ w', Below w5.heap.size w5 w' → _ := fun w' hb => run_string ((HY4.out.fresh hb5).fresh hb)
    have HB5 := hidden (HB4.out.trans (hb5.mono HB4.out.size))
    have HK5 := hidden (HK4.out.fresh hb5)
    have HX5 := hidden (HX4.out.fresh hb5)
    have HG5 := hidden ((Keeps.ofFresh (S := fun _ => False) hb5).block g (lt_of_block HG4.out) (fun h => h) |>.trans HG4.out)
    clear hT hb5 hy5 HB4 HK4 HX4 HG4 HY4
    obtain ⟨S, hS⟩ : ∃ S : ByteArray, S = ⟨(sumT key xs).toArray⟩ := ⟨_, rfl⟩
    rw [← hS] at hz5 hyy5
    have HZ5 := hidden hz5
    have HY5 := hidden hyy5
    clear hS hz5 hyy5
    generalize sumE key = E
    obtain ⟨sk, hsk⟩ : ∃ s : ByteArray, s = ⟨key.toArray⟩ := ⟨_, rfl⟩
    obtain ⟨sb, hsb⟩ : ∃ s : ByteArray, s = ⟨xs.toArray⟩ := ⟨_, rfl⟩
    obtain ⟨eq, heq⟩ : ∃ b : Bool, b = decide (key = xs) := ⟨_, rfl⟩
    have HEQ := hidden heq
    have hkb : (sk.toList == sb.toList) = eq := by
      rw [heq, hsk, hsb]
      exact str_eq key xs
    have HH : Hid (∀ w', Below w5.heap.size w5 w' → ((convert 22 9 (Value.slice ka kn kc)).run Tryd.prog w' = .ok (.string sk) w' ∧ (convert 22 9 (Value.slice ba n bc)).run Tryd.prog w' = .ok (.string sb) w' ∧ (convert 22 9 (Value.slice xa xn xc)).run Tryd.prog w' = .ok (.string S) w' ∧ (convert 22 9 (Value.slice ya yn yc)).run Tryd.prog w' = .ok (.string S) w' ∧ Below w5.heap.size w5 w')) := by
      intro w' hb
      refine ⟨?_, ?_, HY5.out w' hb, HZ5.out w' hb, hb⟩
      · rw [hsk]; exact run_string (HK5.out.fresh hb)
      · rw [hsb]; exact run_string (HX5.out.fresh hb)
    have HSA : Hid (∀ w', Below w5.heap.size w5 w' → Calls Tryd.prog 12 #[Value.slice ka kn kc, .slice ba n bc] w' fun e w'' => e = .returned (.bool eq) ∧ ∃ q, w'' = w'.drewN q) := by
      intro w' hb
      rw [heq]
      exact Same_c _ _ key xs w' (HK5.out.fresh hb) (HX5.out.fresh hb)
    have HSB : Hid (∀ w' v9, Below w5.heap.size w5 w' → BSl w' v9 xs → Calls Tryd.prog 12 #[.slice ba n bc, v9] w' fun e w'' => e = .returned (.bool true) ∧ ∃ q, w'' = w'.drewN q) := by
      intro w' v9 hb h9
      have := Same_c _ _ xs xs w' (HX5.out.fresh hb) h9
      rwa [decide_eq_true rfl] at this
    have HIC : Hid (∀ w', Below w5.heap.size w5 w' → Calls Tryd.prog 16 #[.slice (some ⟨g, 0, none⟩) (n + 80) (n + 80), .slice ba n bc, .int .u8 165] w' fun e w'' => e = .returned (.bool true) ∧ Below w5.heap.size w5 w'') := by
      intro w' hb
      have h1 := (Keeps.ofFresh (S := fun _ => False) hb).block g (lt_of_block HG5.out) (fun h => h) |>.trans HG5.out
      have h2 := intact_c g (.slice ba n bc) xs w' (by have := HN.out; omega) h1 (HX5.out.fresh hb)
      rw [← HN.out] at h2
      exact h2.mono fun e w'' ⟨h3, h4⟩ => ⟨h3, hb.trans (h4.below hb.size (fun k hk => hk.elim))⟩
    have HKN : Hid (∀ w', Below w5.heap.size w5 w' → Calls Tryd.prog 13 #[] w' fun e w'' => e = .returned (.bool true) ∧ Below w5.heap.size w5 w'') := by
      intro w' hb
      exact (known_c w' ((HCL.out.fresh HB5.out).fresh hb)).mono fun e w'' ⟨h3, h4⟩ => ⟨h3, hb.trans (h4.mono hb.size)⟩
    have HXB : Hid (∀ w', Below w5.heap.size w5 w' → BSl w' (.slice ba n bc) xs) := fun w' hb => HX5.out.fresh hb
    clear hsk hsb heq HK5 HX5 HG5 HY5 HZ5 HCL HEQ
    cases eq
    all_goals go_wp2_with fail
    all_goals go_region_held3 (fun w' => (convert 22 9 (Value.slice ka kn kc)).run Tryd.prog w' = .ok (.string sk) w' ∧ (convert 22 9 (Value.slice ba n bc)).run Tryd.prog w' = .ok (.string sb) w' ∧ (convert 22 9 (Value.slice xa xn xc)).run Tryd.prog w' = .ok (.string S) w' ∧ (convert 22 9 (Value.slice ya yn yc)).run Tryd.prog w' = .ok (.string S) w' ∧ Below w5.heap.size w5 w')
      (first | exact HH.out _ (Below.refl _ _).drew | exact HH.out _ (below_drewN (Below.refl _ _) _) | exact HH.out _ hb12 | exact HH.out _ hb11 | exact HH.out _ hb10 | exact HH.out _ hb9 | exact HH.out _ (below_drewN_alloc _ _ _) | exact HH.out _ (below_drewN (held_b (by assumption)) _))
      (first | (go_at_call 12; refine (HSB.out _ _ hb9 ho9).mono ?_; rintro e w10 ⟨rfl, q10, rfl⟩; have hb10 := below_drewN hb9 q10) | (go_at_call 12; refine (HSA.out _ (held_b (by assumption))).mono ?_; rintro e w8 ⟨rfl, q8, rfl⟩) | (go_at_call 16; refine (HIC.out _ hb10).mono ?_; rintro e w11 ⟨rfl, hb11⟩) | (go_at_call 13; refine (HKN.out _ hb11).mono ?_; rintro e w12 ⟨rfl, hb12⟩) | (rw [if_pos (by rfl)]; refine at_dst 61 rfl ?_; refine wp_clone _ w5 (.tmp 59) (.tmp 60) rfl rfl _ xs rfl (HXB.out _ (held_b (by assumption))) (by have := HN.out; omega) (Nat.le_refl _) (held_b (by assumption)) ?_; intro v9 w9 ho9 hb9))
    all_goals go_wp2
    all_goals go_ret
    all_goals exact ⟨rfl, HB5.out.trans (hb12.mono HB5.out.size)⟩
  · go_wp2_with fail
    refine (sized_b 32 (by omega) _ key w' HK.out).mono ?_
    rintro e w2 ⟨rfl, hk2, hb2⟩
    generalize sizedL key 32 = key at hk2
    have HB2 := hidden hb2
    have HX := hidden (HX.out.fresh hb2)
    obtain ⟨gk, hgk⟩ : ∃ gk, gk = w'.heap.size := ⟨_, rfl⟩
    rw [← hgk] at hk2 ⊢
    have HK := hidden hk2
    clear hb2 hk2 hgk
    go_wp2_with fail
    refine (roomy_c _ xs w2 HX.out (by omega)).mono ?_
    rintro e w3 ⟨g, rfl, hgl, hg3, hb3⟩
    have HG3 := hidden hg3
    have HF3 := hidden (BSl.roomy hg3 (by omega))
    have HB3 := hidden (HB2.out.trans (hb3.mono HB2.out.size))
    have HK3 := hidden (HK.out.fresh hb3)
    have HX3 := hidden (HX.out.fresh hb3)
    clear hg3 hb3 hgl HK HX HB2
    obtain ⟨n, hn⟩ : ∃ n, n = xs.length := ⟨_, rfl⟩
    have HN := hidden hn
    rw [← hn] at HX3 HF3 hxl ⊢
    clear hn
    have hn80 : (n : Int) ≤ (n : Int) + 80 := by omega
    go_wp2_with fail
    refine (Sum_c _ _ key xs (by have := HN.out; omega) w3 (HCL.out.fresh HB3.out) HK3.out HF3.out).mono ?_
    rintro e w4 hT
    obtain ⟨hb4, xa, xn, xc, rfl, hx4⟩ := hT.p
    have HY4 := hidden hx4
    have HB4 := hidden (HB3.out.trans (hb4.mono HB3.out.size))
    have HK4 := hidden (HK3.out.fresh hb4)
    have HX4 := hidden (HX3.out.fresh hb4)
    have HG4 := hidden ((Keeps.ofFresh (S := fun _ => False) hb4).block g (lt_of_block HG3.out) (fun h => h) |>.trans HG3.out)
    clear hT hb4 hx4 HB3 HK3 HX3 HG3 HF3 hn80
    go_wp2_with fail
    refine (rSum_c _ _ key xs (by have := HN.out; omega) w4 HK4.out HX4.out).mono ?_
    rintro e w5 hT
    obtain ⟨hb5, ya, yn, yc, rfl, hy5⟩ := hT.p
    have hz5 : ∀ w', Below w5.heap.size w5 w' → _ := fun w' hb => run_string (hy5.fresh hb)
    have hyy5 : ∀ w', Below w5.heap.size w5 w' → _ := fun w' hb => run_string ((HY4.out.fresh hb5).fresh hb)
    have HB5 := hidden (HB4.out.trans (hb5.mono HB4.out.size))
    have HK5 := hidden (HK4.out.fresh hb5)
    have HX5 := hidden (HX4.out.fresh hb5)
    have HG5 := hidden ((Keeps.ofFresh (S := fun _ => False) hb5).block g (lt_of_block HG4.out) (fun h => h) |>.trans HG4.out)
    clear hT hb5 hy5 HB4 HK4 HX4 HG4 HY4
    obtain ⟨S, hS⟩ : ∃ S : ByteArray, S = ⟨(sumT key xs).toArray⟩ := ⟨_, rfl⟩
    rw [← hS] at hz5 hyy5
    have HZ5 := hidden hz5
    have HY5 := hidden hyy5
    clear hS hz5 hyy5
    generalize sumE key = E
    obtain ⟨sk, hsk⟩ : ∃ s : ByteArray, s = ⟨key.toArray⟩ := ⟨_, rfl⟩
    obtain ⟨sb, hsb⟩ : ∃ s : ByteArray, s = ⟨xs.toArray⟩ := ⟨_, rfl⟩
    obtain ⟨eq, heq⟩ : ∃ b : Bool, b = decide (key = xs) := ⟨_, rfl⟩
    have HEQ := hidden heq
    have hkb : (sk.toList == sb.toList) = eq := by
      rw [heq, hsk, hsb]
      exact str_eq key xs
    have HH : Hid (∀ w', Below w5.heap.size w5 w' → ((convert 22 9 (Value.slice (some ⟨gk, 0, none⟩) 32 32)).run Tryd.prog w' = .ok (.string sk) w' ∧ (convert 22 9 (Value.slice ba n bc)).run Tryd.prog w' = .ok (.string sb) w' ∧ (convert 22 9 (Value.slice xa xn xc)).run Tryd.prog w' = .ok (.string S) w' ∧ (convert 22 9 (Value.slice ya yn yc)).run Tryd.prog w' = .ok (.string S) w' ∧ Below w5.heap.size w5 w')) := by
      intro w' hb
      refine ⟨?_, ?_, HY5.out w' hb, HZ5.out w' hb, hb⟩
      · rw [hsk]; exact run_string (HK5.out.fresh hb)
      · rw [hsb]; exact run_string (HX5.out.fresh hb)
    have HSA : Hid (∀ w', Below w5.heap.size w5 w' → Calls Tryd.prog 12 #[Value.slice (some ⟨gk, 0, none⟩) 32 32, .slice ba n bc] w' fun e w'' => e = .returned (.bool eq) ∧ ∃ q, w'' = w'.drewN q) := by
      intro w' hb
      rw [heq]
      exact Same_c _ _ key xs w' (HK5.out.fresh hb) (HX5.out.fresh hb)
    have HSB : Hid (∀ w' v9, Below w5.heap.size w5 w' → BSl w' v9 xs → Calls Tryd.prog 12 #[.slice ba n bc, v9] w' fun e w'' => e = .returned (.bool true) ∧ ∃ q, w'' = w'.drewN q) := by
      intro w' v9 hb h9
      have := Same_c _ _ xs xs w' (HX5.out.fresh hb) h9
      rwa [decide_eq_true rfl] at this
    have HIC : Hid (∀ w', Below w5.heap.size w5 w' → Calls Tryd.prog 16 #[.slice (some ⟨g, 0, none⟩) (n + 80) (n + 80), .slice ba n bc, .int .u8 165] w' fun e w'' => e = .returned (.bool true) ∧ Below w5.heap.size w5 w'') := by
      intro w' hb
      have h1 := (Keeps.ofFresh (S := fun _ => False) hb).block g (lt_of_block HG5.out) (fun h => h) |>.trans HG5.out
      have h2 := intact_c g (.slice ba n bc) xs w' (by have := HN.out; omega) h1 (HX5.out.fresh hb)
      rw [← HN.out] at h2
      exact h2.mono fun e w'' ⟨h3, h4⟩ => ⟨h3, hb.trans (h4.below hb.size (fun k hk => hk.elim))⟩
    have HKN : Hid (∀ w', Below w5.heap.size w5 w' → Calls Tryd.prog 13 #[] w' fun e w'' => e = .returned (.bool true) ∧ Below w5.heap.size w5 w'') := by
      intro w' hb
      exact (known_c w' ((HCL.out.fresh HB5.out).fresh hb)).mono fun e w'' ⟨h3, h4⟩ => ⟨h3, hb.trans (h4.mono hb.size)⟩
    have HXB : Hid (∀ w', Below w5.heap.size w5 w' → BSl w' (.slice ba n bc) xs) := fun w' hb => HX5.out.fresh hb
    clear hsk hsb heq HK5 HX5 HG5 HY5 HZ5 HCL HEQ
    cases eq
    all_goals go_wp2_with fail
    all_goals go_region_held3 (fun w' => (convert 22 9 (Value.slice (some ⟨gk, 0, none⟩) 32 32)).run Tryd.prog w' = .ok (.string sk) w' ∧ (convert 22 9 (Value.slice ba n bc)).run Tryd.prog w' = .ok (.string sb) w' ∧ (convert 22 9 (Value.slice xa xn xc)).run Tryd.prog w' = .ok (.string S) w' ∧ (convert 22 9 (Value.slice ya yn yc)).run Tryd.prog w' = .ok (.string S) w' ∧ Below w5.heap.size w5 w')
      (first | exact HH.out _ (Below.refl _ _).drew | exact HH.out _ (below_drewN (Below.refl _ _) _) | exact HH.out _ hb12 | exact HH.out _ hb11 | exact HH.out _ hb10 | exact HH.out _ hb9 | exact HH.out _ (below_drewN_alloc _ _ _) | exact HH.out _ (below_drewN (held_b (by assumption)) _))
      (first | (go_at_call 12; refine (HSB.out _ _ hb9 ho9).mono ?_; rintro e w10 ⟨rfl, q10, rfl⟩; have hb10 := below_drewN hb9 q10) | (go_at_call 12; refine (HSA.out _ (held_b (by assumption))).mono ?_; rintro e w8 ⟨rfl, q8, rfl⟩) | (go_at_call 16; refine (HIC.out _ hb10).mono ?_; rintro e w11 ⟨rfl, hb11⟩) | (go_at_call 13; refine (HKN.out _ hb11).mono ?_; rintro e w12 ⟨rfl, hb12⟩) | (rw [if_pos (by rfl)]; refine at_dst 61 rfl ?_; refine wp_clone _ w5 (.tmp 59) (.tmp 60) rfl rfl _ xs rfl (HXB.out _ (held_b (by assumption))) (by have := HN.out; omega) (Nat.le_refl _) (held_b (by assumption)) ?_; intro v9 w9 ho9 hb9))
    all_goals go_wp2
    all_goals go_ret
    all_goals exact ⟨rfl, HB5.out.trans (hb12.mono HB5.out.size)⟩
end Go.Proofs.YtndneidkodpdpaaDoor
