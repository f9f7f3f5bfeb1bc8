/- The document's Gate: its state, bye and try. -/
import Derived.Test.YtpildjijaigmfaaAuJ
import Derived.Test.YtpildjijaigmfaaQrC
namespace Go.Proofs.Ytpildjijaigmfaa
open Go Go.RowKit

/-- The document's Gate at block c lets the users U in, and stands at s. -/
def QG (w : World) (c H : Nat) (U : List Usr) (s : GS) : Prop :=
  ∃ v, w.heap[c]? = some (.cells #[v, .bool (decide (s.st ≠ 0)), .bool (decide (s.st = 2)), .string s.nm, .int .i64 s.tr, .bool s.gone] 50 (0, 0)) ∧ USl w v U ∧ (∀ k, v.ownBlock = some k → k < H ∧ k < c) ∧ s.st ≤ 2 ∧ s.tr ≤ 5
theorem QG.lt {w : World} {a : Nat} {H : Nat} {U : List Usr} {s : GS} (h : QG w a H U s) : a < w.heap.size := by
  obtain ⟨v, h1, _⟩ := h
  exact lt_of_block h1
theorem QG.keep {S : Nat → Prop} {w w' : World} {a : Nat} {H : Nat} {U : List Usr} {s : GS} (h : QG w a H U s) (hk : Keeps S w w') (hS : ∀ k, k ≤ a → ¬ S k) : QG w' a H U s := by
  have hlt := h.lt
  obtain ⟨v, h1, h2, h3, h4, h5⟩ := h
  exact ⟨v, (hk.block a hlt (hS a (Nat.le_refl _))).trans h1, h2.keep hk (fun k e => hS k (Nat.le_of_lt (h3 k e).2)), h3, h4, h5⟩
theorem QG.keepA {S : Nat → Prop} {w w' : World} {a : Nat} {H : Nat} {U : List Usr} {s : GS} (h : QG w a H U s) (hk : Keeps S w w') (ha : ¬ S a) (hS : ∀ k, k < H → ¬ S k) : QG w' a H U s := by
  have hlt := h.lt
  obtain ⟨v, h1, h2, h3, h4, h5⟩ := h
  exact ⟨v, (hk.block a hlt ha).trans h1, h2.keep hk (fun k e => hS k (h3 k e).1), h3, h4, h5⟩
theorem QG.still {w w' : World} {a : Nat} {H : Nat} {U : List Usr} {s : GS} (h : QG w a H U s) (hk : Keeps (fun _ => False) w w') : QG w' a H U s := h.keep hk (fun _ _ h => h)
theorem QG.fresh {w w' : World} {a : Nat} {H : Nat} {U : List Usr} {s : GS} (h : QG w a H U s) (hb : Below w.heap.size w w') : QG w' a H U s := h.still (Keeps.ofFresh hb)
def QGPost (S : Nat → Prop) (w : World) (a H : Nat) (U : List Usr) (r : GS × List (List UInt8)) (e : Ending) (w' : World) : Prop :=
  ∃ v, e = .returned v ∧ Ans w.heap.size w' v r.2 ∧ QG w' a H U r.1 ∧ Keeps S w w'
theorem QGPost.mono {S S' : Nat → Prop} {w w' : World} {a : Nat} {H : Nat} {U : List Usr} {r : GS × List (List UInt8)} {e : Ending} (h : QGPost S w a H U r e w') (hs : ∀ k, k < w.heap.size → S k → S' k) : QGPost S' w a H U r e w' := by
  obtain ⟨v, h1, h2, h3, h4⟩ := h
  exact ⟨v, h1, h2, h3, h4.mono hs⟩
theorem QGPost.after {S : Nat → Prop} {w w1 w' : World} {a : Nat} {H : Nat} {U : List Usr} {r : GS × List (List UInt8)} {e : Ending} (hk : Keeps S w w1) (h : QGPost S w1 a H U r e w') : QGPost S w a H U r e w' := by
  obtain ⟨v, h1, h2, h3, h4⟩ := h
  exact ⟨v, h1, h2.mono hk.size, h3, hk.trans h4⟩
theorem cells6q {w : World} {a : Nat} {t : TypeId} {v0 v1 v2 v3 v4 v5 : Value} (h : w.heap[a]? = some (.cells #[v0, v1, v2, v3, v4, v5] t (0, 0))) :
    w.cell? ⟨a, 0, none⟩ = some v0 ∧ w.cell? ⟨a, 1, none⟩ = some v1 ∧ w.cell? ⟨a, 2, none⟩ = some v2 ∧ w.cell? ⟨a, 3, none⟩ = some v3 ∧ w.cell? ⟨a, 4, none⟩ = some v4 ∧ w.cell? ⟨a, 5, none⟩ = some v5 ∧ ∀ j, w.frozen? ⟨a, j, none⟩ = false := by
  refine ⟨?_, ?_, ?_, ?_, ?_, ?_, fun j => by simp [World.frozen?, h]⟩ <;> simp [World.cell?, h]
theorem set6i {w : World} {a : Nat} {t : TypeId} {v0 v1 v2 v3 v4 v5 : Value} (h : w.heap[a]? = some (.cells #[v0, v1, v2, v3, v4, v5] t (0, 0))) (u : Value) :
    (w.setCell ⟨a, 1, none⟩ u).heap[a]? = some (.cells #[v0, u, v2, v3, v4, v5] t (0, 0)) ∧ (w.setCell ⟨a, 2, none⟩ u).heap[a]? = some (.cells #[v0, v1, u, v3, v4, v5] t (0, 0)) ∧ (w.setCell ⟨a, 3, none⟩ u).heap[a]? = some (.cells #[v0, v1, v2, u, v4, v5] t (0, 0)) ∧ (w.setCell ⟨a, 4, none⟩ u).heap[a]? = some (.cells #[v0, v1, v2, v3, u, v5] t (0, 0)) ∧ (w.setCell ⟨a, 5, none⟩ u).heap[a]? = some (.cells #[v0, v1, v2, v3, v4, u] t (0, 0)) := by
  refine ⟨?_, ?_, ?_, ?_, ?_⟩ <;> (simp only [World.setCell, Array.getElem?_modify, if_true, h]; simp)
theorem QG.set {w : World} {a : Nat} {H : Nat} {U : List Usr} {v : Value} {s' : GS} {i : Nat} {u : Value} (h2 : USl w v U) (h3 : ∀ k, v.ownBlock = some k → k < H ∧ k < a) (h4 : s'.st ≤ 2) (h5 : s'.tr ≤ 5)
    (hs : (w.setCell ⟨a, i, none⟩ u).heap[a]? = some (.cells #[v, .bool (decide (s'.st ≠ 0)), .bool (decide (s'.st = 2)), .string s'.nm, .int .i64 s'.tr, .bool s'.gone] 50 (0, 0))) : QG (w.setCell ⟨a, i, none⟩ u) a H U s' :=
  ⟨v, hs, h2.keep (keepsSet w a i u) (fun k e h => by have := h3 k e; omega), h3, h4, h5⟩

set_option maxHeartbeats 800000 in
set_option maxRecDepth 100000 in
theorem rBye_c (r : Nat) (hr : r ≤ 4294967295) (w : World) : Calls Try.prog 11 #[.int .u32 r] w fun e w' => Gave w (byeL r) e w' := by
  have HE := hidden (show ([1] ++ be 4 r ++ textBytes [] ++ textBytes [] : List UInt8) = byeL r by simp [byeL])
  generalize byeL r = R at HE ⊢
  have HL0 := hidden (bsl_lit w [1] (by simp))
  have HB0 := hidden ((Below.refl w.heap.size w).alloc (Nat.le_refl _) (.cells (bcells [1]).toArray 5))
  go_enter Try.func11, Try.ntmps11
  go_wp2_with fail
  refine (ru32_c r (by omega) (by omega) _ [1] _ HL0.out (by simp)).mono ?_
  rintro e w1 ⟨v1, rfl, ho1, hb1⟩
  rw [Int.toNat_natCast] at ho1
  have HV1 := hidden (BSl.ofRow ho1)
  have HB1 := hidden (HB0.out.trans (hb1.mono HB0.out.size))
  obtain ⟨a1, c1, rfl⟩ := HV1.out.len
  have HZ1 := hidden (show ([1] ++ be 4 r : List UInt8).length = 5 by simp [be_length])
  clear ho1 hb1 HL0 HB0
  generalize ([1] ++ be 4 r : List UInt8) = L1 at *
  generalize hn1 : L1.length = n1 at HV1 ⊢
  clear hn1
  go_wp2_with fail
  refine (rtext_c ⟨#[]⟩ (by decide) _ L1 _ HV1.out (by have := HZ1.out; have h0 : (⟨#[]⟩ : ByteArray).size = 0 := rfl; omega)).mono ?_
  rintro e w2 ⟨v2, rfl, ho2, hb2⟩
  have HV2 := hidden (BSl.ofRow ho2)
  have HB2 := hidden (HB1.out.trans (hb2.mono HB1.out.size))
  obtain ⟨a2, c2, rfl⟩ := HV2.out.len
  have HZ2 := hidden (show (L1 ++ textBytes (⟨#[]⟩ : ByteArray).data.toList).length = 9 by rw [List.length_append, HZ1.out]; rfl)
  clear ho2 hb2 HV1 HB1
  generalize hX2 : L1 ++ textBytes (⟨#[]⟩ : ByteArray).data.toList = L2 at *
  have HX2 := hidden hX2
  clear hX2
  generalize hn2 : L2.length = n2 at HV2 ⊢
  clear hn2
  go_wp2_with fail
  refine (rtext_c ⟨#[]⟩ (by decide) _ L2 _ HV2.out (by have := HZ2.out; have h0 : (⟨#[]⟩ : ByteArray).size = 0 := rfl; omega)).mono ?_
  rintro e w3 ⟨v3, rfl, ho3, hb3⟩
  have G := hidden (gave_of HB2.out ho3 hb3 (show L2 ++ textBytes (⟨#[]⟩ : ByteArray).data.toList = R by rw [← HE.out]))
  clear ho3 hb3 HV2 HB2 HE HX2
  go_wp2_with fail
  go_ret
  exact G.out

set_option maxHeartbeats 800000 in
theorem rbye_c (r : Nat) (hr : r ≤ 4294967295) (w : World) {a : Nat} {H : Nat} {U : List Usr} {s : GS} (h : QG w a H U s) :
    Calls Try.prog 38 #[.pointer (some ⟨a, 0, none⟩), .int .u32 r] w fun e w' => QGPost (fun k => k = a) w a H U (endO s r) e w' := by
  obtain ⟨v, h1, h2, h3, h4, h5⟩ := h
  obtain ⟨c0, c1, c2, c3, c4, c5, hf⟩ := cells6q h1
  have HG : Hid (QG (w.setCell ⟨a, 5, none⟩ (.bool true)) a H U (endO s r).1) := hidden (QG.set (s' := (endO s r).1) h2 h3 h4 h5 (set6i h1 _).2.2.2.2)
  have HK := hidden (keepsSet w a 5 (.bool true))
  obtain ⟨R, hR⟩ : ∃ R, R = endO s r := ⟨_, rfl⟩
  rw [← hR] at HG ⊢
  have HR := hidden hR
  clear hR h1 h2 h3 h4 h5
  go_enter Try.func38, Try.ntmps38
  go_wp2_with fail
  generalize w.setCell ⟨a, 5, none⟩ (.bool true) = w1 at HG HK ⊢
  refine (rBye_c r hr w1).mono ?_
  rintro e w2 ⟨v2, rfl, ho, hb⟩
  obtain ⟨ao, cp, rfl⟩ := ownsRow_shape ho
  have HP : Hid (QGPost (fun k => k = a) w a H U R (.returned (.slice (some ⟨w2.heap.size, 0, none⟩) 1 1)) (w2.alloc (.cells #[.slice ao (byeL r).length cp] 25))) := by
    refine hidden ⟨_, rfl, ?_, ?_, ?_⟩
    · rw [HR.out]
      exact Ans.one ho HK.out.size hb.size
    · exact (HG.out.fresh hb).still ((Keeps.refl _ _).alloc _)
    · exact (HK.out.trans (Keeps.ofFresh hb)).alloc _
  clear ho hb HG HK HR c0 c1 c2 c3 c4 c5 hf
  generalize (byeL r).length = n at *
  go_wp2_with fail
  go_ret
  exact HP.out

set_option maxHeartbeats 800000 in
theorem rtry_c (w : World) {a : Nat} {H : Nat} {U : List Usr} {s : GS} (h : QG w a H U s) (ht : s.tr ≤ 4) :
    Calls Try.prog 52 #[.pointer (some ⟨a, 0, none⟩)] w fun e w' => QGPost (fun k => k = a) w a H U (tryO s) e w' := by
  obtain ⟨v, h1, h2, h3, h4, h5⟩ := h
  obtain ⟨c0, c1, c2, c3, c4, c5, hf⟩ := cells6q h1
  have hset := (set6i h1 (.int .i64 ((s.tr : Int) + 1))).2.2.2.1
  have HG : Hid (QG (w.setCell ⟨a, 4, none⟩ (.int .i64 ((s.tr : Int) + 1))) a H U ⟨s.st, s.nm, s.tr + 1, s.gone⟩) := hidden (QG.set (s' := ⟨s.st, s.nm, s.tr + 1, s.gone⟩) h2 h3 h4 (by show s.tr + 1 ≤ 5; omega) hset)
  have HK := hidden (keepsSet w a 4 (.int .i64 ((s.tr : Int) + 1)))
  obtain ⟨R, hR⟩ : ∃ R, R = tryO s := ⟨_, rfl⟩
  rw [← hR]
  have HR := hidden hR
  obtain ⟨d0, d1, d2, d3, d4, d5, df⟩ := cells6q hset
  clear hR h1 h2 h3 h4 h5 hset
  obtain ⟨st, nm, tr, gone⟩ := s
  dsimp only at *
  by_cases h5 : tr = 4
  · subst h5
    have HP : Hid (∀ w1 : World, QG w1 a H U ⟨st, nm, 5, gone⟩ → Calls Try.prog 38 #[.pointer (some ⟨a, 0, none⟩), .int .u32 14] w1 fun e w' => QGPost (fun k => k = a) w1 a H U R e w') := hidden fun w1 hg => by rw [HR.out]; exact rbye_c 14 (by omega) w1 hg
    go_enter Try.func52, Try.ntmps52
    go_wp2_with fail
    refine (HP.out _ HG.out).mono ?_
    rintro e w2 hp
    have HP2 := hidden (QGPost.after HK.out hp)
    obtain ⟨v2, rfl, _⟩ := hp
    clear HP HR HG HK c0 c1 c2 c3 c4 c5 hf d0 d1 d2 d3 d4 d5 df
    go_wp2_with fail
    go_ret
    exact HP2.out
  · have hne : ¬ (5 : Int) ≤ (tr : Int) + 1 := by omega
    have HE : Hid (R = (⟨st, nm, tr + 1, gone⟩, [failL])) := hidden (by rw [HR.out]; simp only [tryO]; rw [if_neg (by omega)])
    have HFL := hidden (show ([51] ++ textBytes (joined [passB]) ++ [bit false] : List UInt8) = failL by simp [failL, bit])
    have HTL := hidden (show ([51] ++ textBytes (joined [passB]) : List UInt8).length = 13 by rw [List.length_append]; simp only [textBytes, List.length_append, be_length, joined_pass, List.length_cons, List.length_nil])
    go_enter Try.func52, Try.ntmps52
    go_wp2_with fail
    have hsz : (w.setCell ⟨a, 4, none⟩ (.int .i64 ((tr : Int) + 1))).heap.size = w.heap.size := by simp
    rw [← hsz]
    generalize w.setCell ⟨a, 4, none⟩ (.int .i64 ((tr : Int) + 1)) = w1 at HG HK d0 d1 d2 d3 d4 d5 df hsz ⊢
    clear hsz
    have hsz2 : (w1.alloc (.cells (bcells [51]).toArray 5)).heap.size = w1.heap.size + 1 := by simp
    have HB1 := hidden ((bsl_lit w1 [51] (by simp)).alloc (.cells (([passB] : List ByteArray).map Value.string).toArray 9))
    have HS1 := hidden (ssl_lit (w1.alloc (.cells (bcells [51]).toArray 5)) [passB] (by simp))
    rw [hsz2] at HS1
    clear hsz2
    have HBL := hidden (((Below.refl w1.heap.size w1).alloc (Nat.le_refl _) (.cells (bcells [51]).toArray 5)).alloc (by simp) (.cells (([passB] : List ByteArray).map Value.string).toArray 9))
    refine (rnames_c _ [passB] _ [51] _ HB1.out HS1.out (by rw [joined_pass]; decide) (by rw [joined_pass]; simp)).mono ?_
    rintro e w2 ⟨v2, rfl, ho2, hb2⟩
    have HV2 := hidden (BSl.ofRow ho2)
    have HB2 := hidden (HBL.out.trans (hb2.mono HBL.out.size))
    clear ho2 hb2 HB1 HS1 HBL
    obtain ⟨a2, cp2, rfl⟩ := HV2.out.len
    generalize ([51] ++ textBytes (joined [passB]) : List UInt8) = L2 at *
    generalize hn2 : L2.length = n2 at HV2 ⊢
    clear hn2
    go_wp2_with fail
    refine (rbool_c false _ L2 _ HV2.out (by have := HTL.out; omega)).mono ?_
    rintro e w3 ⟨v3, rfl, ho3, hb3⟩
    obtain ⟨v4, e4, ho, hb⟩ := gave_of HB2.out ho3 hb3 HFL.out
    cases e4
    obtain ⟨ao, cp, e5⟩ := ownsRow_shape ho
    subst e5
    clear ho3 hb3 HV2 HB2 HFL HTL
    have HP : Hid (QGPost (fun k => k = a) w a H U R (.returned (.slice (some ⟨w3.heap.size, 0, none⟩) 1 1)) (w3.alloc (.cells #[.slice ao failL.length cp] 25))) := by
      refine hidden ⟨_, rfl, ?_, ?_, ?_⟩
      · rw [HE.out]
        exact Ans.one ho HK.out.size hb.size
      · rw [HE.out]
        exact (HG.out.fresh hb).still ((Keeps.refl _ _).alloc _)
      · exact (HK.out.trans (Keeps.ofFresh hb)).alloc _
    clear ho hb HG HK HR HE c0 c1 c2 c3 c4 c5 hf d0 d1 d2 d3 d4 d5 df
    generalize failL.length = n at *
    go_wp2_with fail
    go_ret
    exact HP.out

end Go.Proofs.Ytpildjijaigmfaa
