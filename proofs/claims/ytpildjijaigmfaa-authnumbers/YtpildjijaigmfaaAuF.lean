/- What a Gate answers when it ends, and at a wrong try. -/
import Derived.Test.YtpildjijaigmfaaAuC
import Derived.Test.YtpildjijaigmfaaAuD
namespace Go.Proofs.Ytpildjijaigmfaa
open Go Go.RowKit

/-- The slice value v holds the payloads ls, none or one, in memory from B on. -/
def Ans (B : Nat) (w : World) (v : Value) (ls : List (List UInt8)) : Prop :=
  (ls = [] ∧ v = .slice none 0 0) ∨ ∃ x g u, ls = [x] ∧ v = .slice (some ⟨g, 0, none⟩) 1 1 ∧ w.heap[g]? = some (.cells #[u] 25 (0, 0)) ∧ BSl w u x ∧ B ≤ g ∧ ∀ k, u.ownBlock = some k → B ≤ k
theorem Ans.nil' (B : Nat) (w : World) : Ans B w (.slice none 0 0) [] := .inl ⟨rfl, rfl⟩
theorem Ans.one {B : Nat} {w w1 : World} {x : List UInt8} {u : Value} (ho : w1.ownsRow w.heap.size 5 1 u x.length (bcells x)) (hB : B ≤ w.heap.size) (hw : w.heap.size ≤ w1.heap.size) : Ans B (w1.alloc (.cells #[u] 25)) (.slice (some ⟨w1.heap.size, 0, none⟩) 1 1) [x] :=
  .inr ⟨x, w1.heap.size, u, rfl, rfl, heap_alloc_new w1 _, (BSl.ofRow ho).alloc _, Nat.le_trans hB hw, fun k hk => Nat.le_trans hB (ho.lt k hk).1⟩
theorem Ans.keep {S : Nat → Prop} {B : Nat} {w w' : World} {v : Value} {ls : List (List UInt8)} (h : Ans B w v ls) (hk : Keeps S w w') (hS : ∀ k, S k → k < B) : Ans B w' v ls := by
  rcases h with h | ⟨x, g, u, e1, e2, h1, h2, h3, h4⟩
  · exact .inl h
  · exact .inr ⟨x, g, u, e1, e2, (hk.block g (lt_of_block h1) (fun h => by have := hS g h; omega)).trans h1, h2.keep hk (fun k hk h => by have := hS k h; have := h4 k hk; omega), h3, h4⟩
theorem Ans.mono {B C : Nat} {w : World} {v : Value} {ls : List (List UInt8)} (h : Ans B w v ls) (hC : C ≤ B) : Ans C w v ls := by
  rcases h with h | ⟨x, g, u, e1, e2, h1, h2, h3, h4⟩
  · exact .inl h
  · exact .inr ⟨x, g, u, e1, e2, h1, h2, Nat.le_trans hC h3, fun k hk => Nat.le_trans hC (h4 k hk)⟩

/-- What a call of a Gate's method leaves: answer and state; blocks of S may have turned. -/
def GPost (S : Nat → Prop) (w : World) (a : Nat) (U : List Usr) (r : GS × List (List UInt8)) (e : Ending) (w' : World) : Prop :=
  ∃ v, e = .returned v ∧ Ans w.heap.size w' v r.2 ∧ GW w' a U r.1 ∧ Keeps S w w'
theorem GPost.mono {S S' : Nat → Prop} {w w' : World} {a : Nat} {U : List Usr} {r : GS × List (List UInt8)} {e : Ending} (h : GPost S w a U r e w') (hs : ∀ k, k < w.heap.size → S k → S' k) : GPost S' w a U r e w' := by
  obtain ⟨v, h1, h2, h3, h4⟩ := h
  exact ⟨v, h1, h2, h3, h4.mono hs⟩
theorem GPost.after {S : Nat → Prop} {w w1 w' : World} {a : Nat} {U : List Usr} {r : GS × List (List UInt8)} {e : Ending} (hk : Keeps S w w1) (h : GPost S w1 a U r e w') : GPost S w a U r e w' := by
  obtain ⟨v, h1, h2, h3, h4⟩ := h
  exact ⟨v, h1, h2.mono hk.size, h3, hk.trans h4⟩

def endO (s : GS) (r : Nat) : GS × List (List UInt8) := (⟨s.st, s.nm, s.tr, true⟩, [byeL r])
def tryO (s : GS) : GS × List (List UInt8) := if s.tr + 1 = 5 then (⟨s.st, s.nm, s.tr + 1, true⟩, [byeL 14]) else (⟨s.st, s.nm, s.tr + 1, s.gone⟩, [failL])

theorem set5i {w : World} {a : Nat} {t : TypeId} {v0 v1 v2 v3 v4 : Value} (h : w.heap[a]? = some (.cells #[v0, v1, v2, v3, v4] t (0, 0))) (u : Value) :
    (w.setCell ⟨a, 1, none⟩ u).heap[a]? = some (.cells #[v0, u, v2, v3, v4] t (0, 0)) ∧ (w.setCell ⟨a, 2, none⟩ u).heap[a]? = some (.cells #[v0, v1, u, v3, v4] t (0, 0)) ∧ (w.setCell ⟨a, 3, none⟩ u).heap[a]? = some (.cells #[v0, v1, v2, u, v4] t (0, 0)) ∧ (w.setCell ⟨a, 4, none⟩ u).heap[a]? = some (.cells #[v0, v1, v2, v3, u] t (0, 0)) := by
  refine ⟨?_, ?_, ?_, ?_⟩ <;> (simp only [World.setCell, Array.getElem?_modify, if_true, h]; simp)
theorem keepsSet (w : World) (a i : Nat) (u : Value) : Keeps (fun k => k = a) w (w.setCell ⟨a, i, none⟩ u) := Keeps.setCell (S := fun k => k = a) (p := ⟨a, i, none⟩) (Keeps.refl _ _) (.inl rfl) _
theorem GW.set {w : World} {a : Nat} {U : List Usr} {v : Value} {s' : GS} {i : Nat} {u : Value} (h2 : USl w v U) (h3 : ∀ k, v.ownBlock = some k → k < a) (h4 : s'.st ≤ 2) (h5 : s'.tr ≤ 5)
    (hs : (w.setCell ⟨a, i, none⟩ u).heap[a]? = some (.cells #[v, .int .i64 s'.st, .string s'.nm, .int .i64 s'.tr, .bool s'.gone] 61 (0, 0))) : GW (w.setCell ⟨a, i, none⟩ u) a U s' :=
  ⟨v, hs, h2.keep (keepsSet w a i u) (fun k e h => by have := h3 k e; omega), h3, h4, h5⟩

set_option maxHeartbeats 800000 in
theorem end_c (r : Nat) (hr : r ≤ 4294967295) (w : World) {a : Nat} {U : List Usr} {s : GS} (h : GW w a U s) :
    Calls Try.prog 46 #[.pointer (some ⟨a, 0, none⟩), .int .u32 r] w fun e w' => GPost (fun k => k = a) w a U (endO s r) e w' := by
  obtain ⟨v, h1, h2, h3, h4, h5⟩ := h
  obtain ⟨c0, c1, c2, c3, c4, hf⟩ := cells5 h1
  have HG : Hid (GW (w.setCell ⟨a, 4, none⟩ (.bool true)) a U (endO s r).1) := hidden (GW.set (s' := (endO s r).1) h2 h3 h4 h5 (set5i h1 _).2.2.2)
  have HK := hidden (keepsSet w a 4 (.bool true))
  obtain ⟨R, hR⟩ : ∃ R, R = endO s r := ⟨_, rfl⟩
  rw [← hR] at HG ⊢
  have HR := hidden hR
  clear hR h1 h2 h3 h4 h5
  go_enter Try.func46, Try.ntmps46
  go_wp2_with fail
  generalize w.setCell ⟨a, 4, none⟩ (.bool true) = w1 at HG HK ⊢
  refine (Bye_c r hr w1).mono ?_
  rintro e w2 ⟨v2, rfl, ho, hb⟩
  obtain ⟨ao, cp, rfl⟩ := ownsRow_shape ho
  have HP : Hid (GPost (fun k => k = a) w a U R (.returned (.slice (some ⟨w2.heap.size, 0, none⟩) 1 1)) (w2.alloc (.cells #[.slice ao (byeL r).length cp] 25))) := by
    refine hidden ⟨_, rfl, ?_, ?_, ?_⟩
    · rw [HR.out]
      exact Ans.one ho HK.out.size hb.size
    · exact (HG.out.fresh hb).still ((Keeps.refl _ _).alloc _)
    · exact (HK.out.trans (Keeps.ofFresh hb)).alloc _
  clear ho hb HG HK HR c0 c1 c2 c3 c4 hf
  generalize (byeL r).length = n at *
  go_wp2_with fail
  go_ret
  exact HP.out

set_option maxHeartbeats 800000 in
theorem wrong_c (w : World) {a : Nat} {U : List Usr} {s : GS} (h : GW w a U s) (ht : s.tr ≤ 4) :
    Calls Try.prog 58 #[.pointer (some ⟨a, 0, none⟩)] w fun e w' => GPost (fun k => k = a) w a U (tryO s) e w' := by
  obtain ⟨v, h1, h2, h3, h4, h5⟩ := h
  obtain ⟨c0, c1, c2, c3, c4, hf⟩ := cells5 h1
  have hset := (set5i h1 (.int .i64 ((s.tr : Int) + 1))).2.2.1
  have HG : Hid (GW (w.setCell ⟨a, 3, none⟩ (.int .i64 ((s.tr : Int) + 1))) a U ⟨s.st, s.nm, s.tr + 1, s.gone⟩) := hidden (GW.set (s' := ⟨s.st, s.nm, s.tr + 1, s.gone⟩) h2 h3 h4 (by show s.tr + 1 ≤ 5; omega) hset)
  have HK := hidden (keepsSet w a 3 (.int .i64 ((s.tr : Int) + 1)))
  obtain ⟨R, hR⟩ : ∃ R, R = tryO s := ⟨_, rfl⟩
  rw [← hR]
  have HR := hidden hR
  obtain ⟨d0, d1, d2, d3, d4, df⟩ := cells5 hset
  clear hR h1 h2 h3 h4 h5 hset
  obtain ⟨st, nm, tr, gone⟩ := s
  dsimp only at *
  by_cases h5 : tr = 4
  · subst h5
    have HP : Hid (∀ w1 : World, GW w1 a U ⟨st, nm, 5, gone⟩ → Calls Try.prog 46 #[.pointer (some ⟨a, 0, none⟩), .int .u32 14] w1 fun e w' => GPost (fun k => k = a) w1 a U R e w') := hidden fun w1 hg => by rw [HR.out]; exact end_c 14 (by omega) w1 hg
    go_enter Try.func58, Try.ntmps58
    go_wp2_with fail
    refine (HP.out _ HG.out).mono ?_
    rintro e w2 hp
    have HP2 := hidden (GPost.after HK.out hp)
    obtain ⟨v2, rfl, _⟩ := hp
    clear HP HR HG HK c0 c1 c2 c3 c4 hf d0 d1 d2 d3 d4 df
    go_wp2_with fail
    go_ret
    exact HP2.out
  · have hne : ((tr : Int) + 1 == 5) = false := by simp; omega
    have HE : Hid (R = (⟨st, nm, tr + 1, gone⟩, [failL])) := hidden (by rw [HR.out]; simp only [tryO]; rw [if_neg (by omega)])
    go_enter Try.func58, Try.ntmps58
    go_wp2_with fail
    generalize w.setCell ⟨a, 3, none⟩ (.int .i64 ((tr : Int) + 1)) = w1 at HG HK d0 d1 d2 d3 d4 df ⊢
    refine (failure_c w1).mono ?_
    rintro e w2 ⟨v2, rfl, ho, hb⟩
    obtain ⟨ao, cp, rfl⟩ := ownsRow_shape ho
    have HP : Hid (GPost (fun k => k = a) w a U R (.returned (.slice (some ⟨w2.heap.size, 0, none⟩) 1 1)) (w2.alloc (.cells #[.slice ao failL.length cp] 25))) := by
      refine hidden ⟨_, rfl, ?_, ?_, ?_⟩
      · rw [HE.out]
        exact Ans.one ho HK.out.size hb.size
      · rw [HE.out]
        exact (HG.out.fresh hb).still ((Keeps.refl _ _).alloc _)
      · exact (HK.out.trans (Keeps.ofFresh hb)).alloc _
    clear ho hb HG HK HR HE c0 c1 c2 c3 c4 hf d0 d1 d2 d3 d4 df
    generalize failL.length = n at *
    go_wp2_with fail
    go_ret
    exact HP.out

end Go.Proofs.Ytpildjijaigmfaa
