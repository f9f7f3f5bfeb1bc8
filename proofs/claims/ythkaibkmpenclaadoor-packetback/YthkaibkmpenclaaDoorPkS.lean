/- Both ends at once: an Out and an In beside one another, and what others hold. -/
import Derived.Test.YthkaibkmpenclaaDoorPkR
namespace Go.Proofs.YthkaibkmpenclaaDoor
open Go Go.RowKit

/-- The blocks of both ends. -/
def Foot (go gi h k : Nat) : Prop := k = go ∨ k = gi ∨ k = h
/-- An Out at go and an In at gi, made since W; the blocks in K are others'. -/
structure Ends (W w : World) (K : Nat → Prop) (go gi h : Nat) (ko ki : Option Nat) (kyo : List UInt8) (co : Nat) (kyi : List UInt8) (ci : Nat) (xs : List UInt8) (why : Nat) : Prop where
  out : OutS w go ko kyo co
  inn : InS w gi h ki kyi ci xs why
  b : Below W.heap.size W w
  ne : go ≠ gi ∧ go ≠ h ∧ ko ≠ some gi ∧ ko ≠ some h ∧ ki ≠ some go
  lo : W.heap.size ≤ go ∧ W.heap.size ≤ gi ∧ W.heap.size ≤ h
  res : ∀ k, K k → k < w.heap.size ∧ ¬ Foot go gi h k
section
variable {W w : World} {K : Nat → Prop} {go gi h : Nat} {ko ki : Option Nat} {kyo kyi xs : List UInt8} {co ci why : Nat}
theorem Ends.fresh {w' : World} (E : Ends W w K go gi h ko ki kyo co kyi ci xs why) (hb : Below w.heap.size w w') : Ends W w' K go gi h ko ki kyo co kyi ci xs why :=
  ⟨E.out.fresh hb, E.inn.fresh hb, E.b.trans (hb.mono E.b.size), E.ne, E.lo, fun k hk => ⟨Nat.lt_of_lt_of_le (E.res k hk).1 hb.size, (E.res k hk).2⟩⟩
theorem Ends.drewN (E : Ends W w K go gi h ko ki kyo co kyi ci xs why) (n : Nat) : Ends W (w.drewN n) K go gi h ko ki kyo co kyi ci xs why :=
  E.fresh (below_drewN (Below.refl _ w) n)
theorem Ends.more (E : Ends W w K go gi h ko ki kyo co kyi ci xs why) {K' : Nat → Prop} (hK : ∀ k, K' k → k < w.heap.size ∧ ¬ Foot go gi h k) : Ends W w K' go gi h ko ki kyo co kyi ci xs why :=
  ⟨E.out, E.inn, E.b, E.ne, E.lo, hK⟩
theorem Ends.footLt (E : Ends W w K go gi h ko ki kyo co kyi ci xs why) {k : Nat} (hk : Foot go gi h k) : W.heap.size ≤ k ∧ k < w.heap.size := by
  have h1 := E.out.blockLt
  have h2 := E.inn.blockLt
  have h3 := E.lo
  rcases hk with rfl | rfl | rfl <;> omega
theorem Ends.bel {w' : World} (E : Ends W w K go gi h ko ki kyo co kyi ci xs why) (hk : Keeps (Foot go gi h) w w') : Below W.heap.size W w' :=
  E.b.trans (hk.below E.b.size fun _ hf => (E.footLt hf).1)
/-- What others hold stays. -/
theorem Ends.bsl {w' : World} (E : Ends W w K go gi h ko ki kyo co kyi ci xs why) (hk : Keeps (Foot go gi h) w w') {v : Value} {ys : List UInt8} (hv : BSl w v ys) (hK : ∀ k, v.ownBlock = some k → K k) : BSl w' v ys :=
  hv.keep hk fun k e => (E.res k (hK k e)).2
theorem Ends.pls {w' : World} (E : Ends W w K go gi h ko ki kyo co kyi ci xs why) (hk : Keeps (Foot go gi h) w w') {v : Value} {ps : List (List UInt8)} (hv : PLs W w v ps) (hK : ∀ k, v.ownBlock = some k → K k) : PLs W w' v ps :=
  hv.keep hk fun k e => (E.res k (hK k e)).2
theorem ends_new {w1 : World} {w0 : Nat} (hW : Below W.heap.size W w) (ho : OutS w w0 none [] 0) (hlo : W.heap.size ≤ w0) (hi : InS w1 w.heap.size w.heap.size none [] 0 [] 0) (hb : Below w.heap.size w w1) (hK : ∀ k, K k → k < w0) : Ends W w1 K w0 w.heap.size w.heap.size none none [] 0 [] 0 [] 0 := by
  have h1 := ho.blockLt
  have h2 := hW.size
  refine ⟨ho.fresh hb, hi, hW.trans (hb.mono hW.size), ⟨by omega, by omega, by simp, by simp, by simp⟩, ⟨hlo, h2, h2⟩, fun k hk => ⟨?_, ?_⟩⟩
  · have := hK k hk; have := hb.size; omega
  · have := hK k hk; rintro (rfl | rfl | rfl) <;> omega
theorem ends_packet (E : Ends W w K go gi h ko ki kyo co kyi ci xs why) (hcl : Cl W) (v : Value) (p : List UInt8) (hv : BSl w v p) (h1 : 1 ≤ p.length) (hp : p.length ≤ 9000) (hc : co + 1 ≤ 1000000) :
    Calls Tryd.prog 11 #[.pointer (some ⟨go, 0, none⟩), v] w fun e w' => ∃ v', e = .returned (.tuple #[v', .int .i64 0]) ∧ w'.ownsRow w.heap.size 5 1 v' (packetL kyo co p).length (bcells (packetL kyo co p)) ∧ Ends W w' K go gi h ko ki kyo (co + 1) kyi ci xs why ∧ Keeps (Foot go gi h) w w' := by
  refine (packet_c v p w E.out (hcl.fresh E.b) hv h1 hp hc).mono ?_
  rintro e w' ⟨v', rfl, hrow, ho, hk⟩
  have hF : Keeps (Foot go gi h) w w' := hk.mono fun k _ e => .inl e
  obtain ⟨n1, n2, n3, n4, n5⟩ := E.ne
  exact ⟨v', rfl, hrow, ⟨ho, E.inn.keep hk (fun e => n1 e.symm) (fun e => n2 e.symm) (fun k e e2 => n5 (by rw [e, e2])), E.bel hF, E.ne, E.lo, fun k hk => ⟨Nat.lt_of_lt_of_le (E.res k hk).1 hF.size, (E.res k hk).2⟩⟩, hF⟩
theorem ends_okeys (E : Ends W w K go gi h ko ki kyo co kyi ci xs why) (v : Value) (ks : List UInt8) (hv : BSl w v ks) (hl : ks.length = 32) :
    Calls Tryd.prog 12 #[.pointer (some ⟨go, 0, none⟩), v] w fun e w' => e = .returned (.int .i64 0) ∧ ∃ ko', Ends W w' K go gi h ko' ki ks co kyi ci xs why ∧ Keeps (Foot go gi h) w w' := by
  refine (outKeys_c v ks w E.out hv hl).mono ?_
  rintro e w' ⟨rfl, kb, ho, hk, hnew⟩
  have hF : Keeps (Foot go gi h) w w' := hk.mono fun k _ e => .inl e
  obtain ⟨n1, n2, n3, n4, n5⟩ := E.ne
  have hl2 := E.inn.blockLt
  refine ⟨rfl, kb, ⟨ho, E.inn.keep hk (fun e => n1 e.symm) (fun e => n2 e.symm) (fun k e e2 => n5 (by rw [e, e2])), E.bel hF, ⟨n1, n2, fun e => ?_, fun e => ?_, n5⟩, E.lo, fun k hk => ⟨Nat.lt_of_lt_of_le (E.res k hk).1 hF.size, (E.res k hk).2⟩⟩, hF⟩
  · have := hnew _ e; omega
  · have := hnew _ e; omega
/-- Behind a call of the In's. -/
theorem Ends.moved {w' : World} {h' : Nat} {ki' : Option Nat} {kyi' xs' : List UInt8} {ci' why' : Nat} (E : Ends W w K go gi h ko ki kyo co kyi ci xs why) (hi : InS w' gi h' ki' kyi' ci' xs' why') (hm : Moved gi h h' ki ki' w w') : Ends W w' K go gi h' ko ki' kyo co kyi' ci' xs' why' ∧ Keeps (Foot go gi h) w w' := by
  have hF : Keeps (Foot go gi h) w w' := hm.keeps.mono fun k _ e => e.elim (fun e => .inr (.inl e)) (fun e => .inr (.inr e))
  obtain ⟨n1, n2, n3, n4, n5⟩ := E.ne
  obtain ⟨l1, l2, l3⟩ := E.lo
  have b1 := E.out.blockLt
  have b2 := E.inn.blockLt
  have b3 := E.b.size
  have hh : go ≠ h' ∧ W.heap.size ≤ h' ∧ ∀ k, k < w.heap.size → k ≠ gi → k ≠ h → k ≠ h' := by
    rcases hm.row with e | e | e
    · subst e; exact ⟨n2, l3, fun k _ _ h => h⟩
    · subst e; exact ⟨n1, l2, fun k _ h _ => h⟩
    · exact ⟨by omega, by omega, fun k hk _ _ => by omega⟩
  refine ⟨⟨E.out.keep hm.keeps (fun e => e.elim n1 n2) (fun k e e2 => e2.elim (fun e3 => n3 (by rw [e, e3])) (fun e3 => n4 (by rw [e, e3]))), hi, E.bel hF, ⟨n1, hh.1, n3, fun e => ?_, ?_⟩, ⟨l1, l2, hh.2.1⟩, fun k hk => ⟨Nat.lt_of_lt_of_le (E.res k hk).1 hF.size, ?_⟩⟩, hF⟩
  · have hlt := E.out.lt _ e
    exact hh.2.2 h' hlt (fun e2 => n3 (by rw [e, e2])) (fun e2 => n4 (by rw [e, e2])) rfl
  · rcases hm.key with e | e | ⟨k, e, hk⟩
    · rw [e]; exact n5
    · rw [e]; simp
    · rw [e]; intro e2; simp at e2; omega
  · have hr := E.res k hk
    rintro (e | e | e)
    · exact hr.2 (.inl e)
    · exact hr.2 (.inr (.inl e))
    · exact hh.2.2 k hr.1 (fun e => hr.2 (.inr (.inl e))) (fun e => hr.2 (.inr (.inr e))) e
theorem ends_ikeys (E : Ends W w K go gi h ko ki kyo co kyi ci xs 0) (v : Value) (ks : List UInt8) (hv : BSl w v ks) (hl : ks.length = 32) :
    Calls Tryd.prog 16 #[.pointer (some ⟨gi, 0, none⟩), v] w fun e w' => e = .returned (.int .i64 0) ∧ ∃ ki', Ends W w' K go gi h ko ki' kyo co ks ci xs 0 ∧ Keeps (Foot go gi h) w w' := by
  refine (inKeys_c v ks w E.inn hv hl).mono ?_
  rintro e w' ⟨rfl, kb, hi, hm⟩
  exact ⟨rfl, kb, E.moved hi hm⟩
theorem ends_feed (E : Ends W w K go gi h ko ki kyo co kyi ci xs 0) (v : Value) (ys : List UInt8) (hv : BSl w v ys) (hl : xs.length + ys.length ≤ 1000000) :
    Calls Tryd.prog 18 #[.pointer (some ⟨gi, 0, none⟩), v] w fun e w' => e = .returned (.tuple #[]) ∧ ∃ h', Ends W w' K go gi h' ko ki kyo co kyi ci (xs ++ ys) 0 ∧ Keeps (Foot go gi h) w w' := by
  refine (feed_c v ys w E.inn hv hl).mono ?_
  rintro e w' ⟨rfl, h', hi, hm⟩
  exact ⟨rfl, h', E.moved hi hm⟩
/-- What Next tells beside an Out. -/
def NEnds (W w : World) (K : Nat → Prop) (go gi h : Nat) (ko ki : Option Nat) (kyo : List UInt8) (co : Nat) (kyi : List UInt8) (ci : Nat) (xs : List UInt8) (r : Nx) (e : Ending) (w' : World) : Prop :=
  match r with
  | .short => e = .returned (.tuple #[.slice none 0 0, .bool false, .int .i64 0]) ∧ Ends W w' K go gi h ko ki kyo co kyi ci xs 0 ∧ Keeps (Foot go gi h) w w'
  | .bad why => e = .returned (.tuple #[.slice none 0 0, .bool false, .int .i64 (why : Int)]) ∧ Ends W w' K go gi gi ko none kyo co [] 0 [] why ∧ Keeps (Foot go gi h) w w'
  | .told p rest => ∃ v h', e = .returned (.tuple #[v, .bool true, .int .i64 0]) ∧ BSl w' v p ∧ (∀ k, v.ownBlock = some k → w.heap.size ≤ k) ∧ Ends W w' K go gi h' ko ki kyo co kyi (ci + 1) rest 0 ∧ Keeps (Foot go gi h) w w'
theorem ends_next (E : Ends W w K go gi h ko ki kyo co kyi ci xs 0) (hcl : Cl W) (hl : xs.length ≤ 9500) (hc : ci + 1 ≤ 1000000) :
    Calls Tryd.prog 27 #[.pointer (some ⟨gi, 0, none⟩)] w fun e w' => NEnds W w K go gi h ko ki kyo co kyi ci xs (nextR kyi ci xs) e w' := by
  refine (next_c w E.inn hl (hcl.fresh E.b) hc).mono ?_
  intro e w' hN
  cases hr : nextR kyi ci xs with
  | short =>
    rw [hr] at hN
    obtain ⟨h1, h2, h3⟩ := hN
    exact ⟨h1, E.moved h2 h3⟩
  | bad why =>
    rw [hr] at hN
    obtain ⟨h1, h2, h3⟩ := hN
    exact ⟨h1, E.moved h2 h3⟩
  | told p rest =>
    rw [hr] at hN
    obtain ⟨v, h', h1, h2, h3, h4, h5⟩ := hN
    exact ⟨v, h', h1, h2, h3, E.moved h4 h5⟩
theorem ends_next_no (E : Ends W w K go gi h ko ki kyo co kyi ci xs why) (hw : why ≠ 0) :
    Calls Tryd.prog 27 #[.pointer (some ⟨gi, 0, none⟩)] w fun e w' => NEnds W w K go gi h ko ki kyo co kyi ci xs (.bad why) e w' := by
  refine (next_no w hw E.inn).mono ?_
  rintro e w' ⟨h1, h2, h3⟩
  exact ⟨h1, E.moved h2 h3⟩
end
end Go.Proofs.YthkaibkmpenclaaDoor
