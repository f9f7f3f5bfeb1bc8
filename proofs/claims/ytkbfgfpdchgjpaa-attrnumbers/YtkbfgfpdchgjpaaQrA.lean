/- The document's own Reader in memory, and what its refuse, Raw and Left do. -/
import Derived.Test.YtkbfgfpdchgjpaaRdM
import Derived.Test.YtkbfgfpdchgjpaaRfC
namespace Go.Proofs.Ytkbfgfpdchgjpaa
open Go Go.RowKit

/-- The document's Reader at block c reads bs (in block g): it stands where p and why say. -/
def QR (w : World) (c : Nat) (g : Option Nat) (bs : List UInt8) (p : Nat) (why : Int) : Prop :=
  ∃ (v : Value) (q : Nat) (rf : Bool) (y z : Int), w.heap[c]? = some (.cells #[v, .int .i64 q, .bool rf, .int .i64 y, .int .i64 z] 54 (0, 0)) ∧ BSl w v bs ∧ v.ownBlock = g ∧ g ≠ some c ∧ q ≤ bs.length ∧ bs.length ≤ 1000000000000 ∧
    ((rf = false ∧ why = 0 ∧ q = p) ∨ (rf = true ∧ why ≠ 0 ∧ y = why ∧ z = p))

theorem QR.lt {w : World} {c : Nat} {g : Option Nat} {bs : List UInt8} {p : Nat} {why : Int} (h : QR w c g bs p why) : c < w.heap.size := by
  obtain ⟨v, q, rf, y, z, h1, _⟩ := h
  exact lt_of_block h1
theorem QR.keep {S : Nat → Prop} {w w' : World} {c : Nat} {g : Option Nat} {bs : List UInt8} {p : Nat} {why : Int} (h : QR w c g bs p why) (hk : Keeps S w w') (ha : ¬ S c) (hg : ∀ k, g = some k → ¬ S k) : QR w' c g bs p why := by
  have hlt := h.lt
  obtain ⟨v, q, rf, y, z, h1, h2, rfl, h4, h5⟩ := h
  exact ⟨v, q, rf, y, z, (hk.block c hlt ha).trans h1, h2.keep hk hg, rfl, h4, h5⟩
theorem QR.same {w w' : World} {c : Nat} {g : Option Nat} {bs : List UInt8} {p : Nat} {why : Int} (h : QR w c g bs p why) (hk : Keeps (fun _ => False) w w') : QR w' c g bs p why := h.keep hk (fun h => h) (fun _ _ h => h)
theorem QR.fresh {w w' : World} {c : Nat} {g : Option Nat} {bs : List UInt8} {p : Nat} {why : Int} (h : QR w c g bs p why) (hb : Below w.heap.size w w') : QR w' c g bs p why := h.same (Keeps.ofFresh hb)

structure QTook (c : Nat) (g : Option Nat) (bs : List UInt8) (p : Nat) (why : Int) (w w' : World) : Prop where
  state : QR w' c g bs p why
  keeps : Keeps (fun k => k = c) w w'
theorem QTook.trans {c : Nat} {g : Option Nat} {bs : List UInt8} {p1 p2 : Nat} {y1 y2 : Int} {w w1 w2 : World} (h : QTook c g bs p1 y1 w w1) (k : QTook c g bs p2 y2 w1 w2) : QTook c g bs p2 y2 w w2 := ⟨k.state, h.keeps.trans k.keeps⟩
theorem QTook.fresh {c : Nat} {g : Option Nat} {bs : List UInt8} {p1 : Nat} {y1 : Int} {w w1 w2 : World} (h : QTook c g bs p1 y1 w w1) (hb : Below w1.heap.size w1 w2) : QTook c g bs p1 y1 w w2 := ⟨h.state.fresh hb, h.keeps.trans (Keeps.ofFresh hb)⟩

theorem cells5 {w : World} {a : Nat} {t : TypeId} {v0 v1 v2 v3 v4 : Value} (h : w.heap[a]? = some (.cells #[v0, v1, v2, v3, v4] t (0, 0))) :
    w.cell? ⟨a, 0, none⟩ = some v0 ∧ w.cell? ⟨a, 1, none⟩ = some v1 ∧ w.cell? ⟨a, 2, none⟩ = some v2 ∧ w.cell? ⟨a, 3, none⟩ = some v3 ∧ w.cell? ⟨a, 4, none⟩ = some v4 ∧ ∀ j, w.frozen? ⟨a, j, none⟩ = false := by
  refine ⟨?_, ?_, ?_, ?_, ?_, fun j => by simp [World.frozen?, h]⟩ <;> simp [World.cell?, h]
theorem set5 {w : World} {a : Nat} {t : TypeId} {v0 v1 v2 v3 v4 : Value} (h : w.heap[a]? = some (.cells #[v0, v1, v2, v3, v4] t (0, 0))) (x y z : Value) :
    (((w.setCell ⟨a, 2, none⟩ x).setCell ⟨a, 3, none⟩ y).setCell ⟨a, 4, none⟩ z).heap[a]? = some (.cells #[v0, v1, x, y, z] t (0, 0)) := by
  simp only [World.setCell, Array.getElem?_modify, if_true, h]
  simp
theorem set5p {w : World} {a : Nat} {t : TypeId} {v0 v1 v2 v3 v4 : Value} (h : w.heap[a]? = some (.cells #[v0, v1, v2, v3, v4] t (0, 0))) (y : Value) :
    (w.setCell ⟨a, 1, none⟩ y).heap[a]? = some (.cells #[v0, y, v2, v3, v4] t (0, 0)) := by
  simp only [World.setCell, Array.getElem?_modify, if_true, h]
  simp

set_option maxHeartbeats 400000 in
theorem qrefuse_c (y : Int) (hy : y ≠ 0) (q : Nat) (w : World) {c : Nat} {g : Option Nat} {bs : List UInt8} {p : Nat} (h : QR w c g bs p 0) :
    Calls Try.prog 41 #[.pointer (some ⟨c, 0, none⟩), .int .i64 y, .int .i64 q] w fun e w' => e = .returned (.tuple #[]) ∧ QTook c g bs q y w w' := by
  obtain ⟨v, q0, rf, y0, z0, h1, h2, rfl, h4, h5, h6, (⟨rfl, _, rfl⟩ | ⟨_, h7, _⟩)⟩ := h
  · obtain ⟨c0, c1, c2, c3, c4, hf⟩ := cells5 h1
    go_enter Try.func41, Try.ntmps41
    go_wp2
    go_end0
    have hk : Keeps (fun k => k = c) w (((w.setCell ⟨c, 2, none⟩ (.bool true)).setCell ⟨c, 3, none⟩ (.int .i64 y)).setCell ⟨c, 4, none⟩ (.int .i64 q)) :=
      Keeps.setCell (S := fun k => k = c) (p := ⟨c, 4, none⟩) (Keeps.setCell (S := fun k => k = c) (p := ⟨c, 3, none⟩) (Keeps.setCell (S := fun k => k = c) (p := ⟨c, 2, none⟩) (Keeps.refl _ _) (.inl rfl) _) (.inl rfl) _) (.inl rfl) _
    exact ⟨rfl, ⟨v, q0, true, y, q, set5 h1 _ _ _, h2.keep hk (fun k e hS => h4 (by rw [e, hS])), rfl, h4, h5, h6, .inr ⟨rfl, hy, rfl, rfl⟩⟩, hk⟩
  · exact absurd rfl h7

set_option maxHeartbeats 400000 in
theorem qrefuse_no (y : Int) (q : Int) (w : World) {c : Nat} {g : Option Nat} {bs : List UInt8} {p : Nat} {why : Int} (hw : why ≠ 0) (h : QR w c g bs p why) :
    Calls Try.prog 41 #[.pointer (some ⟨c, 0, none⟩), .int .i64 y, .int .i64 q] w fun e w' => e = .returned (.tuple #[]) ∧ w' = w := by
  obtain ⟨v, q0, rf, y0, z0, h1, h2, rfl, h4, h5, h6, (⟨_, h7, _⟩ | ⟨rfl, h7, rfl, rfl⟩)⟩ := h
  · exact absurd h7 hw
  · obtain ⟨c0, c1, c2, c3, c4, hf⟩ := cells5 h1
    go_enter Try.func41, Try.ntmps41
    go_wp2
    go_end0
    exact ⟨rfl, rfl⟩

/-- What the document's Raw answers: fresh bytes. -/
def QRaw (c : Nat) (g : Option Nat) (bs : List UInt8) (r : List UInt8 × Nat × Int) (xs : List UInt8) (w : World) (e : Ending) (w' : World) : Prop :=
  ∃ v', e = .returned v' ∧ BSl w' v' xs ∧ (∀ k, v'.ownBlock = some k → w.heap.size ≤ k) ∧ QTook c g bs r.2.1 r.2.2 w w'

set_option maxHeartbeats 400000 in
theorem qraw_no (n : Int) (w : World) {c : Nat} {g : Option Nat} {bs : List UInt8} {p : Nat} {why : Int} (h : QR w c g bs p why) (hw : why ≠ 0 ∨ n ≤ 0) :
    Calls Try.prog 43 #[.pointer (some ⟨c, 0, none⟩), .int .i64 n] w fun e w' => QRaw c g bs ([], p, why) [] w e w' := by
  have H := h
  obtain ⟨v, q0, rf, y0, z0, h1, h2, rfl, h4, h5, h6, h7⟩ := h
  obtain ⟨c0, c1, c2, c3, c4, hf⟩ := cells5 h1
  cases rf with
  | true =>
    go_enter Try.func43, Try.ntmps43
    go_wp2
    go_ret
    exact ⟨_, rfl, bsl_none _, (fun k e => by cases e), H, Keeps.refl _ _⟩
  | false =>
    have hn : n ≤ 0 := by
      rcases h7 with ⟨_, h8, _⟩ | ⟨h8, _⟩
      · exact hw.resolve_left (fun h => h h8)
      · cases h8
    go_enter Try.func43, Try.ntmps43
    go_wp2
    go_ret
    exact ⟨_, rfl, bsl_none _, (fun k e => by cases e), H, Keeps.refl _ _⟩

set_option maxHeartbeats 800000 in
set_option maxRecDepth 100000 in
theorem qraw_end (n : Int) (_hn1 : n ≤ 1000000000000) (w : World) {c : Nat} {g : Option Nat} {bs : List UInt8} {p : Nat} (h : QR w c g bs p 0) (hl : ((bs.length - p : Nat) : Int) < n) :
    Calls Try.prog 43 #[.pointer (some ⟨c, 0, none⟩), .int .i64 n] w fun e w' => QRaw c g bs ([], bs.length, 10) [] w e w' := by
  have H := h
  obtain ⟨v, q0, rf, y0, z0, h1, h2, rfl, h4, h5, h6, h7⟩ := h
  obtain ⟨c0, c1, c2, c3, c4, hf⟩ := cells5 h1
  obtain ⟨ao, cap, rfl, _⟩ := id h2
  rcases h7 with ⟨rfl, _, rfl⟩ | ⟨_, h8, _⟩
  · have hn0 : ¬ n ≤ 0 := by omega
    have hl2 : (bs.length : Int) - (q0 : Int) < n := by omega
    go_enter Try.func43, Try.ntmps43
    go_wp2
    go_quiet (fail)
    have HD : Hid (QR (w.drewN nq) c (Value.slice ao bs.length cap).ownBlock bs q0 0) := H.same ((Keeps.refl _ _).drewN nq)
    go_wp2_with fail
    refine (qrefuse_c 10 (by omega) bs.length _ HD.out).mono ?_
    rintro e w2 ⟨rfl, ht⟩
    go_wp2
    go_ret
    exact ⟨_, rfl, bsl_none _, (fun k e => by cases e), ht.state, ((Keeps.refl _ _).drewN nq).trans ht.keeps⟩
  · exact absurd rfl h8

theorem wrap_small (x : Int) (h0 : 0 ≤ x) (h1 : x ≤ 4000000000000) : IntKind.i64.wrap x = x := by
  simp [IntKind.wrap, IntKind.bits, IntKind.signed]
  omega

theorem srcLen {P : Program} {size : Nat} {tx : TypeId} {x : Value} {m n : Nat} {news : List Value} {w : World} (e : m = n) (h : Src P size tx x m news w) : Src P size tx x n news w := e ▸ h

set_option maxHeartbeats 1600000 in
set_option maxRecDepth 100000 in
theorem qraw_yes (n : Nat) (hn : 0 < n) (w : World) {c : Nat} {g : Option Nat} {bs : List UInt8} {p : Nat} (h : QR w c g bs p 0) (hl : n ≤ bs.length - p) :
    Calls Try.prog 43 #[.pointer (some ⟨c, 0, none⟩), .int .i64 n] w fun e w' => QRaw c g bs ((bs.drop p).take n, p + n, 0) ((bs.drop p).take n) w e w' := by
  obtain ⟨i0, hi, hz0, hz1, hz2⟩ := info_parts Try.infoU8
  have H := h
  obtain ⟨v, q0, rf, y0, z0, h1, h2, rfl, h4, h5, h6, h7⟩ := h
  obtain ⟨c0, c1, c2, c3, c4, hf⟩ := cells5 h1
  obtain ⟨ao, cap, rfl, hcp, hcm, _⟩ := id h2
  unfold maxLen at hcm
  rcases h7 with ⟨rfl, _, rfl⟩ | ⟨_, h8, _⟩
  · have hn0 : ¬ (n : Int) ≤ 0 := by omega
    have hl2 : ¬ (bs.length : Int) - (q0 : Int) < (n : Int) := by omega
    have hcap : ¬ cap = q0 := by omega
    have hi0 : (0 : Int) ≤ (q0 : Int) := Int.natCast_nonneg _
    have hi1 : (q0 : Int) ≤ (q0 : Int) + (n : Int) := by omega
    have hi2 : (q0 : Int) + (n : Int) ≤ (cap : Int) := by omega
    have hlen : ((bs.drop q0).take n).length = n := by simp; omega
    have HC : Hid (BSl w (.slice (Option.map (fun x => x.add q0) ao) n (cap - q0)) ((bs.drop q0).take n)) := h2.cut hl (by omega)
    have hclt := lt_of_block h1
    go_enter Try.func43, Try.ntmps43
    go_wp2
    go_quiet (fail)
    have hkd : Keeps (fun _ => False) w (w.drewN nq) := (Keeps.refl _ _).drewN nq
    have h1d : (w.drewN nq).heap[c]? = some (.cells #[.slice ao bs.length cap, .int .i64 q0, .bool false, .int .i64 y0, .int .i64 z0] 54 (0, 0)) := h1
    have HCd : Hid (BSl (w.drewN nq) (.slice (Option.map (fun x => x.add q0) ao) n (cap - q0)) ((bs.drop q0).take n)) := HC.out.keep hkd (fun _ _ h => h)
    have HBd : Hid (BSl (w.drewN nq) (.slice ao bs.length cap) bs) := h2.keep hkd (fun _ _ h => h)
    have HK : Hid (Keeps (fun _ => False) w (w.drewN nq)) := hkd
    clear c0 c1 c2 c3 c4 hf hkd HC h2 H h1
    generalize w.drewN nq = wd at *
    obtain ⟨c0, c1, c2, c3, c4, hf⟩ := cells5 h1d
    have hclt2 := lt_of_block h1d
    have hwrap : IntKind.i64.wrap ((q0 : Int) + (n : Int)) = (q0 : Int) + (n : Int) := wrap_small _ (by omega) (by omega)
    go_wp2_with fail
    go_region_held3 (fun w' => w'.cell? ⟨c, 0, none⟩ = some (.slice ao bs.length cap) ∧ w'.cell? ⟨c, 1, none⟩ = some (.int .i64 q0))
      (first
        | go_keep
        | (go_split_ands
           refine ⟨?_, ?_⟩
           · (rw [hgrow1.cell_far _ (by simp; omega) (by simp [Value.ownBlock]; omega)]; assumption)
           · (rw [hgrow1.cell_far _ (by simp; omega) (by simp [Value.ownBlock]; omega)]; assumption)))
      ((refine step_append_src _ (by rfl) (.tmp 33) (.tmp 48) 27 27 (by rfl) wd.heap.size 5 i0 _ 1 Try.underlying27 hi hz0 hz1 hz2 rfl _ _ _ (by rfl) ((World.ownsRow_made wd #[] 0 (Nat.le_refl _) (Nat.zero_le _) rfl).drew) _ n (bcells ((bs.drop q0).take n)) (by simp [Act.eval]; omega) (srcLen hlen (BSl.src ((HCd.out.alloc _).fresh ((Below.refl _ _).drew)))) (by unfold maxLen; omega) (by omega) (by simp) (wd.heap.size + 1) (by simp) ?_; intro v1 w1 ho1 hgrow1 hnil1 hat1))
    have hb1 : Below wd.heap.size wd w1 := (((Below.refl _ wd).alloc (Nat.le_refl _) _).drew).grown hgrow1 (by simp) (by intro k hk; simp [Value.ownBlock] at hk; omega)
    have h1e : w1.heap[c]? = some (.cells #[.slice ao bs.length cap, .int .i64 q0, .bool false, .int .i64 y0, .int .i64 z0] 54 (0, 0)) := (hb1.block c hclt2).trans h1d
    have ho2 : w1.ownsRow wd.heap.size 5 1 v1 n (bcells ((bs.drop q0).take n)) := by simpa using ho1
    have HV : Hid (w1.ownsRow wd.heap.size 5 1 v1 n (bcells ((bs.drop q0).take n))) := ho2
    have HB1 : Hid (Below wd.heap.size wd w1) := hb1
    clear ho1 hgrow1 hnil1 hat1 hb1 ho2 c0 c1 c2 c3 c4 hf h1d
    obtain ⟨c0, c1, c2, c3, c4, hf⟩ := cells5 h1e
    go_wp2
    go_ret
    have hk2 : Keeps (fun k => k = c) w (w1.setCell ⟨c, 1, none⟩ (.int .i64 ((q0 : Int) + (n : Int)))) :=
      Keeps.setCell (S := fun k => k = c) (p := ⟨c, 1, none⟩) ((HK.out.mono fun _ _ h => h.elim).trans (Keeps.ofFresh HB1.out)) (.inl rfl) _
    have hks : Keeps (fun k => k = c) w1 (w1.setCell ⟨c, 1, none⟩ (.int .i64 ((q0 : Int) + (n : Int)))) := Keeps.setCell (S := fun k => k = c) (p := ⟨c, 1, none⟩) (Keeps.refl _ _) (.inl rfl) _
    have hvlt : ∀ k, v1.ownBlock = some k → wd.heap.size ≤ k := fun k hk => (HV.out.lt k hk).1
    refine ⟨v1, rfl, (BSl.ofRow HV.out).keep hks (fun k hk e => by have := hvlt k hk; omega), fun k hk => Nat.le_trans HK.out.size (hvlt k hk), ⟨⟨_, q0 + n, false, y0, z0, set5p h1e _, ?_, rfl, h4, by omega, h6, .inl ⟨rfl, rfl, rfl⟩⟩, hk2⟩⟩
    exact (HBd.out.fresh HB1.out).keep hks (fun k hk e => h4 (by rw [hk, e]))
  · exact absurd rfl h8

theorem qraw_c (n : Int) (hn1 : n ≤ 1000000000000) (w : World) {c : Nat} {g : Option Nat} {bs : List UInt8} {p : Nat} {why : Int} (h : QR w c g bs p why) :
    Calls Try.prog 43 #[.pointer (some ⟨c, 0, none⟩), .int .i64 n] w fun e w' => QRaw c g bs (tk bs p why n.toNat) (tk bs p why n.toNat).1 w e w' := by
  have hp : why = 0 → p ≤ bs.length := by
    obtain ⟨_, q, _, _, _, _, _, _, _, h5, _, h7⟩ := h
    rintro rfl
    rcases h7 with ⟨_, _, rfl⟩ | ⟨_, h8, _⟩
    · exact h5
    · exact absurd rfl h8
  by_cases hw : why = 0
  · by_cases hn : n ≤ 0
    · subst hw
      have e : tk bs p 0 n.toNat = ([], p, 0) := by
        have h0 : n.toNat = 0 := by omega
        unfold tk; rw [if_pos rfl, h0, if_neg (by omega)]; rfl
      rw [e]
      exact qraw_no n w h (.inr hn)
    · subst hw
      by_cases hl : ((bs.length - p : Nat) : Int) < n
      · have e : tk bs p 0 n.toNat = ([], bs.length, 10) := by unfold tk; rw [if_pos rfl, if_pos (by omega)]
        rw [e]
        exact qraw_end n hn1 w h hl
      · have e : tk bs p 0 n.toNat = ((bs.drop p).take n.toNat, p + n.toNat, 0) := by unfold tk; rw [if_pos rfl, if_neg (by omega)]
        rw [e]
        obtain ⟨m, rfl⟩ := Int.eq_ofNat_of_zero_le (show 0 ≤ n by omega)
        rw [Int.toNat_natCast]
        exact qraw_yes m (by omega) w h (by omega)
  · have e : tk bs p why n.toNat = ([], p, why) := by unfold tk; rw [if_neg hw]
    rw [e]
    exact qraw_no n w h (.inl hw)

end Go.Proofs.Ytkbfgfpdchgjpaa
