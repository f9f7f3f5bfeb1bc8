/- The document's Reader. -/
import Derived.Test.YtookapglookphaaDoorXrA
import Derived.Test.YtookapglookphaaDoorXkW
namespace Go.Proofs.YtookapglookphaaDoor
section
open Go Go.RowKit

/-- The document's Reader at block c reads bs (in block g): it stands where p and why say. -/
def QR (w : World) (c : Nat) (g : Option Nat) (bs : List UInt8) (p : Nat) (why : Int) : Prop :=
  ∃ (v : Value) (q : Nat) (rf : Bool) (y z : Int), w.heap[c]? = some (.cells #[v, .int .i64 q, .bool rf, .int .i64 y, .int .i64 z] 67 (0, 0)) ∧ BSl w v bs ∧ v.ownBlock = g ∧ g ≠ some c ∧ q ≤ bs.length ∧ bs.length ≤ 1000000000000 ∧
    ((rf = false ∧ why = 0 ∧ q = p) ∨ (rf = true ∧ why ≠ 0 ∧ y = why ∧ z = p))

theorem QR.lt {w : World} {c : Nat} {g : Option Nat} {bs : List UInt8} {p : Nat} {why : Int} (h : QR w c g bs p why) : c < w.heap.size := by
  obtain ⟨v, q, rf, y, z, h1, _⟩ := h
  exact lt_of_block h1
theorem QR.keep {S : Nat → Prop} {w w' : World} {c : Nat} {g : Option Nat} {bs : List UInt8} {p : Nat} {why : Int} (h : QR w c g bs p why) (hk : Keeps S w w') (ha : ¬ S c) (hg : ∀ k, g = some k → ¬ S k) : QR w' c g bs p why := by
  have hlt := h.lt
  obtain ⟨v, q, rf, y, z, h1, h2, rfl, h4, h5⟩ := h
  exact ⟨v, q, rf, y, z, (hk.block c hlt ha).trans h1, h2.keep hk hg, rfl, h4, h5⟩
theorem QR.same {w w' : World} {c : Nat} {g : Option Nat} {bs : List UInt8} {p : Nat} {why : Int} (h : QR w c g bs p why) (hk : Keeps (fun _ => False) w w') : QR w' c g bs p why := h.keep hk (fun h => h) (fun _ _ h => h)
theorem QR.fresh {w w' : World} {c : Nat} {g : Option Nat} {bs : List UInt8} {p : Nat} {why : Int} (h : QR w c g bs p why) (hb : Below w.heap.size w w') : QR w' c g bs p why := h.same (Keeps.ofFresh hb)

structure QTook (c : Nat) (g : Option Nat) (bs : List UInt8) (p : Nat) (why : Int) (w w' : World) : Prop where
  state : QR w' c g bs p why
  keeps : Keeps (fun k => k = c) w w'
theorem QTook.trans {c : Nat} {g : Option Nat} {bs : List UInt8} {p1 p2 : Nat} {y1 y2 : Int} {w w1 w2 : World} (h : QTook c g bs p1 y1 w w1) (k : QTook c g bs p2 y2 w1 w2) : QTook c g bs p2 y2 w w2 := ⟨k.state, h.keeps.trans k.keeps⟩
theorem QTook.fresh {c : Nat} {g : Option Nat} {bs : List UInt8} {p1 : Nat} {y1 : Int} {w w1 w2 : World} (h : QTook c g bs p1 y1 w w1) (hb : Below w1.heap.size w1 w2) : QTook c g bs p1 y1 w w2 := ⟨h.state.fresh hb, h.keeps.trans (Keeps.ofFresh hb)⟩

theorem cells5 {w : World} {a : Nat} {t : TypeId} {v0 v1 v2 v3 v4 : Value} (h : w.heap[a]? = some (.cells #[v0, v1, v2, v3, v4] t (0, 0))) :
    w.cell? ⟨a, 0, none⟩ = some v0 ∧ w.cell? ⟨a, 1, none⟩ = some v1 ∧ w.cell? ⟨a, 2, none⟩ = some v2 ∧ w.cell? ⟨a, 3, none⟩ = some v3 ∧ w.cell? ⟨a, 4, none⟩ = some v4 ∧ ∀ j, w.frozen? ⟨a, j, none⟩ = false := by
  refine ⟨?_, ?_, ?_, ?_, ?_, fun j => by simp [World.frozen?, h]⟩ <;> simp [World.cell?, h]
theorem set5 {w : World} {a : Nat} {t : TypeId} {v0 v1 v2 v3 v4 : Value} (h : w.heap[a]? = some (.cells #[v0, v1, v2, v3, v4] t (0, 0))) (x y z : Value) :
    (((w.setCell ⟨a, 2, none⟩ x).setCell ⟨a, 3, none⟩ y).setCell ⟨a, 4, none⟩ z).heap[a]? = some (.cells #[v0, v1, x, y, z] t (0, 0)) := by
  simp only [World.setCell, Array.getElem?_modify, if_true, h]
  simp
theorem set5p {w : World} {a : Nat} {t : TypeId} {v0 v1 v2 v3 v4 : Value} (h : w.heap[a]? = some (.cells #[v0, v1, v2, v3, v4] t (0, 0))) (y : Value) :
    (w.setCell ⟨a, 1, none⟩ y).heap[a]? = some (.cells #[v0, y, v2, v3, v4] t (0, 0)) := by
  simp only [World.setCell, Array.getElem?_modify, if_true, h]
  simp

set_option maxHeartbeats 400000 in
theorem qrefuse_c (y : Int) (hy : y ≠ 0) (q : Nat) (w : World) {c : Nat} {g : Option Nat} {bs : List UInt8} {p : Nat} (h : QR w c g bs p 0) :
    Calls Tryd.prog 58 #[.pointer (some ⟨c, 0, none⟩), .int .i64 y, .int .i64 q] w fun e w' => e = .returned (.tuple #[]) ∧ QTook c g bs q y w w' := by
  obtain ⟨v, q0, rf, y0, z0, h1, h2, rfl, h4, h5, h6, (⟨rfl, _, rfl⟩ | ⟨_, h7, _⟩)⟩ := h
  · obtain ⟨c0, c1, c2, c3, c4, hf⟩ := cells5 h1
    go_enter Tryd.func58, Tryd.ntmps58
    go_wp2
    go_end0
    have hk : Keeps (fun k => k = c) w (((w.setCell ⟨c, 2, none⟩ (.bool true)).setCell ⟨c, 3, none⟩ (.int .i64 y)).setCell ⟨c, 4, none⟩ (.int .i64 q)) :=
      Keeps.setCell (S := fun k => k = c) (p := ⟨c, 4, none⟩) (Keeps.setCell (S := fun k => k = c) (p := ⟨c, 3, none⟩) (Keeps.setCell (S := fun k => k = c) (p := ⟨c, 2, none⟩) (Keeps.refl _ _) (.inl rfl) _) (.inl rfl) _) (.inl rfl) _
    exact ⟨rfl, ⟨v, q0, true, y, q, set5 h1 _ _ _, h2.keep hk (fun k e hS => h4 (by rw [e, hS])), rfl, h4, h5, h6, .inr ⟨rfl, hy, rfl, rfl⟩⟩, hk⟩
  · exact absurd rfl h7

set_option maxHeartbeats 400000 in
theorem qrefuse_no (y : Int) (q : Int) (w : World) {c : Nat} {g : Option Nat} {bs : List UInt8} {p : Nat} {why : Int} (hw : why ≠ 0) (h : QR w c g bs p why) :
    Calls Tryd.prog 58 #[.pointer (some ⟨c, 0, none⟩), .int .i64 y, .int .i64 q] w fun e w' => e = .returned (.tuple #[]) ∧ w' = w := by
  obtain ⟨v, q0, rf, y0, z0, h1, h2, rfl, h4, h5, h6, (⟨_, h7, _⟩ | ⟨rfl, h7, rfl, rfl⟩)⟩ := h
  · exact absurd h7 hw
  · obtain ⟨c0, c1, c2, c3, c4, hf⟩ := cells5 h1
    go_enter Tryd.func58, Tryd.ntmps58
    go_wp2
    go_end0
    exact ⟨rfl, rfl⟩

/-- What the document's Raw answers: fresh bytes. -/
def QRaw (c : Nat) (g : Option Nat) (bs : List UInt8) (r : List UInt8 × Nat × Int) (xs : List UInt8) (w : World) (e : Ending) (w' : World) : Prop :=
  ∃ v', e = .returned v' ∧ BSl w' v' xs ∧ (∀ k, v'.ownBlock = some k → w.heap.size ≤ k) ∧ QTook c g bs r.2.1 r.2.2 w w'

set_option maxHeartbeats 400000 in
theorem qraw_no (n : Int) (w : World) {c : Nat} {g : Option Nat} {bs : List UInt8} {p : Nat} {why : Int} (h : QR w c g bs p why) (hw : why ≠ 0 ∨ n ≤ 0) :
    Calls Tryd.prog 59 #[.pointer (some ⟨c, 0, none⟩), .int .i64 n] w fun e w' => QRaw c g bs ([], p, why) [] w e w' := by
  have H := h
  obtain ⟨v, q0, rf, y0, z0, h1, h2, rfl, h4, h5, h6, h7⟩ := h
  obtain ⟨c0, c1, c2, c3, c4, hf⟩ := cells5 h1
  cases rf with
  | true =>
    go_enter Tryd.func59, Tryd.ntmps59
    go_wp2
    go_ret
    exact ⟨_, rfl, bsl_none _, (fun k e => by cases e), H, Keeps.refl _ _⟩
  | false =>
    have hn : n ≤ 0 := by
      rcases h7 with ⟨_, h8, _⟩ | ⟨h8, _⟩
      · exact hw.resolve_left (fun h => h h8)
      · cases h8
    go_enter Tryd.func59, Tryd.ntmps59
    go_wp2
    go_ret
    exact ⟨_, rfl, bsl_none _, (fun k e => by cases e), H, Keeps.refl _ _⟩

set_option maxHeartbeats 800000 in
set_option maxRecDepth 100000 in
theorem qraw_end (n : Int) (_hn1 : n ≤ 1000000000000) (w : World) {c : Nat} {g : Option Nat} {bs : List UInt8} {p : Nat} (h : QR w c g bs p 0) (hl : ((bs.length - p : Nat) : Int) < n) :
    Calls Tryd.prog 59 #[.pointer (some ⟨c, 0, none⟩), .int .i64 n] w fun e w' => QRaw c g bs ([], bs.length, 10) [] w e w' := by
  have H := h
  obtain ⟨v, q0, rf, y0, z0, h1, h2, rfl, h4, h5, h6, h7⟩ := h
  obtain ⟨c0, c1, c2, c3, c4, hf⟩ := cells5 h1
  obtain ⟨ao, cap, rfl, _⟩ := id h2
  rcases h7 with ⟨rfl, _, rfl⟩ | ⟨_, h8, _⟩
  · have hn0 : ¬ n ≤ 0 := by omega
    have hl2 : (bs.length : Int) - (q0 : Int) < n := by omega
    go_enter Tryd.func59, Tryd.ntmps59
    go_wp2
    go_quiet (fail)
    have HD : Hid (QR (w.drewN nq) c (Value.slice ao bs.length cap).ownBlock bs q0 0) := H.same ((Keeps.refl _ _).drewN nq)
    go_wp2_with fail
    refine (qrefuse_c 10 (by omega) bs.length _ HD.out).mono ?_
    rintro e w2 ⟨rfl, ht⟩
    go_wp2
    go_ret
    exact ⟨_, rfl, bsl_none _, (fun k e => by cases e), ht.state, ((Keeps.refl _ _).drewN nq).trans ht.keeps⟩
  · exact absurd rfl h8

theorem wrap_small (x : Int) (h0 : 0 ≤ x) (h1 : x ≤ 4000000000000) : IntKind.i64.wrap x = x := by
  simp [IntKind.wrap, IntKind.bits, IntKind.signed]
  omega

theorem srcLen {P : Program} {size : Nat} {tx : TypeId} {x : Value} {m n : Nat} {news : List Value} {w : World} (e : m = n) (h : Src P size tx x m news w) : Src P size tx x n news w := e ▸ h

set_option maxHeartbeats 1600000 in
set_option maxRecDepth 100000 in
theorem qraw_yes (n : Nat) (hn : 0 < n) (w : World) {c : Nat} {g : Option Nat} {bs : List UInt8} {p : Nat} (h : QR w c g bs p 0) (hl : n ≤ bs.length - p) :
    Calls Tryd.prog 59 #[.pointer (some ⟨c, 0, none⟩), .int .i64 n] w fun e w' => QRaw c g bs ((bs.drop p).take n, p + n, 0) ((bs.drop p).take n) w e w' := by
  obtain ⟨i0, hi, hz0, hz1, hz2⟩ := info_parts Tryd.infoU8
  have H := h
  obtain ⟨v, q0, rf, y0, z0, h1, h2, rfl, h4, h5, h6, h7⟩ := h
  obtain ⟨c0, c1, c2, c3, c4, hf⟩ := cells5 h1
  obtain ⟨ao, cap, rfl, hcp, hcm, _⟩ := id h2
  unfold maxLen at hcm
  rcases h7 with ⟨rfl, _, rfl⟩ | ⟨_, h8, _⟩
  · have hn0 : ¬ (n : Int) ≤ 0 := by omega
    have hl2 : ¬ (bs.length : Int) - (q0 : Int) < (n : Int) := by omega
    have hcap : ¬ cap = q0 := by omega
    have hi0 : (0 : Int) ≤ (q0 : Int) := Int.natCast_nonneg _
    have hi1 : (q0 : Int) ≤ (q0 : Int) + (n : Int) := by omega
    have hi2 : (q0 : Int) + (n : Int) ≤ (cap : Int) := by omega
    have hlen : ((bs.drop q0).take n).length = n := by simp; omega
    have HC : Hid (BSl w (.slice (Option.map (fun x => x.add q0) ao) n (cap - q0)) ((bs.drop q0).take n)) := h2.cut hl (by omega)
    have hclt := lt_of_block h1
    go_enter Tryd.func59, Tryd.ntmps59
    go_wp2
    go_quiet (fail)
    have hkd : Keeps (fun _ => False) w (w.drewN nq) := (Keeps.refl _ _).drewN nq
    have h1d : (w.drewN nq).heap[c]? = some (.cells #[.slice ao bs.length cap, .int .i64 q0, .bool false, .int .i64 y0, .int .i64 z0] 67 (0, 0)) := h1
    have HCd : Hid (BSl (w.drewN nq) (.slice (Option.map (fun x => x.add q0) ao) n (cap - q0)) ((bs.drop q0).take n)) := HC.out.keep hkd (fun _ _ h => h)
    have HBd : Hid (BSl (w.drewN nq) (.slice ao bs.length cap) bs) := h2.keep hkd (fun _ _ h => h)
    have HK : Hid (Keeps (fun _ => False) w (w.drewN nq)) := hkd
    clear c0 c1 c2 c3 c4 hf hkd HC h2 H h1
    generalize w.drewN nq = wd at *
    obtain ⟨c0, c1, c2, c3, c4, hf⟩ := cells5 h1d
    have hclt2 := lt_of_block h1d
    have hwrap : IntKind.i64.wrap ((q0 : Int) + (n : Int)) = (q0 : Int) + (n : Int) := wrap_small _ (by omega) (by omega)
    go_wp2_with fail
    go_region_held3 (fun w' => w'.cell? ⟨c, 0, none⟩ = some (.slice ao bs.length cap) ∧ w'.cell? ⟨c, 1, none⟩ = some (.int .i64 q0))
      (first
        | go_keep
        | (go_split_ands
           refine ⟨?_, ?_⟩
           · (rw [hgrow1.cell_far _ (by simp; omega) (by simp [Value.ownBlock]; omega)]; assumption)
           · (rw [hgrow1.cell_far _ (by simp; omega) (by simp [Value.ownBlock]; omega)]; assumption)))
      ((refine step_append_src _ (by rfl) (.tmp 33) (.tmp 48) 22 22 (by rfl) wd.heap.size 5 i0 _ 1 Tryd.underlying22 hi hz0 hz1 hz2 rfl _ _ _ (by rfl) ((World.ownsRow_made wd #[] 0 (Nat.le_refl _) (Nat.zero_le _) rfl).drew) _ n (bcells ((bs.drop q0).take n)) (by simp [Act.eval]; omega) (srcLen hlen (BSl.src ((HCd.out.alloc _).fresh ((Below.refl _ _).drew)))) (by unfold maxLen; omega) (by omega) (by simp) (wd.heap.size + 1) (by simp) ?_; intro v1 w1 ho1 hgrow1 hnil1 hat1))
    have hb1 : Below wd.heap.size wd w1 := (((Below.refl _ wd).alloc (Nat.le_refl _) _).drew).grown hgrow1 (by simp) (by intro k hk; simp [Value.ownBlock] at hk; omega)
    have h1e : w1.heap[c]? = some (.cells #[.slice ao bs.length cap, .int .i64 q0, .bool false, .int .i64 y0, .int .i64 z0] 67 (0, 0)) := (hb1.block c hclt2).trans h1d
    have ho2 : w1.ownsRow wd.heap.size 5 1 v1 n (bcells ((bs.drop q0).take n)) := by simpa using ho1
    have HV : Hid (w1.ownsRow wd.heap.size 5 1 v1 n (bcells ((bs.drop q0).take n))) := ho2
    have HB1 : Hid (Below wd.heap.size wd w1) := hb1
    clear ho1 hgrow1 hnil1 hat1 hb1 ho2 c0 c1 c2 c3 c4 hf h1d
    obtain ⟨c0, c1, c2, c3, c4, hf⟩ := cells5 h1e
    go_wp2
    go_ret
    have hk2 : Keeps (fun k => k = c) w (w1.setCell ⟨c, 1, none⟩ (.int .i64 ((q0 : Int) + (n : Int)))) :=
      Keeps.setCell (S := fun k => k = c) (p := ⟨c, 1, none⟩) ((HK.out.mono fun _ _ h => h.elim).trans (Keeps.ofFresh HB1.out)) (.inl rfl) _
    have hks : Keeps (fun k => k = c) w1 (w1.setCell ⟨c, 1, none⟩ (.int .i64 ((q0 : Int) + (n : Int)))) := Keeps.setCell (S := fun k => k = c) (p := ⟨c, 1, none⟩) (Keeps.refl _ _) (.inl rfl) _
    have hvlt : ∀ k, v1.ownBlock = some k → wd.heap.size ≤ k := fun k hk => (HV.out.lt k hk).1
    refine ⟨v1, rfl, (BSl.ofRow HV.out).keep hks (fun k hk e => by have := hvlt k hk; omega), fun k hk => Nat.le_trans HK.out.size (hvlt k hk), ⟨⟨_, q0 + n, false, y0, z0, set5p h1e _, ?_, rfl, h4, by omega, h6, .inl ⟨rfl, rfl, rfl⟩⟩, hk2⟩⟩
    exact (HBd.out.fresh HB1.out).keep hks (fun k hk e => h4 (by rw [hk, e]))
  · exact absurd rfl h8

theorem qraw_c (n : Int) (hn1 : n ≤ 1000000000000) (w : World) {c : Nat} {g : Option Nat} {bs : List UInt8} {p : Nat} {why : Int} (h : QR w c g bs p why) :
    Calls Tryd.prog 59 #[.pointer (some ⟨c, 0, none⟩), .int .i64 n] w fun e w' => QRaw c g bs (tk bs p why n.toNat) (tk bs p why n.toNat).1 w e w' := by
  have hp : why = 0 → p ≤ bs.length := by
    obtain ⟨_, q, _, _, _, _, _, _, _, h5, _, h7⟩ := h
    rintro rfl
    rcases h7 with ⟨_, _, rfl⟩ | ⟨_, h8, _⟩
    · exact h5
    · exact absurd rfl h8
  by_cases hw : why = 0
  · by_cases hn : n ≤ 0
    · subst hw
      have e : tk bs p 0 n.toNat = ([], p, 0) := by
        have h0 : n.toNat = 0 := by omega
        unfold tk; rw [if_pos rfl, h0, if_neg (by omega)]; rfl
      rw [e]
      exact qraw_no n w h (.inr hn)
    · subst hw
      by_cases hl : ((bs.length - p : Nat) : Int) < n
      · have e : tk bs p 0 n.toNat = ([], bs.length, 10) := by unfold tk; rw [if_pos rfl, if_pos (by omega)]
        rw [e]
        exact qraw_end n hn1 w h hl
      · have e : tk bs p 0 n.toNat = ((bs.drop p).take n.toNat, p + n.toNat, 0) := by unfold tk; rw [if_pos rfl, if_neg (by omega)]
        rw [e]
        obtain ⟨m, rfl⟩ := Int.eq_ofNat_of_zero_le (show 0 ≤ n by omega)
        rw [Int.toNat_natCast]
        exact qraw_yes m (by omega) w h (by omega)
  · have e : tk bs p why n.toNat = ([], p, why) := by unfold tk; rw [if_neg hw]
    rw [e]
    exact qraw_no n w h (.inl hw)
end
section
open Go Go.RowKit

theorem valFrom_snoc (xs : List UInt8) : ∀ m x, valFrom m (xs ++ [x]) = valFrom m xs * 256 + x.toNat := by
  induction xs with
  | nil => intro m x; rfl
  | cons y ys ih => intro m x; exact ih _ x
theorem val_take_succ (xs : List UInt8) (k : Nat) (h : k < xs.length) : val (xs.take (k + 1)) = val (xs.take k) * 256 + xs[k].toNat := by
  rw [List.take_succ_eq_append_getElem h]
  exact valFrom_snoc _ 0 _

set_option maxHeartbeats 800000 in
set_option maxRecDepth 100000 in
theorem qnumber_c (k : Nat) (hk : k ≤ 8) (w : World) {c : Nat} {g : Option Nat} {bs : List UInt8} {p : Nat} {why : Int} (h : QR w c g bs p why) :
    Calls Tryd.prog 56 #[.pointer (some ⟨c, 0, none⟩), .int .i64 k] w fun e w' => e = .returned (.int .u64 (val (tk bs p why k).1)) ∧ QTook c g bs (tk bs p why k).2.1 (tk bs p why k).2.2 w w' := by
  have HT := qraw_c (k : Int) (by omega) w h
  rw [Int.toNat_natCast] at HT
  have hlen : (tk bs p why k).1.length ≤ 8 := Nat.le_trans (tk_len bs p why k) hk
  generalize tk bs p why k = r at *
  have HTH : Hid (Calls _ _ _ _ _) := HT
  clear h HT
  go_enter Tryd.func56, Tryd.ntmps56
  go_wp2_with fail
  refine HTH.out.mono ?_
  rintro e w1 ⟨v1, rfl, hb1, ho1, ht1⟩
  have HR : Hid (QTook c g bs r.2.1 r.2.2 w w1) := ht1
  have HB : Hid (BSl w1 v1 r.1) := hb1
  obtain ⟨ao, cap, rfl, hc1, hc2, _⟩ := id hb1
  obtain ⟨xs, hxs⟩ : ∃ xs, r.1 = xs := ⟨_, rfl⟩
  have HV : Hid (val xs = val r.1) := by rw [hxs]; rfl
  rw [hxs] at HB hlen hc1 ⊢
  unfold maxLen at hc2
  clear ht1 ho1 hb1 HTH hxs
  go_wp2
  go_loop [6, 7] (fun x i => ∃ j : Nat, j ≤ xs.length ∧ i = .int .i64 j ∧ x = .int .u64 (val (xs.take j))) (fun _ i => xs.length - (intOf i).toNat)
  case atStart => exact ⟨0, Nat.zero_le _, rfl, rfl⟩
  case round =>
    obtain ⟨j, hj, rfl, rfl⟩ := hrel
    by_cases hlt : j < xs.length
    · have hne : xs ≠ [] := by rintro rfl; simp at hlt
      obtain ⟨ao', cap', e', _, _, _, hcc⟩ := id HB.out
      cases e'
      obtain ⟨b, off, rfl, hcell⟩ : ∃ b off, ao = some ⟨b, off, none⟩ ∧ True := by
        cases ao with
        | none => obtain ⟨_, _, e2, _, _, h3, _⟩ := HB.out; cases e2; exact absurd (h3 rfl).1 hne
        | some ad => obtain ⟨b, off, rfl, _⟩ := hcc ad rfl hne; exact ⟨b, off, rfl, trivial⟩
      have hc := HB.out.cellAt j hlt
      have hs := val_take_succ xs j hlt
      have hv : val (xs.take j) < 256 ^ 7 := val_lt _ 7 (by simp; omega)
      have hm3 : ((val (xs.take j) : Nat) : Int) ≤ 72057594037927935 := by omega
      have HS : Hid (val (xs.take (j + 1)) = val (xs.take j) * 256 + xs[j].toNat) := hs
      have HOB := or_byte (val (xs.take j)) xs[j] (by omega)
      have HOB2 : Hid (_ = _) := HOB
      clear hs hv HOB hcc
      generalize val (xs.take j) = m at *
      go_wp2
      go_round
      case rel => exact ⟨j + 1, by omega, by go_num, by rw [HS.out, ← HOB2.out]⟩
      case measure => simp [intOf]; omega
    · have hje : j = xs.length := by omega
      subst hje
      rw [List.take_length]
      go_wp2
      go_ret
      exact ⟨by rw [← HV.out]; rfl, HR.out⟩

def QPost (c : Nat) (g : Option Nat) (bs : List UInt8) (r : List UInt8 × Nat × Int) (x : Value) (w : World) (e : Ending) (w' : World) : Prop := e = .returned x ∧ QTook c g bs r.2.1 r.2.2 w w'

set_option maxHeartbeats 400000 in
theorem qbyte_c (w : World) {a : Nat} {g : Option Nat} {bs : List UInt8} {p : Nat} {why : Int} (h : QR w a g bs p why) :
    Calls Tryd.prog 30 #[.pointer (some ⟨a, 0, none⟩)] w fun e w' => QPost a g bs (tk bs p why 1) (.int .i64 (val (tk bs p why 1).1)) w e w' := by
  have HN := qnumber_c 1 (by omega) w h
  have hv := val_lt _ 1 (tk_len bs p why 1)
  generalize tk bs p why 1 = r at *
  generalize val r.1 = x at *
  go_enter Tryd.func30, Tryd.ntmps30
  go_wp2_with fail
  refine HN.mono ?_
  rintro e w1 ⟨rfl, ht⟩
  have hx : (x : Int) ≤ 255 := by omega
  go_wp2
  go_ret
  exact ⟨rfl, ht⟩

set_option maxHeartbeats 400000 in
theorem qu32_c (w : World) {a : Nat} {g : Option Nat} {bs : List UInt8} {p : Nat} {why : Int} (h : QR w a g bs p why) :
    Calls Tryd.prog 57 #[.pointer (some ⟨a, 0, none⟩)] w fun e w' => QPost a g bs (tk bs p why 4) (.int .u32 (val (tk bs p why 4).1)) w e w' := by
  have HN := qnumber_c 4 (by omega) w h
  have hv := val_lt _ 4 (tk_len bs p why 4)
  generalize tk bs p why 4 = r at *
  generalize val r.1 = x at *
  go_enter Tryd.func57, Tryd.ntmps57
  go_wp2_with fail
  refine HN.mono ?_
  rintro e w1 ⟨rfl, ht⟩
  have hx : (x : Int) < 4294967296 := by omega
  go_wp2
  go_ret
  exact ⟨rfl, ht⟩

set_option maxHeartbeats 800000 in
theorem qend_c (w : World) {c : Nat} {g : Option Nat} {bs : List UInt8} {p : Nat} {why : Int} (h : QR w c g bs p why) :
    Calls Tryd.prog 60 #[.pointer (some ⟨c, 0, none⟩)] w fun e w' => e = .returned (.tuple #[.int .i64 (ends bs p why).1, .int .i64 (ends bs p why).2]) ∧ Keeps (fun _ => False) w w' := by
  obtain ⟨v, q0, rf, y0, z0, h1, h2, rfl, h4, h5, h6, h7⟩ := h
  obtain ⟨c0, c1, c2, c3, c4, hf⟩ := cells5 h1
  obtain ⟨ao, cap, rfl, _⟩ := id h2
  rcases h7 with ⟨rfl, rfl, rfl⟩ | ⟨rfl, h8, rfl, rfl⟩
  · by_cases hp : q0 < bs.length
    · have e0 : ends bs q0 0 = (11, q0) := by simp [ends, hp]
      rw [e0]
      have hp1 : (q0 : Int) < (bs.length : Int) := by omega
      go_enter Tryd.func60, Tryd.ntmps60
      go_wp2_with fail
      go_quiet (fail)
      go_wp2_with fail
      go_quiet (fail)
      go_wp2
      go_ret2
      exact ⟨rfl, ((Keeps.refl _ _).drewN _).drewN _⟩
    · have e0 : ends bs q0 0 = (0, 0) := by simp [ends, hp]
      rw [e0]
      have hp1 : ¬ (q0 : Int) < (bs.length : Int) := by omega
      go_enter Tryd.func60, Tryd.ntmps60
      go_wp2_with fail
      go_quiet (fail)
      go_wp2
      go_ret2
      exact ⟨rfl, (Keeps.refl _ _).drewN _⟩
  · have e0 : ends bs p y0 = (y0, p) := by simp [ends, h8]
    rw [e0]
    go_enter Tryd.func60, Tryd.ntmps60
    go_wp2_with fail
    go_quiet (fail)
    go_wp2
    go_ret2
    exact ⟨rfl, (Keeps.refl _ _).drewN _⟩
end
section
open Go Go.RowKit

theorem QR.cell2 {w : World} {c : Nat} {g : Option Nat} {bs : List UInt8} {p : Nat} {why : Int} (h : QR w c g bs p why) : ∃ (q : Nat) (rf : Bool), w.cell? ⟨c, 1, none⟩ = some (.int .i64 q) ∧ w.cell? ⟨c, 2, none⟩ = some (.bool rf) ∧ (why = 0 → rf = false ∧ q = p) ∧ (why ≠ 0 → rf = true) := by
  obtain ⟨v, q0, rf, y0, z0, h1, h2, rfl, h4, h5, h6, h7⟩ := h
  obtain ⟨c0, c1, c2, c3, c4, hf⟩ := cells5 h1
  refine ⟨q0, rf, c1, c2, fun e => ?_, fun e => ?_⟩
  · rcases h7 with ⟨a, _, b⟩ | ⟨_, b, _⟩
    · exact ⟨a, b⟩
    · exact absurd e b
  · rcases h7 with ⟨_, a, _⟩ | ⟨a, _⟩
    · exact absurd a e
    · exact a

set_option maxHeartbeats 1600000 in
set_option maxRecDepth 100000 in
theorem qtext_c (most : Int) (hm0 : -4294967296 ≤ most) (hm1 : most ≤ 1000000000000) (w : World) {c : Nat} {g : Option Nat} {bs : List UInt8} {p : Nat} {why : Int} (h : QR w c g bs p why) :
    Calls Tryd.prog 31 #[.pointer (some ⟨c, 0, none⟩), .int .i64 most] w fun e w' => QPost c g bs (tx bs p why most) (.string ⟨(tx bs p why most).1.toArray⟩) w e w' := by
  have HN : Hid (Calls _ _ _ _ _) := qu32_c w h
  have hv := val_lt _ 4 (tk_len bs p why 4)
  have HO := @tk_ok bs p why 4
  have HX : Hid (tx bs p why most = if most.toNat < val (tk bs p why 4).1 then ([], p, 3) else tk bs (tk bs p why 4).2.1 (tk bs p why 4).2.2 (val (tk bs p why 4).1)) := rfl
  have HV0 : Hid ((tk bs p why 4).2.2 ≠ 0 → val (tk bs p why 4).1 = 0) := by
    intro hne
    rcases Nat.eq_zero_or_pos (val (tk bs p why 4).1) with h0 | h0
    · exact h0
    · exact absurd (tk_ok h0).2 hne
  generalize tx bs p why most = rr at *
  generalize tk bs p why 4 = r at *
  obtain ⟨xs, p1, y1⟩ := r
  simp only at *
  generalize val xs = x at *
  obtain ⟨q, rf, c1, c2, hq0, hq1⟩ := h.cell2
  have hx : (x : Int) ≤ 4294967295 := by omega
  clear hv
  by_cases hlong : most.toNat < x
  · have hy := HO (by omega)
    obtain ⟨rfl, rfl⟩ := hy
    obtain ⟨rfl, rfl⟩ := hq0 rfl
    have hrr : rr = ([], q, 3) := by rw [HX.out, if_pos hlong]
    subst hrr
    clear HO HX HV0 hq0 hq1
    by_cases hneg : most < 0
    · have hlt : 0 < x := by omega
      clear hlong hm0 hm1
      go_enter Tryd.func31, Tryd.ntmps31
      go_wp2_with fail
      refine HN.out.mono ?_
      rintro e w1 ⟨rfl, ht⟩
      obtain ⟨q', rf', c1', c2', hq0', _⟩ := ht.state.cell2
      obtain ⟨rfl, _⟩ := hq0' rfl
      have hst := ht.state
      have HK : Hid (Keeps (fun k => k = c) w w1) := ht.keeps
      clear ht HN c1 c2 hq0'
      go_wp2_with fail
      refine (qrefuse_c 3 (by omega) q _ hst).mono ?_
      rintro e w2 ⟨rfl, ht2⟩
      go_wp2
      go_ret
      exact ⟨rfl, ht2.state, HK.out.trans ht2.keeps⟩
    · have hlt : decide (most < (x : Int)) = true := by simp; omega
      have hm2 : 0 ≤ most := by omega
      clear hlong hm0
      go_enter Tryd.func31, Tryd.ntmps31
      go_wp2_with fail
      refine HN.out.mono ?_
      rintro e w1 ⟨rfl, ht⟩
      obtain ⟨q', rf', c1', c2', hq0', _⟩ := ht.state.cell2
      obtain ⟨rfl, _⟩ := hq0' rfl
      have hst := ht.state
      have HK : Hid (Keeps (fun k => k = c) w w1) := ht.keeps
      clear ht HN c1 c2 hq0'
      go_wp2_with fail
      refine (qrefuse_c 3 (by omega) q _ hst).mono ?_
      rintro e w2 ⟨rfl, ht2⟩
      go_wp2
      go_ret
      exact ⟨rfl, ht2.state, HK.out.trans ht2.keeps⟩
  · have hrr : rr = tk bs p1 y1 x := by rw [HX.out, if_neg hlong]
    subst hrr
    clear HO HX hq0 hq1
    have htlen := tk_len bs p1 y1 x
    have H2 : Hid (∀ w2, QR w2 c g bs p1 y1 → Calls Tryd.prog 59 #[.pointer (some ⟨c, 0, none⟩), .int .i64 x] w2 fun e w' => QRaw c g bs (tk bs p1 y1 x) (tk bs p1 y1 x).1 w2 e w') := by
      intro w2 h2
      have := qraw_c (x : Int) (by omega) w2 h2
      rw [Int.toNat_natCast] at this
      exact this
    generalize tk bs p1 y1 x = r2 at *
    by_cases hneg : most < 0
    · have hx0 : x = 0 := by omega
      subst hx0
      clear hlong hm0 hm1 hx htlen
      go_enter Tryd.func31, Tryd.ntmps31
      go_wp2_with fail
      refine HN.out.mono ?_
      rintro e w1 ⟨rfl, ht⟩
      obtain ⟨q', rf', c1', c2', _, _⟩ := ht.state.cell2
      have hst := ht.state
      have HK : Hid (Keeps (fun k => k = c) w w1) := ht.keeps
      clear ht HN c1 c2
      cases rf'
      all_goals
        go_wp2_with fail
        refine (H2.out _ hst).mono ?_
        rintro e w2 ⟨v2, rfl, hb2, ho2, ht2⟩
        have hcv := run_string hb2
        have HT2 : Hid (QTook c g bs r2.2.1 r2.2.2 w1 w2) := ht2
        clear hb2 ho2 ht2 c1' c2'
        go_wp2
        go_ret
        exact ⟨rfl, HT2.out.state, HK.out.trans HT2.out.keeps⟩
    · have hm2 : 0 ≤ most := by omega
      have hlt : ¬ most < (x : Int) := by omega
      clear hlong hm0 htlen
      go_enter Tryd.func31, Tryd.ntmps31
      go_wp2_with fail
      refine HN.out.mono ?_
      rintro e w1 ⟨rfl, ht⟩
      obtain ⟨q', rf', c1', c2', _, _⟩ := ht.state.cell2
      have hst := ht.state
      have HK : Hid (Keeps (fun k => k = c) w w1) := ht.keeps
      clear ht HN c1 c2
      cases rf'
      all_goals
        go_wp2_with fail
        refine (H2.out _ hst).mono ?_
        rintro e w2 ⟨v2, rfl, hb2, ho2, ht2⟩
        have hcv := run_string hb2
        have HT2 : Hid (QTook c g bs r2.2.1 r2.2.2 w1 w2) := ht2
        clear hb2 ho2 ht2 c1' c2'
        go_wp2
        go_ret
        exact ⟨rfl, HT2.out.state, HK.out.trans HT2.out.keeps⟩
end
end Go.Proofs.YtookapglookphaaDoor
