/- What both Readers' Names answer, and that keep's Texts answers true of equal lists. -/
import Derived.Test.YtnnhffjajbiicaaQrE
import Derived.Test.YtnnhffjajbiicaaQrG
namespace Go.Proofs.Ytnnhffjajbiicaa
open Go Go.RowKit

def nx (bs : List UInt8) (p : Nat) (why : Int) : List (List UInt8) × Nat × Int :=
  match parts (tx bs p why 1000).1 with
  | some ns => (ns, (tx bs p why 1000).2)
  | none => ([], p, 12)

def texts (ns : List (List UInt8)) : List ByteArray := ns.map fun l => ⟨l.toArray⟩
theorem texts_map (ns : List (List UInt8)) : (texts ns).map Value.string = ns.map strV := by simp [texts, strV]
theorem ssl_row {w : World} {base : Nat} {v : Value} {ns : List (List UInt8)} {n : Nat} (h : w.ownsRow base 9 1 v n (ns.map strV)) : SSl w v (texts ns) := SSl.ofRow (by rw [texts_map]; exact h)

/-- What a Reader's Names leaves. -/
def NmPost (a : Nat) (g : Option Nat) (bs : List UInt8) (r : List (List UInt8) × Nat × Int) (w : World) (e : Ending) (w' : World) : Prop :=
  ∃ v', e = .returned v' ∧ SSl w' v' (texts r.1) ∧ (∀ k, v'.ownBlock = some k → w.heap.size ≤ k) ∧ Took a g bs r.2.1 r.2.2 w w'
def QNmPost (c : Nat) (g : Option Nat) (bs : List UInt8) (r : List (List UInt8) × Nat × Int) (w : World) (e : Ending) (w' : World) : Prop :=
  ∃ v', e = .returned v' ∧ SSl w' v' (texts r.1) ∧ (∀ k, v'.ownBlock = some k → w.heap.size ≤ k) ∧ QTook c g bs r.2.1 r.2.2 w w'

theorem ssl_none (w : World) : SSl w (.slice none 0 0) (texts []) := ⟨none, 0, rfl, by simp [texts], by simp [maxLen], fun _ => ⟨rfl, rfl⟩, (fun ad e => by cases e)⟩

theorem parts_some_nil {xs : List UInt8} (h : parts xs = none) : xs ≠ [] := by
  rintro rfl
  simp [parts] at h

set_option maxHeartbeats 800000 in
set_option maxRecDepth 100000 in
theorem names_r (w : World) {a : Nat} {g : Option Nat} {bs : List UInt8} {p : Nat} {why : Int} (h : WR w a g bs p why) :
    Calls Try.prog 47 #[.pointer (some ⟨a, 0, none⟩)] w fun e w' => NmPost a g bs (nx bs p why) w e w' := by
  have HN : Hid (Calls _ _ _ _ _) := textS_r 1000 (by omega) (by omega) w h
  have hlen := tx_len bs p why 1000
  have HO := @tx_ok1 bs p why 1000
  have HX : Hid (nx bs p why = match parts (tx bs p why 1000).1 with | some ns => (ns, (tx bs p why 1000).2) | none => ([], p, 12)) := rfl
  generalize nx bs p why = rr at *
  generalize tx bs p why 1000 = r at *
  obtain ⟨xs, p1, y1⟩ := r
  simp only at *
  obtain ⟨v, h1, h2, rfl, h4, h5, h6⟩ := h
  obtain ⟨c0, c1, c2, hf⟩ := cells3 h1
  have hsz : (⟨xs.toArray⟩ : ByteArray).size = xs.length := size_list xs
  have hle : (⟨xs.toArray⟩ : ByteArray).size ≤ 1000000000 := by rw [hsz]; simp at hlen; omega
  have HS : Hid (∀ w1, Calls Try.prog 71 #[.string ⟨xs.toArray⟩] w1 fun e w' => SplitPost xs w1 e w') := fun w1 => split_c ⟨xs.toArray⟩ hle w1
  clear hlen hsz hle
  cases hps : parts xs with
  | some ns =>
    have hrr : rr = (ns, p1, y1) := by rw [HX.out, hps]
    subst hrr
    have HPS : Hid (parts xs = some ns) := hps
    clear HX HO hps
    go_enter Try.func47, Try.ntmps47
    go_wp2_with fail
    refine HN.out.mono ?_
    rintro e w1 ⟨rfl, ht⟩
    have HT : Hid (Took a v.ownBlock bs p1 y1 w w1) := ht
    clear ht HN c0 c1 c2 hf h1 h2
    go_wp2_with fail
    refine (HS.out w1).mono ?_
    rintro e w2 ⟨v2, rfl, ho2, hb2⟩
    rw [HPS.out] at ho2 ⊢
    have HR : Hid (NmPost a v.ownBlock bs (ns, p1, y1) w (.returned v2) w2) := ⟨v2, rfl, ssl_row ho2, fun k hk => Nat.le_trans HT.out.keeps.size (ho2.lt k hk).1, HT.out.fresh hb2⟩
    clear ho2 hb2 HT HS HPS
    go_wp2
    go_ret
    exact HR.out
  | none =>
    have hy := HO (parts_some_nil hps)
    obtain ⟨rfl, rfl⟩ := hy
    have hrr : rr = ([], p, 12) := by rw [HX.out, hps]
    subst hrr
    have HPS : Hid (parts xs = none) := hps
    clear HX HO hps
    go_enter Try.func47, Try.ntmps47
    go_wp2_with fail
    refine HN.out.mono ?_
    rintro e w1 ⟨rfl, ht⟩
    have HT : Hid (Took a v.ownBlock bs p1 0 w w1) := ht
    clear ht HN c0 c1 c2 hf h1 h2
    go_wp2_with fail
    refine (HS.out w1).mono ?_
    rintro e w2 ⟨v2, rfl, ho2, hb2⟩
    rw [HPS.out] at ho2 ⊢
    have HT2 : Hid (Took a v.ownBlock bs p1 0 w w2) := HT.out.fresh hb2
    have HSS : Hid (SSl w2 v2 (texts [])) := ssl_row ho2
    have HLT : Hid (∀ k, v2.ownBlock = some k → w1.heap.size ≤ k) := fun k hk => (ho2.lt k hk).1
    have HSW : Hid (w.heap.size ≤ w1.heap.size) := HT.out.keeps.size
    have HAW : Hid (a < w1.heap.size) := HT.out.state.lt
    clear ho2 hb2 HT HS HPS
    go_wp2_with fail
    refine (refuse_c 12 p _ HT2.out.state h5).mono ?_
    rintro e w3 ⟨rfl, hw3, hk3⟩
    have HR : Hid (NmPost a v.ownBlock bs ([], p, 12) w (.returned v2) w3) := ⟨v2, rfl, HSS.out.keep hk3 (fun k hk e => by have h7 := HLT.out k hk; have h8 := HAW.out; omega), fun k hk => Nat.le_trans HSW.out (HLT.out k hk), hw3, HT2.out.keeps.trans hk3⟩
    clear hw3 hk3 HT2 HSS HLT HSW HAW
    go_wp2
    go_ret
    exact HR.out

set_option maxHeartbeats 800000 in
set_option maxRecDepth 100000 in
theorem qnames_c (w : World) {c : Nat} {g : Option Nat} {bs : List UInt8} {p : Nat} {why : Int} (h : QR w c g bs p why) :
    Calls Try.prog 59 #[.pointer (some ⟨c, 0, none⟩)] w fun e w' => QNmPost c g bs (nx bs p why) w e w' := by
  have HN : Hid (Calls _ _ _ _ _) := qtext_c 1000 (by omega) (by omega) w h
  have hlen := tx_len bs p why 1000
  have HO := @tx_ok1 bs p why 1000
  have HX : Hid (nx bs p why = match parts (tx bs p why 1000).1 with | some ns => (ns, (tx bs p why 1000).2) | none => ([], p, 12)) := rfl
  generalize nx bs p why = rr at *
  generalize tx bs p why 1000 = r at *
  obtain ⟨xs, p1, y1⟩ := r
  simp only at *
  obtain ⟨q, rf, c1, c2, hq0, hq1⟩ := h.cell2
  have hsz : (⟨xs.toArray⟩ : ByteArray).size = xs.length := size_list xs
  have hle : (⟨xs.toArray⟩ : ByteArray).size ≤ 1000000000 := by rw [hsz]; simp at hlen; omega
  have HS : Hid (∀ w1, Calls Try.prog 79 #[.string ⟨xs.toArray⟩] w1 fun e w' => SplitPost xs w1 e w') := fun w1 => parts_c ⟨xs.toArray⟩ hle w1
  clear hlen hsz hle
  cases hps : parts xs with
  | some ns =>
    have hrr : rr = (ns, p1, y1) := by rw [HX.out, hps]
    subst hrr
    have HPS : Hid (parts xs = some ns) := hps
    clear HX HO hps hq0 hq1
    go_enter Try.func59, Try.ntmps59
    go_wp2_with fail
    refine HN.out.mono ?_
    rintro e w1 ⟨rfl, ht⟩
    have HT : Hid (QTook c g bs p1 y1 w w1) := ht
    clear ht HN c1 c2
    go_wp2_with fail
    refine (HS.out w1).mono ?_
    rintro e w2 ⟨v2, rfl, ho2, hb2⟩
    rw [HPS.out] at ho2 ⊢
    have HR : Hid (QNmPost c g bs (ns, p1, y1) w (.returned v2) w2) := ⟨v2, rfl, ssl_row ho2, fun k hk => Nat.le_trans HT.out.keeps.size (ho2.lt k hk).1, HT.out.fresh hb2⟩
    clear ho2 hb2 HT HS HPS
    go_wp2
    go_ret
    exact HR.out
  | none =>
    have hy := HO (parts_some_nil hps)
    obtain ⟨rfl, rfl⟩ := hy
    obtain ⟨_, hqp⟩ := hq0 rfl
    have hrr : rr = ([], q, 12) := by rw [HX.out, hps, hqp]
    subst hrr
    have HPS : Hid (parts xs = none) := hps
    clear HX HO hps hq0 hq1 hqp
    go_enter Try.func59, Try.ntmps59
    go_wp2_with fail
    refine HN.out.mono ?_
    rintro e w1 ⟨rfl, ht⟩
    have HT : Hid (QTook c g bs p1 0 w w1) := ht
    clear ht HN c1 c2
    go_wp2_with fail
    refine (HS.out w1).mono ?_
    rintro e w2 ⟨v2, rfl, ho2, hb2⟩
    rw [HPS.out] at ho2 ⊢
    have HT2 : Hid (QTook c g bs p1 0 w w2) := HT.out.fresh hb2
    clear ho2 hb2 HT HS HPS
    go_wp2_with fail
    refine (qrefuse_c 12 (by omega) q _ HT2.out.state).mono ?_
    rintro e w3 ⟨rfl, ht3⟩
    have HR : Hid (QNmPost c g bs ([], q, 12) w (.returned (.slice none 0 0)) w3) := ⟨_, rfl, ssl_none _, (fun k e => by cases e), HT2.out.trans ht3⟩
    clear ht3 HT2
    go_wp2
    go_ret
    exact HR.out

theorem SSl.addr {w : World} {ao : Option Addr} {n cap : Nat} {ss : List ByteArray} (h : SSl w (.slice ao n cap) ss) (hne : ss ≠ []) : ∃ b off, ao = some ⟨b, off, none⟩ := by
  obtain ⟨ao, cap, e, _, _, h3, hc⟩ := h
  cases e
  cases ao with
  | none => exact absurd (h3 rfl).1 hne
  | some ad => obtain ⟨b, off, rfl, _⟩ := hc ad rfl hne; exact ⟨b, off, rfl⟩

set_option maxHeartbeats 800000 in
set_option maxRecDepth 100000 in
theorem texts_c (a b : Value) (ss : List ByteArray) (w : World) (ha : SSl w a ss) (hb : SSl w b ss) :
    Calls Try.prog 56 #[a, b] w fun e w' => e = .returned (.bool true) ∧ Keeps (fun _ => False) w w' := by
  have HA : Hid (SSl w a ss) := ha
  have HB : Hid (SSl w b ss) := hb
  obtain ⟨ao, ca, rfl, hca, hcm, _⟩ := ha
  obtain ⟨bo, cb, rfl, hcb, hcn, _⟩ := hb
  unfold maxLen at hcm hcn
  go_enter Try.func56, Try.ntmps56
  go_wp2
  go_loopw [5] (fun i wr => ∃ k : Nat, k ≤ ss.length ∧ i = .int .i64 k ∧ Keeps (fun _ => False) w wr) (fun i _ => ss.length - (intOf i).toNat)
  case atStart => exact ⟨0, Nat.zero_le _, rfl, Keeps.refl _ _⟩
  case round =>
    obtain ⟨k, hk, rfl, hkp⟩ := hrel
    by_cases hlt : k < ss.length
    · have hne : ss ≠ [] := by rintro rfl; simp at hlt
      have HA1 := HA.out.keep hkp (fun _ _ h => h)
      have HB1 := HB.out.keep hkp (fun _ _ h => h)
      obtain ⟨b1, o1, rfl⟩ := HA1.addr hne
      obtain ⟨b2, o2, rfl⟩ := HB1.addr hne
      have k1 := HA1.cellAt k hlt
      have k2 := HB1.cellAt k hlt
      have hi0 : (0 : Int) ≤ (k : Int) := Int.natCast_nonneg _
      have hi1 : (k : Int) < (ss.length : Int) := by omega
      clear HA1 HB1
      go_wp2_with fail
      go_quiet (fail)
      go_wp2
      go_roundw
      case rel => exact ⟨k + 1, by omega, by go_num, hkp.drewN nq⟩
      case measure => simp [intOf]; omega
    · go_wp2
      go_ret
      exact ⟨rfl, hkp⟩

end Go.Proofs.Ytnnhffjajbiicaa
