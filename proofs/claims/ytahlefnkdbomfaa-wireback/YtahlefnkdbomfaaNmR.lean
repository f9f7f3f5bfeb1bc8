/- What the Reader's Names answers. -/
import Derived.Test.YtahlefnkdbomfaaRdN
import Derived.Test.YtahlefnkdbomfaaRdM
namespace Go.Proofs.Ytahlefnkdbomfaa
open Go Go.RowKit

def nx (bs : List UInt8) (p : Nat) (why : Int) : List (List UInt8) × Nat × Int :=
  match parts (tx bs p why 1000).1 with
  | some ns => (ns, (tx bs p why 1000).2)
  | none => ([], p, 12)

def texts (ns : List (List UInt8)) : List ByteArray := ns.map fun l => ⟨l.toArray⟩
theorem texts_map (ns : List (List UInt8)) : (texts ns).map Value.string = ns.map strV := by simp [texts, strV]
theorem ssl_row {w : World} {base : Nat} {v : Value} {ns : List (List UInt8)} {n : Nat} (h : w.ownsRow base 9 1 v n (ns.map strV)) : SSl w v (texts ns) := SSl.ofRow (by rw [texts_map]; exact h)

/-- What a Reader's Names leaves. -/
def NmPost (a : Nat) (g : Option Nat) (bs : List UInt8) (r : List (List UInt8) × Nat × Int) (w : World) (e : Ending) (w' : World) : Prop :=
  ∃ v', e = .returned v' ∧ SSl w' v' (texts r.1) ∧ (∀ k, v'.ownBlock = some k → w.heap.size ≤ k) ∧ Took a g bs r.2.1 r.2.2 w w'

theorem ssl_none (w : World) : SSl w (.slice none 0 0) (texts []) := ⟨none, 0, rfl, by simp [texts], by simp [maxLen], fun _ => ⟨rfl, rfl⟩, (fun ad e => by cases e)⟩

theorem parts_some_nil {xs : List UInt8} (h : parts xs = none) : xs ≠ [] := by
  rintro rfl
  simp [parts] at h

set_option maxHeartbeats 800000 in
set_option maxRecDepth 100000 in
theorem names_r (w : World) {a : Nat} {g : Option Nat} {bs : List UInt8} {p : Nat} {why : Int} (h : WR w a g bs p why) :
    Calls Try.prog 23 #[.pointer (some ⟨a, 0, none⟩)] w fun e w' => NmPost a g bs (nx bs p why) w e w' := by
  have HN : Hid (Calls _ _ _ _ _) := textS_r 1000 (by omega) (by omega) w h
  have hlen := tx_len bs p why 1000
  have HO := @tx_ok1 bs p why 1000
  have HX : Hid (nx bs p why = match parts (tx bs p why 1000).1 with | some ns => (ns, (tx bs p why 1000).2) | none => ([], p, 12)) := rfl
  generalize nx bs p why = rr at *
  generalize tx bs p why 1000 = r at *
  obtain ⟨xs, p1, y1⟩ := r
  simp only at *
  obtain ⟨v, h1, h2, rfl, h4, h5, h6⟩ := h
  obtain ⟨c0, c1, c2, hf⟩ := cells3 h1
  have hsz : (⟨xs.toArray⟩ : ByteArray).size = xs.length := size_list xs
  have hle : (⟨xs.toArray⟩ : ByteArray).size ≤ 1000000000 := by rw [hsz]; simp at hlen; omega
  have HS : Hid (∀ w1, Calls Try.prog 37 #[.string ⟨xs.toArray⟩] w1 fun e w' => SplitPost xs w1 e w') := fun w1 => split_c ⟨xs.toArray⟩ hle w1
  clear hlen hsz hle
  cases hps : parts xs with
  | some ns =>
    have hrr : rr = (ns, p1, y1) := by rw [HX.out, hps]
    subst hrr
    have HPS : Hid (parts xs = some ns) := hps
    clear HX HO hps
    go_enter Try.func23, Try.ntmps23
    go_wp2_with fail
    refine HN.out.mono ?_
    rintro e w1 ⟨rfl, ht⟩
    have HT : Hid (Took a v.ownBlock bs p1 y1 w w1) := ht
    clear ht HN c0 c1 c2 hf h1 h2
    go_wp2_with fail
    refine (HS.out w1).mono ?_
    rintro e w2 ⟨v2, rfl, ho2, hb2⟩
    rw [HPS.out] at ho2 ⊢
    have HR : Hid (NmPost a v.ownBlock bs (ns, p1, y1) w (.returned v2) w2) := ⟨v2, rfl, ssl_row ho2, fun k hk => Nat.le_trans HT.out.keeps.size (ho2.lt k hk).1, HT.out.fresh hb2⟩
    clear ho2 hb2 HT HS HPS
    go_wp2
    go_ret
    exact HR.out
  | none =>
    have hy := HO (parts_some_nil hps)
    obtain ⟨rfl, rfl⟩ := hy
    have hrr : rr = ([], p, 12) := by rw [HX.out, hps]
    subst hrr
    have HPS : Hid (parts xs = none) := hps
    clear HX HO hps
    go_enter Try.func23, Try.ntmps23
    go_wp2_with fail
    refine HN.out.mono ?_
    rintro e w1 ⟨rfl, ht⟩
    have HT : Hid (Took a v.ownBlock bs p1 0 w w1) := ht
    clear ht HN c0 c1 c2 hf h1 h2
    go_wp2_with fail
    refine (HS.out w1).mono ?_
    rintro e w2 ⟨v2, rfl, ho2, hb2⟩
    rw [HPS.out] at ho2 ⊢
    have HT2 : Hid (Took a v.ownBlock bs p1 0 w w2) := HT.out.fresh hb2
    have HSS : Hid (SSl w2 v2 (texts [])) := ssl_row ho2
    have HLT : Hid (∀ k, v2.ownBlock = some k → w1.heap.size ≤ k) := fun k hk => (ho2.lt k hk).1
    have HSW : Hid (w.heap.size ≤ w1.heap.size) := HT.out.keeps.size
    have HAW : Hid (a < w1.heap.size) := HT.out.state.lt
    clear ho2 hb2 HT HS HPS
    go_wp2_with fail
    refine (refuse_c 12 p _ HT2.out.state h5).mono ?_
    rintro e w3 ⟨rfl, hw3, hk3⟩
    have HR : Hid (NmPost a v.ownBlock bs ([], p, 12) w (.returned v2) w3) := ⟨v2, rfl, HSS.out.keep hk3 (fun k hk e => by have h7 := HLT.out k hk; have h8 := HAW.out; omega), fun k hk => Nat.le_trans HSW.out (HLT.out k hk), hw3, HT2.out.keeps.trans hk3⟩
    clear hw3 hk3 HT2 HSS HLT HSW HAW
    go_wp2
    go_ret
    exact HR.out


end Go.Proofs.Ytahlefnkdbomfaa
