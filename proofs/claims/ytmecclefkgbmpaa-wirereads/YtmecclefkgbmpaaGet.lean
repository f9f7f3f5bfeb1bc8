/- What get and same answer of two Readers that stand alike. -/
import Derived.Test.YtmecclefkgbmpaaQrH
import Derived.Test.YtmecclefkgbmpaaPutB
import Derived.Deep.RegionWith
namespace Go.Proofs.Ytmecclefkgbmpaa
open Go Go.RowKit

/-- Two Readers that stand alike: the program's at a, the document's at c. -/
structure Both (w : World) (a : Nat) (ga : Option Nat) (c : Nat) (gc : Option Nat) (bs cs : List UInt8) (p : Nat) (why : Int) : Prop where
  one : WR w a ga bs p why
  two : QR w c gc cs p why
  ne : a ≠ c
  ac : ga ≠ some c
  ca : gc ≠ some a
  eq : why = 0 → bs = cs

theorem tk_no (bs : List UInt8) (p : Nat) {why : Int} (n : Nat) (h : why ≠ 0) : tk bs p why n = ([], p, why) := by unfold tk; rw [if_neg h]
theorem tk_eq {bs cs : List UInt8} (p : Nat) {why : Int} (n : Nat) (h : why = 0 → bs = cs) : tk bs p why n = tk cs p why n := by
  by_cases hw : why = 0
  · rw [h hw]
  · rw [tk_no bs p n hw, tk_no cs p n hw]
theorem tx_no (bs : List UInt8) (p : Nat) {why : Int} (m : Int) (h : why ≠ 0) : tx bs p why m = ([], p, why) := by
  unfold tx
  rw [tk_no bs p 4 h]
  simp [val, valFrom, tk_no bs p 0 h]
theorem tx_eq {bs cs : List UInt8} (p : Nat) {why : Int} (m : Int) (h : why = 0 → bs = cs) : tx bs p why m = tx cs p why m := by
  by_cases hw : why = 0
  · rw [h hw]
  · rw [tx_no bs p m hw, tx_no cs p m hw]
theorem mx_no (bs : List UInt8) (p : Nat) {why : Int} (m : Int) (h : why ≠ 0) : mx bs p why m = ([], p, why) := by
  unfold mx
  rw [tx_no bs p m h]
  rfl
theorem mx_eq {bs cs : List UInt8} (p : Nat) {why : Int} (m : Int) (h : why = 0 → bs = cs) : mx bs p why m = mx cs p why m := by
  by_cases hw : why = 0
  · rw [h hw]
  · rw [mx_no bs p m hw, mx_no cs p m hw]
theorem nx_no (bs : List UInt8) (p : Nat) {why : Int} (h : why ≠ 0) : nx bs p why = ([], p, why) := by
  unfold nx
  rw [tx_no bs p 1000 h]
  rfl
theorem nx_eq {bs cs : List UInt8} (p : Nat) {why : Int} (h : why = 0 → bs = cs) : nx bs p why = nx cs p why := by
  by_cases hw : why = 0
  · rw [h hw]
  · rw [nx_no bs p hw, nx_no cs p hw]
theorem lft_eq {bs cs : List UInt8} (p : Nat) {why : Int} (h : why = 0 → bs = cs) : lft bs p why = lft cs p why := by
  by_cases hw : why = 0
  · rw [h hw]
  · simp [lft, hw]
theorem ends_eq {bs cs : List UInt8} (p : Nat) {why : Int} (h : why = 0 → bs = cs) : ends bs p why = ends cs p why := by
  by_cases hw : why = 0
  · rw [h hw]
  · simp [ends, hw]

theorem Both.same {w w' : World} {a : Nat} {ga : Option Nat} {c : Nat} {gc : Option Nat} {bs cs : List UInt8} {p : Nat} {why : Int} (h : Both w a ga c gc bs cs p why) (hk : Keeps (fun _ => False) w w') : Both w' a ga c gc bs cs p why :=
  ⟨h.one.same hk, h.two.same hk, h.ne, h.ac, h.ca, h.eq⟩
theorem Both.fresh {w w' : World} {a : Nat} {ga : Option Nat} {c : Nat} {gc : Option Nat} {bs cs : List UInt8} {p : Nat} {why : Int} (h : Both w a ga c gc bs cs p why) (hb : Below w.heap.size w w') : Both w' a ga c gc bs cs p why := h.same (Keeps.ofFresh hb)

/-- The program's Reader has read; the document's is untouched. -/
theorem Both.mid {w w1 : World} {a : Nat} {ga : Option Nat} {c : Nat} {gc : Option Nat} {bs cs : List UInt8} {p : Nat} {why : Int} (h : Both w a ga c gc bs cs p why) {p1 : Nat} {y1 : Int} (ht : Took a ga bs p1 y1 w w1) : QR w1 c gc cs p why :=
  h.two.keep ht.keeps (fun e => h.ne e.symm) (fun k hk e => h.ca (by rw [hk, e]))
/-- Both have read alike. -/
theorem Both.next {w w1 w2 : World} {a : Nat} {ga : Option Nat} {c : Nat} {gc : Option Nat} {bs cs : List UInt8} {p : Nat} {why : Int} (h : Both w a ga c gc bs cs p why) {p1 : Nat} {y1 : Int} (ht : Took a ga bs p1 y1 w w1) (hq : QTook c gc cs p1 y1 w1 w2) (hy : why ≠ 0 → p1 = p ∧ y1 = why) :
    Both w2 a ga c gc bs cs p1 y1 ∧ Keeps (fun k => k = a ∨ k = c) w w2 := by
  refine ⟨⟨ht.state.keep hq.keeps h.ne (fun k hk e => h.ac (by rw [hk, e])), hq.state, h.ne, h.ac, h.ca, fun e => h.eq ?_⟩, (ht.keeps.mono fun _ _ e => .inl e).trans (hq.keeps.mono fun _ _ e => .inr e)⟩
  by_cases hw : why = 0
  · exact hw
  · rw [(hy hw).2] at e; exact absurd e hw

def GetPost (w : World) (a : Nat) (ga : Option Nat) (c : Nat) (gc : Option Nat) (bs cs : List UInt8) (p : Nat) (why : Int) (e : Ending) (w' : World) : Prop :=
  e = .returned (.bool true) ∧ ∃ p1 y1, Both w' a ga c gc bs cs p1 y1 ∧ Keeps (fun k => k = a ∨ k = c) w w' ∧ (why ≠ 0 → p1 = p ∧ y1 = why)

set_option maxHeartbeats 800000 in
set_option maxRecDepth 100000 in
theorem same_c (w : World) {a : Nat} {ga : Option Nat} {c : Nat} {gc : Option Nat} {bs cs : List UInt8} {p : Nat} {why : Int} (h : Both w a ga c gc bs cs p why) :
    Calls Try.prog 11 #[.pointer (some ⟨a, 0, none⟩), .pointer (some ⟨c, 0, none⟩)] w fun e w' => e = .returned (.bool true) ∧ Keeps (fun _ => False) w w' := by
  have he := ends_eq p h.eq
  have hl := lft_eq p h.eq
  have H1 : Hid (∀ w', Keeps (fun _ => False) w w' → Calls Try.prog 14 #[.pointer (some ⟨a, 0, none⟩)] w' fun e w2 => e = .returned (.tuple #[.int .i64 (ends cs p why).1, .int .i64 (ends cs p why).2]) ∧ Keeps (fun _ => False) w' w2) := fun w' hk => by
    have := end_r w' (h.one.same hk); rwa [he] at this
  have H2 : Hid (∀ w', Keeps (fun _ => False) w w' → Calls Try.prog 55 #[.pointer (some ⟨c, 0, none⟩)] w' fun e w2 => e = .returned (.tuple #[.int .i64 (ends cs p why).1, .int .i64 (ends cs p why).2]) ∧ Keeps (fun _ => False) w' w2) := fun w' hk => qend_c w' (h.two.same hk)
  have H3 : Hid (∀ w', Keeps (fun _ => False) w w' → Calls Try.prog 15 #[.pointer (some ⟨a, 0, none⟩)] w' fun e w2 => e = .returned (.int .i64 (lft cs p why)) ∧ Keeps (fun _ => False) w' w2) := fun w' hk => by
    have := left_c w' (h.one.same hk); rwa [hl] at this
  have H4 : Hid (∀ w', Keeps (fun _ => False) w w' → Calls Try.prog 56 #[.pointer (some ⟨c, 0, none⟩)] w' fun e w2 => e = .returned (.int .i64 (lft cs p why)) ∧ Keeps (fun _ => False) w' w2) := fun w' hk => qleft_c w' (h.two.same hk)
  clear he hl h
  generalize ends cs p why = E at *
  generalize lft cs p why = L at *
  obtain ⟨E1, E2⟩ := E
  go_enter Try.func11, Try.ntmps11
  go_wp2_with fail
  refine (H1.out _ (Keeps.refl _ _)).mono ?_
  rintro e w1 ⟨rfl, hk1⟩
  go_wp2_with fail
  refine (H2.out _ hk1).mono ?_
  rintro e w2 ⟨rfl, hk2⟩
  go_wp2_with fail
  refine (H3.out _ (hk1.trans hk2)).mono ?_
  rintro e w3 ⟨rfl, hk3⟩
  go_wp2_with fail
  refine (H4.out _ ((hk1.trans hk2).trans hk3)).mono ?_
  rintro e w4 ⟨rfl, hk4⟩
  go_wp2
  go_ret
  exact ⟨rfl, ((hk1.trans hk2).trans hk3).trans hk4⟩

theorem hidden {p : Prop} (h : p) : Hid p := h

theorem arg_bounds (n : Int) : -4294967296 ≤ wrap64 (wrap32 n) ∧ wrap64 (wrap32 n) ≤ 1000000000000 := by
  unfold wrap64 wrap32
  omega

theorem get_end {w W w1 w2 : World} {a : Nat} {ga : Option Nat} {c : Nat} {gc : Option Nat} {bs cs : List UInt8} {p : Nat} {why : Int} {p1 : Nat} {y1 : Int} (hk : Keeps (fun _ => False) w W) (h : Both W a ga c gc bs cs p why) (ht : Took a ga bs p1 y1 W w1) (hq : QTook c gc cs p1 y1 w1 w2) (hy : why ≠ 0 → p1 = p ∧ y1 = why) :
    GetPost w a ga c gc bs cs p why (.returned (.bool true)) w2 := by
  obtain ⟨h1, h2⟩ := h.next ht hq hy
  exact ⟨rfl, p1, y1, h1, (hk.mono fun _ _ e => e.elim).trans h2, hy⟩

set_option maxHeartbeats 1600000 in
set_option maxRecDepth 100000 in
theorem get1_c {n : Int} {s : ByteArray} {l : Value} {w : World} {a : Nat} {ga : Option Nat} {c : Nat} {gc : Option Nat} {bs cs : List UInt8} {p : Nat} {why : Int} (h : Both w a ga c gc bs cs p why) :
    Calls Try.prog 10 #[.pointer (some ⟨a, 0, none⟩), .pointer (some ⟨c, 0, none⟩), part 1 n s l] w fun e w' => GetPost w a ga c gc bs cs p why e w' := by
  have HA : Hid (∀ W, WR W a ga bs p why → Calls Try.prog 12 #[.pointer (some ⟨a, 0, none⟩)] W fun e w' => RdPost a ga bs (tk bs p why 1) (.int .i64 (val (tk bs p why 1).1)) W e w') := fun W hw => byte_r W hw
  have HQ : Hid (∀ W, QR W c gc cs p why → Calls Try.prog 44 #[.pointer (some ⟨c, 0, none⟩)] W fun e w' => QPost c gc cs (tk bs p why 1) (.int .i64 (val (tk bs p why 1).1)) W e w') := fun W hw => by have := qbyte_c W hw; rwa [← tk_eq p 1 h.eq] at this
  have HY : Hid (why ≠ 0 → (tk bs p why 1).2.1 = p ∧ (tk bs p why 1).2.2 = why) := fun hw => by rw [tk_no bs p 1 hw]; exact ⟨rfl, rfl⟩
  have hk : Keeps (fun _ => False) w (w.alloc (.cells #[.int .i64 1, .int .u64 n, .string s, l] 34)) := (Keeps.refl _ _).alloc _
  have HB := h.same hk
  have HK : Hid (Keeps (fun _ => False) w (w.alloc (.cells #[.int .i64 1, .int .u64 n, .string s, l] 34))) := hk
  have HBH : Hid (Both (w.alloc (.cells #[.int .i64 1, .int .u64 n, .string s, l] 34)) a ga c gc bs cs p why) := HB
  clear hk HB h
  generalize tk bs p why 1 = r at *
  generalize val r.1 = x at *
  unfold part
  go_enter Try.func10, Try.ntmps10
  go_wp2_with fail
  refine (HA.out _ HBH.out.one).mono ?_
  rintro e w1 ⟨rfl, ht⟩
  have HT : Hid (Took a ga bs r.2.1 r.2.2 (w.alloc (.cells #[.int .i64 1, .int .u64 n, .string s, l] 34)) w1) := ht
  clear ht
  go_wp2_with fail
  refine (HQ.out _ (HBH.out.mid HT.out)).mono ?_
  rintro e w2 ⟨rfl, hq⟩
  have HR : Hid (GetPost w a ga c gc bs cs p why (.returned (.bool true)) w2) := get_end HK.out HBH.out HT.out hq HY.out
  clear hq HT HK HBH HA HQ HY
  go_wp2
  go_ret
  exact HR.out

set_option maxHeartbeats 1600000 in
set_option maxRecDepth 100000 in
theorem get2_c {n : Int} {s : ByteArray} {l : Value} {w : World} {a : Nat} {ga : Option Nat} {c : Nat} {gc : Option Nat} {bs cs : List UInt8} {p : Nat} {why : Int} (h : Both w a ga c gc bs cs p why) :
    Calls Try.prog 10 #[.pointer (some ⟨a, 0, none⟩), .pointer (some ⟨c, 0, none⟩), part 2 n s l] w fun e w' => GetPost w a ga c gc bs cs p why e w' := by
  have HA : Hid (∀ W, WR W a ga bs p why → Calls Try.prog 40 #[.pointer (some ⟨a, 0, none⟩)] W fun e w' => RdPost a ga bs (tk bs p why 1) (.bool (((val (tk bs p why 1).1 : Nat) : Int) != 0)) W e w') := fun W hw => bool_r W hw
  have HQ : Hid (∀ W, QR W c gc cs p why → Calls Try.prog 45 #[.pointer (some ⟨c, 0, none⟩)] W fun e w' => QPost c gc cs (tk bs p why 1) (.bool (((val (tk bs p why 1).1 : Nat) : Int) != 0)) W e w') := fun W hw => by have := qbool_c W hw; rwa [← tk_eq p 1 h.eq] at this
  have HY : Hid (why ≠ 0 → (tk bs p why 1).2.1 = p ∧ (tk bs p why 1).2.2 = why) := fun hw => by rw [tk_no bs p 1 hw]; exact ⟨rfl, rfl⟩
  have hk : Keeps (fun _ => False) w (w.alloc (.cells #[.int .i64 2, .int .u64 n, .string s, l] 34)) := (Keeps.refl _ _).alloc _
  have HB := h.same hk
  have HK : Hid (Keeps (fun _ => False) w (w.alloc (.cells #[.int .i64 2, .int .u64 n, .string s, l] 34))) := hk
  have HBH : Hid (Both (w.alloc (.cells #[.int .i64 2, .int .u64 n, .string s, l] 34)) a ga c gc bs cs p why) := HB
  clear hk HB h
  generalize tk bs p why 1 = r at *
  generalize val r.1 = x at *
  unfold part
  go_enter Try.func10, Try.ntmps10
  go_wp2_with fail
  refine (HA.out _ HBH.out.one).mono ?_
  rintro e w1 ⟨rfl, ht⟩
  have HT : Hid (Took a ga bs r.2.1 r.2.2 (w.alloc (.cells #[.int .i64 2, .int .u64 n, .string s, l] 34)) w1) := ht
  clear ht
  go_wp2_with fail
  refine (HQ.out _ (HBH.out.mid HT.out)).mono ?_
  rintro e w2 ⟨rfl, hq⟩
  have HR : Hid (GetPost w a ga c gc bs cs p why (.returned (.bool true)) w2) := get_end HK.out HBH.out HT.out hq HY.out
  clear hq HT HK HBH HA HQ HY
  go_wp2
  go_ret
  exact HR.out

set_option maxHeartbeats 1600000 in
set_option maxRecDepth 100000 in
theorem get3_c {n : Int} {s : ByteArray} {l : Value} {w : World} {a : Nat} {ga : Option Nat} {c : Nat} {gc : Option Nat} {bs cs : List UInt8} {p : Nat} {why : Int} (h : Both w a ga c gc bs cs p why) :
    Calls Try.prog 10 #[.pointer (some ⟨a, 0, none⟩), .pointer (some ⟨c, 0, none⟩), part 3 n s l] w fun e w' => GetPost w a ga c gc bs cs p why e w' := by
  have HA : Hid (∀ W, WR W a ga bs p why → Calls Try.prog 34 #[.pointer (some ⟨a, 0, none⟩)] W fun e w' => RdPost a ga bs (tk bs p why 4) (.int .u32 (val (tk bs p why 4).1)) W e w') := fun W hw => u32_r W hw
  have HQ : Hid (∀ W, QR W c gc cs p why → Calls Try.prog 46 #[.pointer (some ⟨c, 0, none⟩)] W fun e w' => QPost c gc cs (tk bs p why 4) (.int .u32 (val (tk bs p why 4).1)) W e w') := fun W hw => by have := qu32_c W hw; rwa [← tk_eq p 4 h.eq] at this
  have HY : Hid (why ≠ 0 → (tk bs p why 4).2.1 = p ∧ (tk bs p why 4).2.2 = why) := fun hw => by rw [tk_no bs p 4 hw]; exact ⟨rfl, rfl⟩
  have hk : Keeps (fun _ => False) w (w.alloc (.cells #[.int .i64 3, .int .u64 n, .string s, l] 34)) := (Keeps.refl _ _).alloc _
  have HB := h.same hk
  have HK : Hid (Keeps (fun _ => False) w (w.alloc (.cells #[.int .i64 3, .int .u64 n, .string s, l] 34))) := hk
  have HBH : Hid (Both (w.alloc (.cells #[.int .i64 3, .int .u64 n, .string s, l] 34)) a ga c gc bs cs p why) := HB
  clear hk HB h
  generalize tk bs p why 4 = r at *
  generalize val r.1 = x at *
  unfold part
  go_enter Try.func10, Try.ntmps10
  go_wp2_with fail
  refine (HA.out _ HBH.out.one).mono ?_
  rintro e w1 ⟨rfl, ht⟩
  have HT : Hid (Took a ga bs r.2.1 r.2.2 (w.alloc (.cells #[.int .i64 3, .int .u64 n, .string s, l] 34)) w1) := ht
  clear ht
  go_wp2_with fail
  refine (HQ.out _ (HBH.out.mid HT.out)).mono ?_
  rintro e w2 ⟨rfl, hq⟩
  have HR : Hid (GetPost w a ga c gc bs cs p why (.returned (.bool true)) w2) := get_end HK.out HBH.out HT.out hq HY.out
  clear hq HT HK HBH HA HQ HY
  go_wp2
  go_ret
  exact HR.out

set_option maxHeartbeats 1600000 in
set_option maxRecDepth 100000 in
theorem get4_c {n : Int} {s : ByteArray} {l : Value} {w : World} {a : Nat} {ga : Option Nat} {c : Nat} {gc : Option Nat} {bs cs : List UInt8} {p : Nat} {why : Int} (h : Both w a ga c gc bs cs p why) :
    Calls Try.prog 10 #[.pointer (some ⟨a, 0, none⟩), .pointer (some ⟨c, 0, none⟩), part 4 n s l] w fun e w' => GetPost w a ga c gc bs cs p why e w' := by
  have HA : Hid (∀ W, WR W a ga bs p why → Calls Try.prog 35 #[.pointer (some ⟨a, 0, none⟩)] W fun e w' => RdPost a ga bs (tk bs p why 8) (.int .u64 (val (tk bs p why 8).1)) W e w') := fun W hw => u64_r W hw
  have HQ : Hid (∀ W, QR W c gc cs p why → Calls Try.prog 47 #[.pointer (some ⟨c, 0, none⟩)] W fun e w' => QPost c gc cs (tk bs p why 8) (.int .u64 (val (tk bs p why 8).1)) W e w') := fun W hw => by have := qu64_c W hw; rwa [← tk_eq p 8 h.eq] at this
  have HY : Hid (why ≠ 0 → (tk bs p why 8).2.1 = p ∧ (tk bs p why 8).2.2 = why) := fun hw => by rw [tk_no bs p 8 hw]; exact ⟨rfl, rfl⟩
  have hk : Keeps (fun _ => False) w (w.alloc (.cells #[.int .i64 4, .int .u64 n, .string s, l] 34)) := (Keeps.refl _ _).alloc _
  have HB := h.same hk
  have HK : Hid (Keeps (fun _ => False) w (w.alloc (.cells #[.int .i64 4, .int .u64 n, .string s, l] 34))) := hk
  have HBH : Hid (Both (w.alloc (.cells #[.int .i64 4, .int .u64 n, .string s, l] 34)) a ga c gc bs cs p why) := HB
  clear hk HB h
  generalize tk bs p why 8 = r at *
  generalize val r.1 = x at *
  unfold part
  go_enter Try.func10, Try.ntmps10
  go_wp2_with fail
  refine (HA.out _ HBH.out.one).mono ?_
  rintro e w1 ⟨rfl, ht⟩
  have HT : Hid (Took a ga bs r.2.1 r.2.2 (w.alloc (.cells #[.int .i64 4, .int .u64 n, .string s, l] 34)) w1) := ht
  clear ht
  go_wp2_with fail
  refine (HQ.out _ (HBH.out.mid HT.out)).mono ?_
  rintro e w2 ⟨rfl, hq⟩
  have HR : Hid (GetPost w a ga c gc bs cs p why (.returned (.bool true)) w2) := get_end HK.out HBH.out HT.out hq HY.out
  clear hq HT HK HBH HA HQ HY
  go_wp2
  go_ret
  exact HR.out

set_option maxHeartbeats 1600000 in
set_option maxRecDepth 100000 in
theorem get5_c {n : Int} {s : ByteArray} {l : Value} {w : World} {a : Nat} {ga : Option Nat} {c : Nat} {gc : Option Nat} {bs cs : List UInt8} {p : Nat} {why : Int} (h : Both w a ga c gc bs cs p why) :
    Calls Try.prog 10 #[.pointer (some ⟨a, 0, none⟩), .pointer (some ⟨c, 0, none⟩), part 5 n s l] w fun e w' => GetPost w a ga c gc bs cs p why e w' := by
  obtain ⟨hm0, hm1⟩ := arg_bounds n
  obtain ⟨m, hm⟩ : ∃ m, wrap64 (wrap32 n) = m := ⟨_, rfl⟩
  rw [hm] at hm0 hm1
  have HM : Hid (wrap64 (wrap32 n) = m) := hm
  have HA : Hid (∀ W, WR W a ga bs p why → Calls Try.prog 36 #[.pointer (some ⟨a, 0, none⟩), .int .i64 m] W fun e w' => RdPost a ga bs (tx bs p why m) (.string ⟨(tx bs p why m).1.toArray⟩) W e w') := fun W hw => textS_r m hm0 hm1 W hw
  have HQ : Hid (∀ W, QR W c gc cs p why → Calls Try.prog 48 #[.pointer (some ⟨c, 0, none⟩), .int .i64 m] W fun e w' => QPost c gc cs (tx bs p why m) (.string ⟨(tx bs p why m).1.toArray⟩) W e w') := fun W hw => by have := qtext_c m hm0 hm1 W hw; rwa [← tx_eq p m h.eq] at this
  have HY : Hid (why ≠ 0 → (tx bs p why m).2.1 = p ∧ (tx bs p why m).2.2 = why) := fun hw => by rw [tx_no bs p m hw]; exact ⟨rfl, rfl⟩
  have hk : Keeps (fun _ => False) w (w.alloc (.cells #[.int .i64 5, .int .u64 n, .string s, l] 34)) := (Keeps.refl _ _).alloc _
  have HBH : Hid (Both (w.alloc (.cells #[.int .i64 5, .int .u64 n, .string s, l] 34)) a ga c gc bs cs p why) := h.same hk
  have HK : Hid (Keeps (fun _ => False) w (w.alloc (.cells #[.int .i64 5, .int .u64 n, .string s, l] 34))) := hk
  clear hk h hm hm0 hm1
  generalize tx bs p why m = r at *
  unfold part
  go_enter Try.func10, Try.ntmps10
  go_wp2_with fail
  rw [HM.out]
  refine (HA.out _ HBH.out.one).mono ?_
  rintro e w1 ⟨rfl, ht⟩
  have HT : Hid (Took a ga bs r.2.1 r.2.2 (w.alloc (.cells #[.int .i64 5, .int .u64 n, .string s, l] 34)) w1) := ht
  clear ht
  go_wp2_with fail
  refine (HQ.out _ (HBH.out.mid HT.out)).mono ?_
  rintro e w2 ⟨rfl, hq⟩
  have HR : Hid (GetPost w a ga c gc bs cs p why (.returned (.bool true)) w2) := get_end HK.out HBH.out HT.out hq HY.out
  clear hq HT HK HBH HA HQ HY HM
  go_wp2
  go_ret
  exact HR.out

set_option maxHeartbeats 1600000 in
set_option maxRecDepth 100000 in
theorem get6_c {n : Int} {s : ByteArray} {l : Value} {w : World} {a : Nat} {ga : Option Nat} {c : Nat} {gc : Option Nat} {bs cs : List UInt8} {p : Nat} {why : Int} (h : Both w a ga c gc bs cs p why) :
    Calls Try.prog 10 #[.pointer (some ⟨a, 0, none⟩), .pointer (some ⟨c, 0, none⟩), part 6 n s l] w fun e w' => GetPost w a ga c gc bs cs p why e w' := by
  obtain ⟨hm0, hm1⟩ := arg_bounds n
  obtain ⟨m, hm⟩ : ∃ m, wrap64 (wrap32 n) = m := ⟨_, rfl⟩
  rw [hm] at hm0 hm1
  have HM : Hid (wrap64 (wrap32 n) = m) := hm
  have HA : Hid (∀ W, WR W a ga bs p why → Calls Try.prog 37 #[.pointer (some ⟨a, 0, none⟩), .int .i64 m] W fun e w' => RawPost a ga bs (mx bs p why m) (mx bs p why m).1 W e w') := fun W hw => mpint_r m hm0 hm1 W hw
  have HQ : Hid (∀ W, QR W c gc cs p why → Calls Try.prog 49 #[.pointer (some ⟨c, 0, none⟩), .int .i64 m] W fun e w' => QRaw c gc cs (mx bs p why m) (mx bs p why m).1 W e w') := fun W hw => by have := qmpint_c m hm0 hm1 W hw; rwa [← mx_eq p m h.eq] at this
  have HY : Hid (why ≠ 0 → (mx bs p why m).2.1 = p ∧ (mx bs p why m).2.2 = why) := fun hw => by rw [mx_no bs p m hw]; exact ⟨rfl, rfl⟩
  have hk : Keeps (fun _ => False) w (w.alloc (.cells #[.int .i64 6, .int .u64 n, .string s, l] 34)).drew := ((Keeps.refl _ _).alloc _).drew
  have HBH : Hid (Both (w.alloc (.cells #[.int .i64 6, .int .u64 n, .string s, l] 34)).drew a ga c gc bs cs p why) := h.same hk
  have HK : Hid (Keeps (fun _ => False) w (w.alloc (.cells #[.int .i64 6, .int .u64 n, .string s, l] 34)).drew) := hk
  have HCL : Hid (c < (w.alloc (.cells #[.int .i64 6, .int .u64 n, .string s, l] 34)).drew.heap.size) := HBH.out.two.lt
  clear hk h hm hm0 hm1
  generalize mx bs p why m = r at *
  unfold part
  go_enter Try.func10, Try.ntmps10
  go_wp2_with fail
  rw [HM.out]
  go_region_with (first | (go_at_call 37; refine (HA.out _ HBH.out.one).mono ?_; rintro e w1 ⟨v1, rfl, hb1, ho1, ht1⟩; have hcv1 := run_string hb1; have HB1 := hidden hb1; have HO1 := hidden ho1; have HT1 := hidden ht1; clear hb1 ho1 ht1) | (go_at_call 49; refine (HQ.out _ (HBH.out.mid HT1.out)).mono ?_; rintro e w2 ⟨v2, rfl, hb2, ho2, hq2⟩; have hcv2 := run_string hb2; have hcv3 := run_string (HB1.out.keep hq2.keeps (fun k hk e => by have h7 := HO1.out k hk; have h8 := HCL.out; omega)); have HQ2 := hidden hq2; clear hb2 ho2 hq2))
  all_goals
    have HR : Hid (GetPost w a ga c gc bs cs p why (.returned (.bool true)) w2) := get_end HK.out HBH.out HT1.out HQ2.out HY.out
    clear HQ2 HT1 HK HBH HA HQ HY HB1 HO1 HCL
    go_wp2
    go_ret
    exact HR.out

set_option maxHeartbeats 1600000 in
set_option maxRecDepth 100000 in
theorem get8_c {n : Int} {s : ByteArray} {l : Value} {w : World} {a : Nat} {ga : Option Nat} {c : Nat} {gc : Option Nat} {bs cs : List UInt8} {p : Nat} {why : Int} (h : Both w a ga c gc bs cs p why) :
    Calls Try.prog 10 #[.pointer (some ⟨a, 0, none⟩), .pointer (some ⟨c, 0, none⟩), part 8 n s l] w fun e w' => GetPost w a ga c gc bs cs p why e w' := by
  obtain ⟨hm0, hm1⟩ := arg_bounds n
  obtain ⟨m, hm⟩ : ∃ m, wrap64 (wrap32 n) = m := ⟨_, rfl⟩
  rw [hm] at hm0 hm1
  have HM : Hid (wrap64 (wrap32 n) = m) := hm
  have HA : Hid (∀ W, WR W a ga bs p why → Calls Try.prog 41 #[.pointer (some ⟨a, 0, none⟩), .int .i64 m] W fun e w' => RawPost a ga bs (tk bs p why m.toNat) (tk bs p why m.toNat).1 W e w') := fun W hw => raw_r m hm0 hm1 W hw
  have HQ : Hid (∀ W, QR W c gc cs p why → Calls Try.prog 51 #[.pointer (some ⟨c, 0, none⟩), .int .i64 m] W fun e w' => QRaw c gc cs (tk bs p why m.toNat) (tk bs p why m.toNat).1 W e w') := fun W hw => by have := qraw_c m hm1 W hw; rwa [← tk_eq p m.toNat h.eq] at this
  have HY : Hid (why ≠ 0 → (tk bs p why m.toNat).2.1 = p ∧ (tk bs p why m.toNat).2.2 = why) := fun hw => by rw [tk_no bs p m.toNat hw]; exact ⟨rfl, rfl⟩
  have hk : Keeps (fun _ => False) w (w.alloc (.cells #[.int .i64 8, .int .u64 n, .string s, l] 34)).drew := ((Keeps.refl _ _).alloc _).drew
  have HBH : Hid (Both (w.alloc (.cells #[.int .i64 8, .int .u64 n, .string s, l] 34)).drew a ga c gc bs cs p why) := h.same hk
  have HK : Hid (Keeps (fun _ => False) w (w.alloc (.cells #[.int .i64 8, .int .u64 n, .string s, l] 34)).drew) := hk
  have HCL : Hid (c < (w.alloc (.cells #[.int .i64 8, .int .u64 n, .string s, l] 34)).drew.heap.size) := HBH.out.two.lt
  clear hk h hm hm0 hm1
  generalize tk bs p why m.toNat = r at *
  unfold part
  go_enter Try.func10, Try.ntmps10
  go_wp2_with fail
  rw [HM.out]
  go_region_with (first | (go_at_call 41; refine (HA.out _ HBH.out.one).mono ?_; rintro e w1 ⟨v1, rfl, hb1, ho1, ht1⟩; have hcv1 := run_string hb1; have HB1 := hidden hb1; have HO1 := hidden ho1; have HT1 := hidden ht1; clear hb1 ho1 ht1) | (go_at_call 51; refine (HQ.out _ (HBH.out.mid HT1.out)).mono ?_; rintro e w2 ⟨v2, rfl, hb2, ho2, hq2⟩; have hcv2 := run_string hb2; have hcv3 := run_string (HB1.out.keep hq2.keeps (fun k hk e => by have h7 := HO1.out k hk; have h8 := HCL.out; omega)); have HQ2 := hidden hq2; clear hb2 ho2 hq2))
  all_goals
    have HR : Hid (GetPost w a ga c gc bs cs p why (.returned (.bool true)) w2) := get_end HK.out HBH.out HT1.out HQ2.out HY.out
    clear HQ2 HT1 HK HBH HA HQ HY HB1 HO1 HCL
    go_wp2
    go_ret
    exact HR.out

set_option maxHeartbeats 1600000 in
set_option maxRecDepth 100000 in
theorem get9_c {n : Int} {s : ByteArray} {l : Value} {w : World} {a : Nat} {ga : Option Nat} {c : Nat} {gc : Option Nat} {bs cs : List UInt8} {p : Nat} {why : Int} (h : Both w a ga c gc bs cs p why) :
    Calls Try.prog 10 #[.pointer (some ⟨a, 0, none⟩), .pointer (some ⟨c, 0, none⟩), part 9 n s l] w fun e w' => GetPost w a ga c gc bs cs p why e w' := by
  have HA : Hid (∀ W, WR W a ga bs p why → Calls Try.prog 52 #[.pointer (some ⟨a, 0, none⟩)] W fun e w' => RawPost a ga bs (tk bs p why (lft bs p why)) (tk bs p why (lft bs p why)).1 W e w') := fun W hw => rest_r W hw
  have HQ : Hid (∀ W, QR W c gc cs p why → Calls Try.prog 53 #[.pointer (some ⟨c, 0, none⟩)] W fun e w' => QRaw c gc cs (tk bs p why (lft bs p why)) (tk bs p why (lft bs p why)).1 W e w') := fun W hw => by have := qrest_c W hw; rwa [← lft_eq p h.eq, ← tk_eq p (lft bs p why) h.eq] at this
  have HY : Hid (why ≠ 0 → (tk bs p why (lft bs p why)).2.1 = p ∧ (tk bs p why (lft bs p why)).2.2 = why) := fun hw => by rw [tk_no bs p (lft bs p why) hw]; exact ⟨rfl, rfl⟩
  have hk : Keeps (fun _ => False) w (w.alloc (.cells #[.int .i64 9, .int .u64 n, .string s, l] 34)).drew := ((Keeps.refl _ _).alloc _).drew
  have HBH : Hid (Both (w.alloc (.cells #[.int .i64 9, .int .u64 n, .string s, l] 34)).drew a ga c gc bs cs p why) := h.same hk
  have HK : Hid (Keeps (fun _ => False) w (w.alloc (.cells #[.int .i64 9, .int .u64 n, .string s, l] 34)).drew) := hk
  have HCL : Hid (c < (w.alloc (.cells #[.int .i64 9, .int .u64 n, .string s, l] 34)).drew.heap.size) := HBH.out.two.lt
  clear hk h
  generalize tk bs p why (lft bs p why) = r at *
  unfold part
  go_enter Try.func10, Try.ntmps10
  go_wp2_with fail
  skip
  go_region_with (first | (go_at_call 52; refine (HA.out _ HBH.out.one).mono ?_; rintro e w1 ⟨v1, rfl, hb1, ho1, ht1⟩; have hcv1 := run_string hb1; have HB1 := hidden hb1; have HO1 := hidden ho1; have HT1 := hidden ht1; clear hb1 ho1 ht1) | (go_at_call 53; refine (HQ.out _ (HBH.out.mid HT1.out)).mono ?_; rintro e w2 ⟨v2, rfl, hb2, ho2, hq2⟩; have hcv2 := run_string hb2; have hcv3 := run_string (HB1.out.keep hq2.keeps (fun k hk e => by have h7 := HO1.out k hk; have h8 := HCL.out; omega)); have HQ2 := hidden hq2; clear hb2 ho2 hq2))
  all_goals
    have HR : Hid (GetPost w a ga c gc bs cs p why (.returned (.bool true)) w2) := get_end HK.out HBH.out HT1.out HQ2.out HY.out
    clear HQ2 HT1 HK HBH HA HQ HY HB1 HO1 HCL
    go_wp2
    go_ret
    exact HR.out

set_option maxHeartbeats 1600000 in
set_option maxRecDepth 100000 in
theorem get7_c {n : Int} {s : ByteArray} {l : Value} {w : World} {a : Nat} {ga : Option Nat} {c : Nat} {gc : Option Nat} {bs cs : List UInt8} {p : Nat} {why : Int} (h : Both w a ga c gc bs cs p why) :
    Calls Try.prog 10 #[.pointer (some ⟨a, 0, none⟩), .pointer (some ⟨c, 0, none⟩), part 7 n s l] w fun e w' => GetPost w a ga c gc bs cs p why e w' := by
  have HA : Hid (∀ W, WR W a ga bs p why → Calls Try.prog 39 #[.pointer (some ⟨a, 0, none⟩)] W fun e w' => NmPost a ga bs (nx bs p why) W e w') := fun W hw => names_r W hw
  have HQ : Hid (∀ W, QR W c gc cs p why → Calls Try.prog 50 #[.pointer (some ⟨c, 0, none⟩)] W fun e w' => QNmPost c gc cs (nx bs p why) W e w') := fun W hw => by have := qnames_c W hw; rwa [← nx_eq p h.eq] at this
  have HY : Hid (why ≠ 0 → (nx bs p why).2.1 = p ∧ (nx bs p why).2.2 = why) := fun hw => by rw [nx_no bs p hw]; exact ⟨rfl, rfl⟩
  have hk : Keeps (fun _ => False) w (w.alloc (.cells #[.int .i64 7, .int .u64 n, .string s, l] 34)) := (Keeps.refl _ _).alloc _
  have HBH : Hid (Both (w.alloc (.cells #[.int .i64 7, .int .u64 n, .string s, l] 34)) a ga c gc bs cs p why) := h.same hk
  have HK : Hid (Keeps (fun _ => False) w (w.alloc (.cells #[.int .i64 7, .int .u64 n, .string s, l] 34))) := hk
  have HCL : Hid (c < (w.alloc (.cells #[.int .i64 7, .int .u64 n, .string s, l] 34)).heap.size) := HBH.out.two.lt
  clear hk h
  generalize nx bs p why = r at *
  unfold part
  go_enter Try.func10, Try.ntmps10
  go_wp2_with fail
  refine (HA.out _ HBH.out.one).mono ?_
  rintro e w1 ⟨v1, rfl, hs1, ho1, ht⟩
  have HS1 : Hid (SSl w1 v1 (texts r.1)) := hs1
  have HO1 : Hid (∀ k, v1.ownBlock = some k → (w.alloc (.cells #[.int .i64 7, .int .u64 n, .string s, l] 34)).heap.size ≤ k) := ho1
  have HT : Hid (Took a ga bs r.2.1 r.2.2 (w.alloc (.cells #[.int .i64 7, .int .u64 n, .string s, l] 34)) w1) := ht
  clear ht hs1 ho1
  go_wp2_with fail
  refine (HQ.out _ (HBH.out.mid HT.out)).mono ?_
  rintro e w2 ⟨v2, rfl, hs2, ho2, hq⟩
  have HS3 : Hid (SSl w2 v1 (texts r.1)) := HS1.out.keep hq.keeps (fun k hk e => by have h7 := HO1.out k hk; have h8 := HCL.out; omega)
  have HS2 : Hid (SSl w2 v2 (texts r.1)) := hs2
  have HR : Hid (GetPost w a ga c gc bs cs p why (.returned (.bool true)) w2) := get_end HK.out HBH.out HT.out hq HY.out
  clear hq HT HK HBH HA HQ HY hs2 ho2 HS1 HO1 HCL
  go_wp2_with fail
  refine (texts_c v1 v2 (texts r.1) _ HS3.out HS2.out).mono ?_
  rintro e w3 ⟨rfl, hk3⟩
  obtain ⟨_, p1, y1, hb, hkk, hyy⟩ := HR.out
  have HR2 : Hid (GetPost w a ga c gc bs cs p why (.returned (.bool true)) w3) := ⟨rfl, p1, y1, hb.same hk3, hkk.trans (hk3.mono fun _ _ e => e.elim), hyy⟩
  clear hb hkk hyy hk3 HR HS2 HS3
  go_wp2
  go_ret
  exact HR2.out

set_option maxHeartbeats 1600000 in
set_option maxRecDepth 100000 in
theorem get0_c {k n : Int} {s : ByteArray} {l : Value} {w : World} {a : Nat} {ga : Option Nat} {c : Nat} {gc : Option Nat} {bs cs : List UInt8} {p : Nat} {why : Int} (h : Both w a ga c gc bs cs p why)
    (k1 : (k == 1) = false) (k2 : (k == 2) = false) (k3 : (k == 3) = false) (k4 : (k == 4) = false) (k5 : (k == 5) = false) (k6 : (k == 6) = false) (k7 : (k == 7) = false) (k8 : (k == 8) = false) (k9 : (k == 9) = false) :
    Calls Try.prog 10 #[.pointer (some ⟨a, 0, none⟩), .pointer (some ⟨c, 0, none⟩), part k n s l] w fun e w' => GetPost w a ga c gc bs cs p why e w' := by
  obtain ⟨m, hm⟩ : ∃ m, wrap64 (wrap32 n) = m := ⟨_, rfl⟩
  have hk : Keeps (fun _ => False) w (w.alloc (.cells #[.int .i64 k, .int .u64 n, .string s, l] 34)) := (Keeps.refl _ _).alloc _
  have HBH : Hid (Both (w.alloc (.cells #[.int .i64 k, .int .u64 n, .string s, l] 34)) a ga c gc bs cs p why) := h.same hk
  have HK : Hid (Keeps (fun _ => False) w (w.alloc (.cells #[.int .i64 k, .int .u64 n, .string s, l] 34))) := hk
  clear hk h
  unfold part
  by_cases hlo : 0 < m
  · by_cases hhi : m < 40
    · have HA : Hid (∀ W, WR W a ga bs p why → Calls Try.prog 13 #[.pointer (some ⟨a, 0, none⟩), .int .i64 m] W fun e w' => e = .returned (.tuple #[]) ∧ Took a ga bs p (if why = 0 then m else why) W w') := fun W hw => fail_r m W hw
      have HQ : Hid (∀ W, QR W c gc cs p why → Calls Try.prog 54 #[.pointer (some ⟨c, 0, none⟩), .int .i64 m] W fun e w' => e = .returned (.tuple #[]) ∧ QTook c gc cs p (if why = 0 then m else why) W w') := fun W hw => qfail_c m W hw (by omega)
      have HY : Hid (why ≠ 0 → (if why = 0 then m else why) = why) := fun hw => by rw [if_neg hw]
      generalize (if why = 0 then m else why) = y1 at *
      go_enter Try.func10, Try.ntmps10
      go_wp2_with fail
      refine (HA.out _ HBH.out.one).mono ?_
      rintro e w1 ⟨rfl, ht⟩
      have HT : Hid (Took a ga bs p y1 (w.alloc (.cells #[.int .i64 k, .int .u64 n, .string s, l] 34)) w1) := ht
      clear ht
      go_wp2_with fail
      refine (HQ.out _ (HBH.out.mid HT.out)).mono ?_
      rintro e w2 ⟨rfl, hq⟩
      have HR : Hid (GetPost w a ga c gc bs cs p why (.returned (.bool true)) w2) := get_end HK.out HBH.out HT.out hq (fun hw => ⟨rfl, HY.out hw⟩)
      clear hq HT HK HBH HA HQ HY
      go_wp2
      go_ret
      exact HR.out
    · have HR : Hid (GetPost w a ga c gc bs cs p why (.returned (.bool true)) (w.alloc (.cells #[.int .i64 k, .int .u64 n, .string s, l] 34))) := ⟨rfl, p, why, HBH.out, HK.out.mono (fun _ _ e => e.elim), fun _ => ⟨rfl, rfl⟩⟩
      clear HK HBH
      go_enter Try.func10, Try.ntmps10
      go_wp2
      go_ret
      exact HR.out
  · have HR : Hid (GetPost w a ga c gc bs cs p why (.returned (.bool true)) (w.alloc (.cells #[.int .i64 k, .int .u64 n, .string s, l] 34))) := ⟨rfl, p, why, HBH.out, HK.out.mono (fun _ _ e => e.elim), fun _ => ⟨rfl, rfl⟩⟩
    clear HK HBH
    go_enter Try.func10, Try.ntmps10
    go_wp2
    go_ret
    exact HR.out

theorem get_c (k : Int) {n : Int} {s : ByteArray} {l : Value} {w : World} {a : Nat} {ga : Option Nat} {c : Nat} {gc : Option Nat} {bs cs : List UInt8} {p : Nat} {why : Int} (h : Both w a ga c gc bs cs p why) :
    Calls Try.prog 10 #[.pointer (some ⟨a, 0, none⟩), .pointer (some ⟨c, 0, none⟩), part k n s l] w fun e w' => GetPost w a ga c gc bs cs p why e w' := by
  by_cases k1 : k = 1
  · subst k1; exact get1_c h
  by_cases k2 : k = 2
  · subst k2; exact get2_c h
  by_cases k3 : k = 3
  · subst k3; exact get3_c h
  by_cases k4 : k = 4
  · subst k4; exact get4_c h
  by_cases k5 : k = 5
  · subst k5; exact get5_c h
  by_cases k6 : k = 6
  · subst k6; exact get6_c h
  by_cases k7 : k = 7
  · subst k7; exact get7_c h
  by_cases k8 : k = 8
  · subst k8; exact get8_c h
  by_cases k9 : k = 9
  · subst k9; exact get9_c h
  exact get0_c h (by simpa using k1) (by simpa using k2) (by simpa using k3) (by simpa using k4) (by simpa using k5) (by simpa using k6) (by simpa using k7) (by simpa using k8) (by simpa using k9)

end Go.Proofs.Ytmecclefkgbmpaa
