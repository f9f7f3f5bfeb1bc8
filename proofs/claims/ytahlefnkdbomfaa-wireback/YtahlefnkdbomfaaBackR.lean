/- What the Reader reads back of a part, one behind the other, beside the part's box. -/
import Derived.Test.YtahlefnkdbomfaaBackQ
import Derived.Deep.RegionHeld3
namespace Go.Proofs.Ytahlefnkdbomfaa
open Go Go.RowKit

/-- While a part is read: the Reader stands at q; the part's box, the bare bytes and the names lie there. -/
structure RB (W w : World) (a B : Nat) (g : Option Nat) (bs : List UInt8) (q : Nat) (n : Int) (s2 : ByteArray) (vb : Value) (t : List UInt8) (vn : Value) (ns : List ByteArray) : Prop where
  st : WR w a g bs q 0
  c1 : w.cell? ⟨B, 1, none⟩ = some (.int .u64 n)
  c2 : w.cell? ⟨B, 2, none⟩ = some (.string s2)
  ba : B ≠ a
  bare : BSl w vb t
  bn : vb.ownBlock ≠ some a
  names : SSl w vn ns
  nn : vn.ownBlock ≠ some a
  wa : W.heap.size ≤ a
  bel : Below W.heap.size W w
section
variable {W w w' : World} {a B : Nat} {g : Option Nat} {bs : List UInt8} {q q' : Nat} {n : Int} {s2 : ByteArray} {vb : Value} {t : List UInt8} {vn : Value} {ns : List ByteArray}
theorem RB.step (h : RB W w a B g bs q n s2 vb t vn ns) (k : Keeps (fun k => k = a) w w') (st' : WR w' a g bs q' 0) : RB W w' a B g bs q' n s2 vb t vn ns :=
  ⟨st', k.cell h.c1 h.ba, k.cell h.c2 h.ba, h.ba, h.bare.keep k (fun k' e hs => h.bn (by rw [e, hs])), h.bn, h.names.keep k (fun k' e hs => h.nn (by rw [e, hs])), h.nn, h.wa, h.bel.trans (k.below h.bel.size (fun k' e => by rw [e]; exact h.wa))⟩
theorem RB.quiet (h : RB W w a B g bs q n s2 vb t vn ns) (k : Keeps (fun _ => False) w w') : RB W w' a B g bs q n s2 vb t vn ns :=
  h.step (k.mono (fun _ _ e => e.elim)) (h.st.keep k (fun e => e) (fun _ _ e => e))
theorem RB.drew (h : RB W w a B g bs q n s2 vb t vn ns) : RB W w.drew a B g bs q n s2 vb t vn ns := h.quiet (Keeps.refl _ _).drew
theorem RB.held (h : RB W w a B g bs q n s2 vb t vn ns) : w.cell? ⟨B, 1, none⟩ = some (.int .u64 n) ∧ w.cell? ⟨B, 2, none⟩ = some (.string s2) ∧ (convert 37 9 vb).run Try.prog w = .ok (.string ⟨t.toArray⟩) w :=
  ⟨h.c1, h.c2, run_string h.bare⟩
theorem RB.byte (h : RB W w a B g bs q n s2 vb t vn ns) (hat : At bs q [byteOf (n % 256)]) : Calls Try.prog 17 #[.pointer (some ⟨a, 0, none⟩)] w fun e w' => e = .returned (.int .i64 (n % 256)) ∧ RB W w' a B g bs (q + 1) n s2 vb t vn ns := by
  refine (byte_r w h.st).mono fun e w' hT => ?_
  rw [hat.tkn (n := 1) rfl] at hT
  obtain ⟨he, ht⟩ := hT
  refine ⟨?_, h.step ht.keeps ht.state⟩
  have hv : ((val [byteOf (n % 256)] : Nat) : Int) = n % 256 := by
    have := byteOf_nat (n % 256)
    simp only [val, valFrom]
    omega
  rw [he]
  simp only [hv]
theorem RB.u32 (h : RB W w a B g bs q n s2 vb t vn ns) (hat : At bs q (be 4 (n % 4294967296).toNat)) : Calls Try.prog 18 #[.pointer (some ⟨a, 0, none⟩)] w fun e w' => e = .returned (.int .u32 (n % 4294967296)) ∧ RB W w' a B g bs (q + 4) n s2 vb t vn ns := by
  refine (u32_r w h.st).mono fun e w' hT => ?_
  rw [hat.tkn (n := 4) (be_length _ _)] at hT
  obtain ⟨he, ht⟩ := hT
  refine ⟨?_, h.step ht.keeps ht.state⟩
  have hv : ((val (be 4 (n % 4294967296).toNat) : Nat) : Int) = n % 4294967296 := by rw [val_be 4 _ (by omega)]; omega
  rw [he]
  simp only [hv]
theorem RB.u64 (h : RB W w a B g bs q n s2 vb t vn ns) (hn0 : 0 ≤ n) (hn1 : n < 18446744073709551616) (hat : At bs q (be 8 n.toNat)) : Calls Try.prog 19 #[.pointer (some ⟨a, 0, none⟩)] w fun e w' => e = .returned (.int .u64 n) ∧ RB W w' a B g bs (q + 8) n s2 vb t vn ns := by
  refine (u64_r w h.st).mono fun e w' hT => ?_
  rw [hat.tkn (n := 8) (be_length _ _)] at hT
  obtain ⟨he, ht⟩ := hT
  refine ⟨?_, h.step ht.keeps ht.state⟩
  have hv : ((val (be 8 n.toNat) : Nat) : Int) = n := by rw [val_be 8 _ (by omega)]; omega
  rw [he]
  simp only [hv]
theorem eta_b (s : ByteArray) : (⟨s.data.toList.toArray⟩ : ByteArray) = s := by cases s; simp
theorem textBytes_len (xs : List UInt8) : (textBytes xs).length = 4 + xs.length := by rw [textBytes, List.length_append, be_length]
theorem str_len (s : ByteArray) : s.data.toList.length = s.size := by rw [Array.length_toList]; rfl
theorem RB.text (h : RB W w a B g bs q n s2 vb t vn ns) (hs : s2.size ≤ 200) (hat : At bs q (textBytes s2.data.toList)) : Calls Try.prog 20 #[.pointer (some ⟨a, 0, none⟩), .int .i64 (s2.size : Int)] w fun e w' => e = .returned (.string s2) ∧ RB W w' a B g bs (q + (textBytes s2.data.toList).length) n s2 vb t vn ns := by
  have hl := str_len s2
  refine (textS_r (s2.size : Int) (by omega) (by omega) w h.st).mono fun e w' hT => ?_
  rw [hat.tx (by omega) (by omega)] at hT
  obtain ⟨he, ht⟩ := hT
  refine ⟨?_, ?_⟩
  · rw [he, eta_b]
  · rw [textBytes_len]
    exact h.step ht.keeps ht.state
theorem RB.mpint (h : RB W w a B g bs q n s2 vb t vn ns) (hs : s2.size ≤ 200) (ht : Go.Proofs.Ytahlefnkdbomfaa.bare s2.data.toList = t) (hat : At bs q (mpBytes s2.data.toList)) : Calls Try.prog 21 #[.pointer (some ⟨a, 0, none⟩), .int .i64 201] w fun e w' => ∃ ao cap, e = .returned (.slice ao t.length cap) ∧ (convert 37 9 (.slice ao t.length cap)).run Try.prog w' = .ok (.string ⟨t.toArray⟩) w' ∧ RB W w' a B g bs (q + (mpBytes s2.data.toList).length) n s2 vb t vn ns := by
  have hl := str_len s2
  refine (mpint_r 201 (by omega) (by omega) w h.st).mono fun e w' hT => ?_
  rw [hat.mx (by omega) (by show _ ≤ 201; omega), ht] at hT
  obtain ⟨v', he, hv, _, hk⟩ := hT
  obtain ⟨ao, cap, rfl⟩ : ∃ ao cap, v' = .slice ao t.length cap := by obtain ⟨ao, cap, e, _⟩ := hv; exact ⟨ao, cap, e⟩
  exact ⟨ao, cap, he, run_string hv, h.step hk.keeps hk.state⟩
theorem RB.namesOf (h : RB W w a B g bs q n s2 vb t vn ns) (hl : (joined ns).length ≤ 1000) (hok : ∀ s ∈ ns, okName s.data.toList = true) (hat : At bs q (textBytes (joined ns))) : Calls Try.prog 23 #[.pointer (some ⟨a, 0, none⟩)] w fun e w' => ∃ v', e = .returned v' ∧ SSl w' v' ns ∧ RB W w' a B g bs (q + (textBytes (joined ns)).length) n s2 vb t vn ns := by
  refine (names_r w h.st).mono fun e w' hT => ?_
  rw [hat.nx hl hok] at hT
  obtain ⟨v', he, hv, _, hk⟩ := hT
  refine ⟨v', he, ?_, ?_⟩
  · have : texts (ns.map (·.data.toList)) = ns := by
      unfold texts
      rw [List.map_map]
      conv => rhs; rw [← List.map_id ns]
      apply List.map_congr_left
      intro s _
      exact eta_b s
    rw [this] at hv
    exact hv
  · rw [textBytes_len]
    exact h.step hk.keeps hk.state
theorem RB.textsOf (h : RB W w a B g bs q n s2 vb t vn ns) {v' : Value} (hv : SSl w v' ns) : Calls Try.prog 22 #[v', vn] w fun e w' => e = .returned (.bool true) ∧ RB W w' a B g bs q n s2 vb t vn ns :=
  (texts_c v' vn ns w hv h.names).mono fun _ _ hT => ⟨hT.1, h.quiet hT.2⟩
theorem RB.bool (h : RB W w a B g bs q n s2 vb t vn ns) (hat : At bs q [bit (n % 2 == 1)]) : Calls Try.prog 24 #[.pointer (some ⟨a, 0, none⟩)] w fun e w' => e = .returned (.bool (n % 2 == 1)) ∧ RB W w' a B g bs (q + 1) n s2 vb t vn ns := by
  refine (bool_r w h.st).mono fun e w' hT => ?_
  rw [hat.tkn (n := 1) rfl] at hT
  obtain ⟨he, ht⟩ := hT
  refine ⟨?_, h.step ht.keeps ht.state⟩
  rw [he]
  cases hb : (n % 2 == 1) <;> rfl
theorem RB.raw (h : RB W w a B g bs q n s2 vb t vn ns) (hs : s2.size ≤ 200) (hat : At bs q s2.data.toList) : Calls Try.prog 25 #[.pointer (some ⟨a, 0, none⟩), .int .i64 (s2.size : Int)] w fun e w' => ∃ ao cap, e = .returned (.slice ao s2.size cap) ∧ (convert 37 9 (.slice ao s2.size cap)).run Try.prog w' = .ok (.string s2) w' ∧ RB W w' a B g bs (q + s2.size) n s2 vb t vn ns := by
  have hl := str_len s2
  refine (raw_r (s2.size : Int) (by omega) (by omega) w h.st).mono fun e w' hT => ?_
  rw [Int.toNat_natCast, hat.tkn (n := s2.size) hl] at hT
  obtain ⟨v', he, hv, _, hk⟩ := hT
  obtain ⟨ao, cap, rfl⟩ : ∃ ao cap, v' = .slice ao s2.size cap := by obtain ⟨ao, cap, e, _⟩ := hv; exact ⟨ao, cap, by rw [e, hl]⟩
  refine ⟨ao, cap, he, ?_, h.step hk.keeps hk.state⟩
  have h9 := run_string hv
  simp only [eta_b] at h9
  exact h9
end
theorem pieces {bs : List UInt8} {p : Nat} {x b : UInt8} {m k : Nat} {T M J R : List UInt8} (h : At bs p ([x] ++ (be 4 m ++ (be 8 k ++ (T ++ (M ++ (J ++ ([b] ++ R)))))))) :
    At bs p [x] ∧ At bs (p + 1) (be 4 m) ∧ At bs (p + 1 + 4) (be 8 k) ∧ At bs (p + 1 + 4 + 8) T ∧ At bs (p + 1 + 4 + 8 + T.length) M ∧ At bs (p + 1 + 4 + 8 + T.length + M.length) J ∧ At bs (p + 1 + 4 + 8 + T.length + M.length + J.length) [b] ∧ At bs (p + 1 + 4 + 8 + T.length + M.length + J.length + 1) R := by
  have h2 := h.right
  rw [List.length_singleton] at h2
  have h3 := h2.right
  rw [be_length] at h3
  have h4 := h3.right
  rw [be_length] at h4
  have h5 := h4.right
  have h6 := h5.right
  have h7 := h6.right
  have h8 := h7.right
  rw [List.length_singleton] at h8
  exact ⟨h.left, h2.left, h3.left, h4.left, h5.left, h6.left, h7.left, h8⟩
theorem bytesV_new {w : World} {s : ByteArray} {a : Nat} (h : a < w.heap.size) : (bytesV w s).ownBlock ≠ some a := by simp [bytesV, Value.ownBlock]; omega
/-- The two conversions of what was just read, by a name of their own. -/
def cvA : Op := Op.convert 37 9 (.tmp 182)
def cvB : Op := Op.convert 37 9 (.tmp 209)
end Go.Proofs.Ytahlefnkdbomfaa
