/- What the document's Reader answers: Mpint. -/
import Derived.Test.YtmecclefkgbmpaaQrD
namespace Go.Proofs.Ytmecclefkgbmpaa
open Go Go.RowKit

theorem bare_mp {xs ys : List UInt8} (h : mpOf xs = some ys) : bare xs = ys := by
  cases xs with
  | nil => simpa [mpOf, bare] using h
  | cons x t =>
    unfold mpOf at h
    by_cases hx : 128 ≤ x.toNat
    · simp [hx] at h
    · by_cases h0 : x = 0
      · subst h0
        cases t with
        | nil => simp at h
        | cons y r =>
          by_cases hy : 128 ≤ y.toNat
          · simp [hy] at h
            have hy0 : ¬ y = 0 := by rintro rfl; simp at hy
            rw [← h]
            simp [bare, hy0]
          · simp [hy] at h
      · simp [hx, h0] at h
        rw [← h]
        simp [bare, h0]

theorem conv_pkg (xs : List UInt8) (hl : xs.length ≤ 140737488355328) (w1 : World) : ∃ b cap wB, (convert 9 22 (.string ⟨xs.toArray⟩)).run Try.prog w1 = .ok (.slice (some ⟨b, 0, none⟩) xs.length cap) wB ∧ BSl wB (.slice (some ⟨b, 0, none⟩) xs.length cap) xs ∧ Below w1.heap.size w1 wB ∧ w1.heap.size ≤ b ∧ xs.length ≤ cap := by
  have hsz : (⟨xs.toArray⟩ : ByteArray).size = xs.length := size_list xs
  have h1 := bytes_bsl w1 ⟨xs.toArray⟩ (by rw [hsz]; exact hl)
  have h2 : bytesV w1 ⟨xs.toArray⟩ = .slice (some ⟨w1.heap.size, 0, none⟩) xs.length (grownCap w1 xs.length 0 5) := by unfold bytesV; rw [hsz]
  have h3 := run_bytes ⟨xs.toArray⟩ w1
  rw [h2] at h1 h3
  exact ⟨_, _, _, h3, by simpa using h1, bytesW_below _ _, Nat.le_refl _, grownCap_ge _ _ _ _⟩

theorem mp_cases (xs : List UInt8) : (xs = [] ∧ mpOf xs = some []) ∨ (∃ x t, xs = x :: t ∧ 128 ≤ x.toNat ∧ mpOf xs = none) ∨ (∃ x t, xs = x :: t ∧ x.toNat < 128 ∧ x.toNat ≠ 0 ∧ mpOf xs = some xs) ∨
    (∃ x, xs = [x] ∧ x.toNat = 0 ∧ mpOf xs = none) ∨ (∃ x y r, xs = x :: y :: r ∧ x.toNat = 0 ∧ y.toNat < 128 ∧ mpOf xs = none) ∨ (∃ x y r, xs = x :: y :: r ∧ x.toNat = 0 ∧ 128 ≤ y.toNat ∧ mpOf xs = some (y :: r)) := by
  cases xs with
  | nil => exact .inl ⟨rfl, rfl⟩
  | cons x t =>
    right
    by_cases hx : 128 ≤ x.toNat
    · exact .inl ⟨x, t, rfl, hx, by simp [mpOf, hx]⟩
    · by_cases h0 : x = 0
      · subst h0
        cases t with
        | nil => exact .inr (.inr (.inl ⟨0, rfl, rfl, rfl⟩))
        | cons y r =>
          by_cases hy : 128 ≤ y.toNat
          · exact .inr (.inr (.inr (.inr ⟨0, y, r, rfl, rfl, hy, by simp [mpOf, hy]⟩)))
          · exact .inr (.inr (.inr (.inl ⟨0, y, r, rfl, rfl, by omega, by simp [mpOf, hy]⟩)))
      · have hn : x.toNat ≠ 0 := fun h => h0 (UInt8.toNat_inj.1 h)
        exact .inr (.inl ⟨x, t, rfl, by omega, hn, by simp [mpOf, hx, h0]⟩)

set_option maxHeartbeats 1600000 in
set_option maxRecDepth 100000 in
theorem qmpint_c (most : Int) (hm0 : -4294967296 ≤ most) (hm1 : most ≤ 1000000000000) (w : World) {c : Nat} {g : Option Nat} {bs : List UInt8} {p : Nat} {why : Int} (h : QR w c g bs p why) :
    Calls Try.prog 49 #[.pointer (some ⟨c, 0, none⟩), .int .i64 most] w fun e w' => QRaw c g bs (mx bs p why most) (mx bs p why most).1 w e w' := by
  have HN : Hid (Calls _ _ _ _ _) := qtext_c most hm0 hm1 w h
  have hlen := tx_len bs p why most
  have HO := @tx_ok1 bs p why most
  have HX : Hid (mx bs p why most = match mpOf (tx bs p why most).1 with | some ys => (ys, (tx bs p why most).2) | none => ([], p, 12)) := rfl
  generalize mx bs p why most = rr at *
  generalize tx bs p why most = r at *
  obtain ⟨xs, p1, y1⟩ := r
  simp only at *
  obtain ⟨q, rf, c1, c2, hq0, hq1⟩ := h.cell2
  have hlen2 : xs.length ≤ 1000000000000 := by omega
  clear hlen
  rcases mp_cases xs with ⟨hxs, hmp⟩ | ⟨x, t, hxs, hx, hmp⟩ | ⟨x, t, hxs, hx, hx0, hmp⟩ | ⟨x, hxs, hx, hmp⟩ | ⟨x, y, r, hxs, hx, hy, hmp⟩ | ⟨x, y, r, hxs, hx, hy, hmp⟩
  · have hrr : rr = (([] : List UInt8), p1, y1) := by rw [HX.out, hmp]
    subst hrr
    obtain ⟨ys, hys⟩ : ∃ ys, ys = ([] : List UInt8) := ⟨_, rfl⟩
    rw [← hys] at hmp ⊢
    have HBM : Hid (bare xs = ys) := bare_mp hmp
    have hl0 : xs.length = 0 := by rw [hxs]; rfl
    have hle : xs.length ≤ 0 := by omega
    clear hl0 hxs
    clear HX hmp HO hq0 hq1 hys
    go_enter Try.func49, Try.ntmps49
    go_wp2_with fail
    refine HN.out.mono ?_
    rintro e w1 ⟨rfl, ht⟩
    have HT : Hid (QTook c g bs p1 y1 w w1) := ht
    obtain ⟨b, cap, wB, hcv, hbB, hwB, hblt, hcap⟩ := conv_pkg xs (by omega) w1
    have HB : Hid (BSl wB (.slice (some ⟨b, 0, none⟩) xs.length cap) xs) := hbB
    have HW : Hid (Below w1.heap.size w1 wB) := hwB
    have HBL : Hid (w1.heap.size ≤ b) := hblt
    clear ht HN c1 c2 hwB hblt
    clear hbB
    go_wp2_with fail
    refine (rbare_c _ xs _ HB.out (by omega)).mono ?_
    rintro e w2 ⟨v2, rfl, ho2, hb2⟩
    rw [HBM.out] at ho2
    have HR : Hid (QRaw c g bs (ys, p1, y1) ys w (.returned v2) w2) := ⟨v2, rfl, BSl.ofRow ho2, fun k hk => Nat.le_trans HT.out.keeps.size (Nat.le_trans HW.out.size (ho2.lt k hk).1), (HT.out.fresh HW.out).fresh hb2⟩
    clear ho2 hb2 HT HB HW HBL
    go_wp2
    go_ret
    exact HR.out
  · have hnn : xs ≠ [] := by rw [hxs]; simp
    obtain ⟨hw0, hy0⟩ := HO hnn
    subst hy0
    subst hw0
    obtain ⟨_, hqp⟩ := hq0 rfl
    have hrr : rr = ([], q, 12) := by rw [HX.out, hmp, hqp]
    subst hrr
    have hl1 : 1 ≤ xs.length := by rw [hxs]; simp
    have hd1 : decide ((128 : Int) ≤ (x.toNat : Int)) = true := by simp; omega
    have HXS : Hid (xs = x :: t) := hxs
    clear hxs hx
    clear HX hmp HO hq0 hq1 hnn hqp
    go_enter Try.func49, Try.ntmps49
    go_wp2_with fail
    refine HN.out.mono ?_
    rintro e w1 ⟨rfl, ht⟩
    have HT : Hid (QTook c g bs p1 0 w w1) := ht
    obtain ⟨b, cap, wB, hcv, hbB, hwB, hblt, hcap⟩ := conv_pkg xs (by omega) w1
    have HB : Hid (BSl wB (.slice (some ⟨b, 0, none⟩) xs.length cap) xs) := hbB
    have HW : Hid (Below w1.heap.size w1 wB) := hwB
    have HBL : Hid (w1.heap.size ≤ b) := hblt
    clear ht HN c1 c2 hwB hblt
    have k0 : wB.cell? ⟨b, 0, none⟩ = some (.int .u8 x.toNat) := by have := hbB.cellAt 0 (by rw [HXS.out]; simp); simpa [HXS.out] using this
    clear hbB
    have hst := (HT.out.fresh HW.out).state
    go_wp2_with fail
    refine (qrefuse_c 12 (by omega) q _ hst).mono ?_
    rintro e w2 ⟨rfl, ht2⟩
    go_wp2
    go_ret
    exact ⟨_, rfl, bsl_none _, (fun k e => by cases e), ((HT.out.fresh HW.out).trans ht2)⟩
  · have hrr : rr = (xs, p1, y1) := by rw [HX.out, hmp]
    subst hrr
    have HBM : Hid (bare xs = xs) := bare_mp hmp
    have hl1 : 1 ≤ xs.length := by rw [hxs]; simp
    have hd1 : decide ((128 : Int) ≤ (x.toNat : Int)) = false := by simp; omega
    have hx2 : ((x.toNat : Int) == 0) = false := by simp; omega
    have HXS : Hid (xs = x :: t) := hxs
    clear hxs hx hx0
    clear HX hmp HO hq0 hq1
    go_enter Try.func49, Try.ntmps49
    go_wp2_with fail
    refine HN.out.mono ?_
    rintro e w1 ⟨rfl, ht⟩
    have HT : Hid (QTook c g bs p1 y1 w w1) := ht
    obtain ⟨b, cap, wB, hcv, hbB, hwB, hblt, hcap⟩ := conv_pkg xs (by omega) w1
    have HB : Hid (BSl wB (.slice (some ⟨b, 0, none⟩) xs.length cap) xs) := hbB
    have HW : Hid (Below w1.heap.size w1 wB) := hwB
    have HBL : Hid (w1.heap.size ≤ b) := hblt
    clear ht HN c1 c2 hwB hblt
    have k0 : wB.cell? ⟨b, 0, none⟩ = some (.int .u8 x.toNat) := by have := hbB.cellAt 0 (by rw [HXS.out]; simp); simpa [HXS.out] using this
    clear hbB
    go_wp2_with fail
    refine (rbare_c _ xs _ HB.out (by omega)).mono ?_
    rintro e w2 ⟨v2, rfl, ho2, hb2⟩
    rw [HBM.out] at ho2
    have HR : Hid (QRaw c g bs (xs, p1, y1) xs w (.returned v2) w2) := ⟨v2, rfl, BSl.ofRow ho2, fun k hk => Nat.le_trans HT.out.keeps.size (Nat.le_trans HW.out.size (ho2.lt k hk).1), (HT.out.fresh HW.out).fresh hb2⟩
    clear ho2 hb2 HT HB HW HBL
    go_wp2
    go_ret
    exact HR.out
  · have hnn : xs ≠ [] := by rw [hxs]; simp
    obtain ⟨hw0, hy0⟩ := HO hnn
    subst hy0
    subst hw0
    obtain ⟨_, hqp⟩ := hq0 rfl
    have hrr : rr = ([], q, 12) := by rw [HX.out, hmp, hqp]
    subst hrr
    have hl1 : 1 ≤ xs.length := by rw [hxs]; simp
    have hl2 : xs.length ≤ 1 := by rw [hxs]; simp
    have hd1 : decide ((128 : Int) ≤ (x.toNat : Int)) = false := by simp; omega
    have hlb : ((xs.length : Int) == 1) = true := by simp; omega
    have hx2 : ((x.toNat : Int) == 0) = true := by simp; omega
    have HXS : Hid (xs = [x]) := hxs
    clear hxs hx
    clear HX hmp HO hq0 hq1 hnn hqp
    go_enter Try.func49, Try.ntmps49
    go_wp2_with fail
    refine HN.out.mono ?_
    rintro e w1 ⟨rfl, ht⟩
    have HT : Hid (QTook c g bs p1 0 w w1) := ht
    obtain ⟨b, cap, wB, hcv, hbB, hwB, hblt, hcap⟩ := conv_pkg xs (by omega) w1
    have HB : Hid (BSl wB (.slice (some ⟨b, 0, none⟩) xs.length cap) xs) := hbB
    have HW : Hid (Below w1.heap.size w1 wB) := hwB
    have HBL : Hid (w1.heap.size ≤ b) := hblt
    clear ht HN c1 c2 hwB hblt
    have k0 : wB.cell? ⟨b, 0, none⟩ = some (.int .u8 x.toNat) := by have := hbB.cellAt 0 (by rw [HXS.out]; simp); simpa [HXS.out] using this
    clear hbB
    have hst := (HT.out.fresh HW.out).state
    go_wp2_with fail
    refine (qrefuse_c 12 (by omega) q _ hst).mono ?_
    rintro e w2 ⟨rfl, ht2⟩
    go_wp2
    go_ret
    exact ⟨_, rfl, bsl_none _, (fun k e => by cases e), ((HT.out.fresh HW.out).trans ht2)⟩
  · have hnn : xs ≠ [] := by rw [hxs]; simp
    obtain ⟨hw0, hy0⟩ := HO hnn
    subst hy0
    subst hw0
    obtain ⟨_, hqp⟩ := hq0 rfl
    have hrr : rr = ([], q, 12) := by rw [HX.out, hmp, hqp]
    subst hrr
    have hl1 : 2 ≤ xs.length := by rw [hxs]; simp
    have hd1 : decide ((128 : Int) ≤ (x.toNat : Int)) = false := by simp; omega
    have hx2 : ((x.toNat : Int) == 0) = true := by simp; omega
    have hlb : ((xs.length : Int) == 1) = false := by simp; omega
    have hd2 : decide ((y.toNat : Int) < 128) = true := by simp; omega
    have HXS : Hid (xs = x :: y :: r) := hxs
    clear hxs hx hy
    clear HX hmp HO hq0 hq1 hnn hqp
    go_enter Try.func49, Try.ntmps49
    go_wp2_with fail
    refine HN.out.mono ?_
    rintro e w1 ⟨rfl, ht⟩
    have HT : Hid (QTook c g bs p1 0 w w1) := ht
    obtain ⟨b, cap, wB, hcv, hbB, hwB, hblt, hcap⟩ := conv_pkg xs (by omega) w1
    have HB : Hid (BSl wB (.slice (some ⟨b, 0, none⟩) xs.length cap) xs) := hbB
    have HW : Hid (Below w1.heap.size w1 wB) := hwB
    have HBL : Hid (w1.heap.size ≤ b) := hblt
    clear ht HN c1 c2 hwB hblt
    have k0 : wB.cell? ⟨b, 0, none⟩ = some (.int .u8 x.toNat) := by have := hbB.cellAt 0 (by rw [HXS.out]; simp); simpa [HXS.out] using this
    have k1 : wB.cell? ⟨b, 1, none⟩ = some (.int .u8 y.toNat) := by have := hbB.cellAt 1 (by rw [HXS.out]; simp); simpa [HXS.out] using this
    clear hbB
    have hst := (HT.out.fresh HW.out).state
    go_wp2_with fail
    refine (qrefuse_c 12 (by omega) q _ hst).mono ?_
    rintro e w2 ⟨rfl, ht2⟩
    go_wp2
    go_ret
    exact ⟨_, rfl, bsl_none _, (fun k e => by cases e), ((HT.out.fresh HW.out).trans ht2)⟩
  · have hrr : rr = (y :: r, p1, y1) := by rw [HX.out, hmp]
    subst hrr
    obtain ⟨ys, hys⟩ : ∃ ys, ys = y :: r := ⟨_, rfl⟩
    rw [← hys] at hmp ⊢
    have HBM : Hid (bare xs = ys) := bare_mp hmp
    have hl1 : 2 ≤ xs.length := by rw [hxs]; simp
    have hd1 : decide ((128 : Int) ≤ (x.toNat : Int)) = false := by simp; omega
    have hx2 : ((x.toNat : Int) == 0) = true := by simp; omega
    have hlb : ((xs.length : Int) == 1) = false := by simp; omega
    have hd2 : decide ((y.toNat : Int) < 128) = false := by simp; omega
    have HXS : Hid (xs = x :: y :: r) := hxs
    clear hxs hx hy
    clear HX hmp HO hq0 hq1 hys
    go_enter Try.func49, Try.ntmps49
    go_wp2_with fail
    refine HN.out.mono ?_
    rintro e w1 ⟨rfl, ht⟩
    have HT : Hid (QTook c g bs p1 y1 w w1) := ht
    obtain ⟨b, cap, wB, hcv, hbB, hwB, hblt, hcap⟩ := conv_pkg xs (by omega) w1
    have HB : Hid (BSl wB (.slice (some ⟨b, 0, none⟩) xs.length cap) xs) := hbB
    have HW : Hid (Below w1.heap.size w1 wB) := hwB
    have HBL : Hid (w1.heap.size ≤ b) := hblt
    clear ht HN c1 c2 hwB hblt
    have k0 : wB.cell? ⟨b, 0, none⟩ = some (.int .u8 x.toNat) := by have := hbB.cellAt 0 (by rw [HXS.out]; simp); simpa [HXS.out] using this
    have k1 : wB.cell? ⟨b, 1, none⟩ = some (.int .u8 y.toNat) := by have := hbB.cellAt 1 (by rw [HXS.out]; simp); simpa [HXS.out] using this
    clear hbB
    go_wp2_with fail
    refine (rbare_c _ xs _ HB.out (by omega)).mono ?_
    rintro e w2 ⟨v2, rfl, ho2, hb2⟩
    rw [HBM.out] at ho2
    have HR : Hid (QRaw c g bs (ys, p1, y1) ys w (.returned v2) w2) := ⟨v2, rfl, BSl.ofRow ho2, fun k hk => Nat.le_trans HT.out.keeps.size (Nat.le_trans HW.out.size (ho2.lt k hk).1), (HT.out.fresh HW.out).fresh hb2⟩
    clear ho2 hb2 HT HB HW HBL
    go_wp2
    go_ret
    exact HR.out

end Go.Proofs.Ytmecclefkgbmpaa
