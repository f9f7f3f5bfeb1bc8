/- Primes, the field of 2^255 - 19, the curve's points as a group, and what a step of the ladder does to points. -/
import Derived.Test.YtookapglookphaaDoorXcA
import Derived.Test.YtookapglookphaaDoorXcB
namespace Go.Proofs.YtookapglookphaaDoor.Ed

/-- A prime. -/
structure Pr (n : Nat) : Prop where
  two : 2 ≤ n
  one : ∀ d, d ∣ n → d = 1 ∨ d = n
theorem Pr.cop {p a : Nat} (h : Pr p) (ha : ¬ p ∣ a) : Nat.Coprime p a := by
  rcases h.one (Nat.gcd p a) (Nat.gcd_dvd_left p a) with e | e
  · exact e
  · exact absurd (e ▸ Nat.gcd_dvd_right p a) ha
theorem Pr.mul {p a b : Nat} (h : Pr p) (hd : p ∣ a * b) : p ∣ a ∨ p ∣ b := by
  by_cases ha : p ∣ a
  · exact .inl ha
  · exact .inr ((h.cop ha).dvd_of_dvd_mul_left hd)
theorem Pr.pow {p a n : Nat} (h : Pr p) (hd : p ∣ a ^ n) : p ∣ a := by
  induction n with
  | zero =>
    have := h.two
    rw [Nat.pow_zero] at hd
    have := Nat.le_of_dvd (by omega) hd
    omega
  | succ n ih =>
    rw [Nat.pow_succ] at hd
    rcases h.mul hd with h1 | h1
    · exact ih h1
    · exact h1
/-- The product of a list. -/
def prd : List Nat → Nat
  | [] => 1
  | x :: l => x * prd l
theorem prd_perm {l m : List Nat} (h : l.Perm m) : prd l = prd m := by
  induction h with
  | nil => rfl
  | cons x _ ih => simp [prd, ih]
  | swap x y l => simp [prd, Nat.mul_left_comm]
  | trans _ _ h1 h2 => rw [h1, h2]
theorem perm_of_nodup : ∀ (l m : List Nat), l.Nodup → (∀ x, x ∈ l → x ∈ m) → l.length = m.length → l.Perm m
  | [], m, _, _, hl => by
    have : m = [] := List.eq_nil_of_length_eq_zero hl.symm
    rw [this]
  | x :: t, m, hn, hs, hl => by
    have hx := hs x (by simp)
    have hn' := List.nodup_cons.1 hn
    have h1 : t.Perm (m.erase x) := by
      refine perm_of_nodup t (m.erase x) hn'.2 (fun y hy => ?_) ?_
      · refine (List.mem_erase_of_ne ?_).2 (hs y (by simp [hy]))
        rintro rfl
        exact hn'.1 hy
      · rw [List.length_erase_of_mem hx]
        simp only [List.length_cons] at hl
        omega
    exact (h1.cons x).trans (List.perm_cons_erase hx).symm
theorem prd_map (a p : Nat) : ∀ l : List Nat, prd (l.map fun x => a * x % p) % p = a ^ l.length * prd l % p
  | [] => by simp [prd]
  | x :: l => by
    have ih := prd_map a p l
    rw [List.map_cons, prd, prd, List.length_cons, Nat.mul_mod, ih, ← Nat.mul_mod, Nat.mul_mod, Nat.mod_mod, ← Nat.mul_mod]
    congr 1
    rw [Nat.pow_succ]
    ac_rfl
theorem prd_not {p : Nat} (h : Pr p) : ∀ l : List Nat, (∀ x, x ∈ l → ¬ p ∣ x) → ¬ p ∣ prd l
  | [], _ => fun hd => by
    have := Nat.le_of_dvd (by decide) hd
    have := h.two
    simp only [prd] at *
    omega
  | x :: l, hl => fun hd => by
    rcases h.mul hd with h1 | h1
    · exact hl x (by simp) h1
    · exact prd_not h l (fun y hy => hl y (by simp [hy])) h1
theorem nodup_map {f : Nat → Nat} : ∀ l : List Nat, l.Nodup → (∀ x y, x ∈ l → y ∈ l → f x = f y → x = y) → (l.map f).Nodup
  | [], _, _ => by simp
  | x :: l, hn, hf => by
    have hn' := List.nodup_cons.1 hn
    rw [List.map_cons, List.nodup_cons]
    refine ⟨fun hm => ?_, nodup_map l hn'.2 fun a b ha hb => hf a b (by simp [ha]) (by simp [hb])⟩
    obtain ⟨y, hy, e⟩ := List.mem_map.1 hm
    have := hf y x (by simp [hy]) (by simp) e
    rw [this] at hy
    exact hn'.1 hy
theorem mul_inj {p a x y : Nat} (h : Pr p) (ha : ¬ p ∣ a) (hx : x < p) (hxy : y ≤ x) (e : a * x % p = a * y % p) : x = y := by
  have h1 : p ∣ a * x - a * y := Nat.dvd_of_mod_eq_zero (Nat.sub_mod_eq_zero_of_mod_eq e)
  rw [← Nat.mul_sub] at h1
  rcases h.mul h1 with h2 | h2
  · exact absurd h2 ha
  · by_cases hz : x - y = 0
    · omega
    · have := Nat.le_of_dvd (by omega) h2
      omega
/-- Fermat. -/
theorem Pr.fermat {p a : Nat} (h : Pr p) (ha : ¬ p ∣ a) : a ^ (p - 1) % p = 1 := by
  have h2 := h.two
  have hm : ∀ x, x ∈ List.range' 1 (p - 1) → 1 ≤ x ∧ x < p := fun x hx => by
    rw [List.mem_range'_1] at hx
    omega
  have hnd : ∀ x, x ∈ List.range' 1 (p - 1) → ¬ p ∣ x := fun x hx hd => by
    have := hm x hx
    have := Nat.le_of_dvd (by omega) hd
    omega
  have hp : ((List.range' 1 (p - 1)).map fun x => a * x % p).Perm (List.range' 1 (p - 1)) := by
    refine perm_of_nodup _ _ (nodup_map _ (List.nodup_range') fun x y hx hy e => ?_) (fun z hz => ?_) (by simp)
    · have hx := hm x hx
      have hy := hm y hy
      rcases Nat.le_total x y with h3 | h3
      · exact (mul_inj h ha hy.2 h3 e.symm).symm
      · exact mul_inj h ha hx.2 h3 e
    · obtain ⟨x, hx, e⟩ := List.mem_map.1 hz
      rw [List.mem_range'_1]
      have hz1 : z < p := by rw [← e]; exact Nat.mod_lt _ (by omega)
      have hz0 : z ≠ 0 := fun h0 => by
        rw [h0] at e
        rcases h.mul (Nat.dvd_of_mod_eq_zero e) with h3 | h3
        · exact ha h3
        · exact hnd x hx h3
      omega
  have e1 := prd_map a p (List.range' 1 (p - 1))
  rw [prd_perm hp, List.length_range'] at e1
  have hP := prd_not h _ hnd
  generalize prd (List.range' 1 (p - 1)) = P at e1 hP
  have hpos : 1 ≤ a ^ (p - 1) := by
    rcases Nat.eq_zero_or_pos a with h0 | h0
    · rw [h0] at ha; exact absurd (Nat.dvd_zero p) ha
    · exact Nat.pow_pos h0
  have hd : p ∣ a ^ (p - 1) * P - P := Nat.dvd_of_mod_eq_zero (Nat.sub_mod_eq_zero_of_mod_eq e1.symm)
  have e3 : a ^ (p - 1) * P - P = (a ^ (p - 1) - 1) * P := by rw [Nat.sub_mul, Nat.one_mul]
  rw [e3] at hd
  rcases h.mul hd with h3 | h3
  · obtain ⟨k, hk⟩ := h3
    rw [show a ^ (p - 1) = 1 + p * k by omega, Nat.add_mul_mod_self_left, Nat.mod_eq_of_lt (by omega)]
  · exact absurd h3 hP
/-- Powers by squaring. -/
def pm (n : Nat) : Nat → Nat → Nat → Nat
  | 0, _, _ => 1 % n
  | f + 1, b, e => if e % 2 = 1 then b * pm n f (b * b % n) (e / 2) % n else pm n f (b * b % n) (e / 2)
theorem pm_eq (n : Nat) : ∀ f b e, e < 2 ^ f → pm n f b e = b ^ e % n
  | 0, b, e, h => by
    have : e = 0 := by simpa using h
    rw [this, pm, Nat.pow_zero]
  | f + 1, b, e, h => by
    have he : e / 2 < 2 ^ f := by rw [Nat.pow_succ] at h; omega
    have ih := pm_eq n f (b * b % n) (e / 2) he
    have e0 : (b * b % n) ^ (e / 2) % n = (b * b) ^ (e / 2) % n := (Nat.pow_mod (b * b) (e / 2) n).symm
    have e1 : (b * b) ^ (e / 2) = b ^ (2 * (e / 2)) := by rw [← Nat.pow_two, ← Nat.pow_mul]
    rw [pm, ih, e0, e1]
    split
    · rename_i ho
      rw [show b ^ e = b ^ (2 * (e / 2) + 1) by congr 1; omega, Nat.pow_succ, Nat.mul_comm _ b]
      simp [Nat.mul_mod]
    · rename_i ho
      rw [show b ^ e = b ^ (2 * (e / 2)) by congr 1; omega]
theorem pow_gcd (h r a b : Nat) : h ^ a % r = 1 % r → h ^ b % r = 1 % r → h ^ (Nat.gcd a b) % r = 1 % r := by
  induction a, b using Nat.gcd.induction with
  | H0 n => intro _ h2; rw [Nat.gcd_zero_left]; exact h2
  | H1 m n _ ih =>
    intro h1 h2
    rw [Nat.gcd_rec]
    refine ih ?_ h1
    have e : h ^ n = (h ^ m) ^ (n / m) * h ^ (n % m) := by rw [← Nat.pow_mul, ← Nat.pow_add, Nat.div_add_mod]
    rw [e, Nat.mul_mod, Nat.pow_mod, h1, ← Nat.pow_mod, Nat.one_pow, ← Nat.mul_mod, Nat.one_mul] at h2
    exact h2
/-- The least divisor that is not 1 is a prime. -/
theorem has_prime (n : Nat) (hn : 2 ≤ n) (hp : ¬ Pr n) : ∃ r, Pr r ∧ r ∣ n ∧ r * r ≤ n := by
  induction n using Nat.strongRecOn with
  | ind n ih =>
    have : ∃ d, d ∣ n ∧ d ≠ 1 ∧ d ≠ n := Classical.byContradiction fun hc => hp ⟨hn, fun d hd => Classical.byContradiction fun h2 => hc ⟨d, hd, fun e => h2 (.inl e), fun e => h2 (.inr e)⟩⟩
    obtain ⟨d, hd, h1, h2⟩ := this
    obtain ⟨k, hk⟩ := hd
    have hd0 : d ≠ 0 := fun e => by rw [e] at hk; omega
    have hk0 : k ≠ 0 := fun e => by rw [e] at hk; omega
    have hk1 : k ≠ 1 := fun e => by rw [e] at hk; omega
    -- the smaller of the two
    have hm : ∃ m, m ∣ n ∧ 2 ≤ m ∧ m < n ∧ m * m ≤ n := by
      rcases Nat.le_total d k with h3 | h3
      · refine ⟨d, ⟨k, hk⟩, by omega, ?_, ?_⟩
        · rw [hk]; have := Nat.mul_le_mul_left d (show 2 ≤ k by omega); omega
        · rw [hk]; exact Nat.mul_le_mul_left d h3
      · refine ⟨k, ⟨d, by rw [hk, Nat.mul_comm]⟩, by omega, ?_, ?_⟩
        · rw [hk]; have := Nat.mul_le_mul_right k (show 2 ≤ d by omega); omega
        · rw [hk]; exact Nat.mul_le_mul_right k h3
    obtain ⟨m, m1, m2, m3, m4⟩ := hm
    by_cases hmp : Pr m
    · exact ⟨m, hmp, m1, m4⟩
    · obtain ⟨r, r1, r2, r3⟩ := ih m m3 m2 hmp
      exact ⟨r, r1, Nat.dvd_trans r2 m1, by omega⟩
/-- Primes by looking. -/
def noDiv (n : Nat) : Nat → Nat → Bool
  | 0, _ => true
  | f + 1, k => n % k != 0 && noDiv n f (k + 1)
theorem noDiv_all (n : Nat) : ∀ f k, noDiv n f k = true → ∀ d, k ≤ d → d < k + f → ¬ d ∣ n
  | 0, k, _, d, h1, h2 => by omega
  | f + 1, k, h, d, h1, h2 => by
    rw [noDiv, Bool.and_eq_true] at h
    by_cases e : d = k
    · rw [e]
      intro hd
      have := Nat.mod_eq_zero_of_dvd hd
      simp [this] at h
    · exact noDiv_all n f (k + 1) h.2 d (by omega) (by omega)
theorem prime_look (n f : Nat) (hn : 2 ≤ n) (hf : n < (f + 2) * (f + 2)) (h : noDiv n f 2 = true) : Pr n := by
  refine Classical.byContradiction fun hp => ?_
  obtain ⟨r, r1, r2, r3⟩ := has_prime n hn hp
  refine noDiv_all n f 2 h r r1.two ?_ r2
  by_cases hr : r < 2 + f
  · exact hr
  · have := Nat.mul_le_mul (show f + 2 ≤ r by omega) (show f + 2 ≤ r by omega)
    omega
/-- A witness for one prime of n - 1. -/
structure Wit (n q g m : Nat) : Prop where
  pr : Pr q
  eq : n - 1 = m * q
  one : pm n 256 g (n - 1) = 1
  cop : Nat.gcd (pm n 256 g m + (n - 1)) n = 1
theorem Wit.dvd {n q g m r : Nat} (h : Wit n q g m) (hn : 2 ≤ n) (hs : n ≤ 2 ^ 256) (hr : Pr r) (hd : r ∣ n) : q ∣ r - 1 := by
  have hq := h.pr.two
  have hm : m < 2 ^ 256 := by have := h.eq; have := Nat.mul_le_mul_left m (show 1 ≤ q by omega); omega
  have e1 := h.one
  have e2 := h.cop
  rw [pm_eq n 256 g (n - 1) (by omega)] at e1
  rw [pm_eq n 256 g m hm] at e2
  have hr2 := hr.two
  have m1 : ∀ x, x % n % r = x % r := fun x => Nat.mod_mod_of_dvd x hd
  have f1 : g ^ (n - 1) % r = 1 % r := by rw [← m1, e1]
  have f2 : ¬ g ^ m % r = 1 % r := by
    intro h3
    have h4 : (g ^ m % n + (n - 1)) % r = 0 := by
      have : (g ^ m % n + (n - 1)) % r = (1 + (n - 1)) % r := by
        rw [Nat.add_mod, m1, h3, ← Nat.add_mod]
      rw [this, show 1 + (n - 1) = n by omega]
      exact Nat.mod_eq_zero_of_dvd hd
    have h5 := Nat.dvd_gcd (Nat.dvd_of_mod_eq_zero h4) hd
    rw [e2] at h5
    have := Nat.le_of_dvd (by omega) h5
    omega
  have f3 : (g ^ m) ^ q % r = 1 % r := by rw [← Nat.pow_mul, ← h.eq]; exact f1
  have hng : ¬ r ∣ g ^ m := by
    intro hx
    have : r ∣ (g ^ m) ^ q := Nat.dvd_trans hx ⟨(g ^ m) ^ (q - 1), by rw [← Nat.pow_succ']; congr 1; omega⟩
    have := Nat.mod_eq_zero_of_dvd this
    rw [f3, Nat.mod_eq_of_lt (by omega)] at this
    omega
  have f4 := hr.fermat hng
  have f5 := pow_gcd (g ^ m) r q (r - 1) f3 (by rw [f4, Nat.mod_eq_of_lt (by omega)])
  rcases h.pr.one (Nat.gcd q (r - 1)) (Nat.gcd_dvd_left _ _) with h6 | h6
  · rw [h6, Nat.pow_one] at f5
    exact absurd f5 f2
  · rw [← h6]
    exact Nat.gcd_dvd_right _ _
theorem prime_one {n q g m : Nat} (h : Wit n q g m) (hn : 2 ≤ n) (hs : n ≤ 2 ^ 256) (hb : n < (q + 1) * (q + 1)) : Pr n := by
  refine Classical.byContradiction fun hp => ?_
  obtain ⟨r, r1, r2, r3⟩ := has_prime n hn hp
  have := r1.two
  have h1 := Nat.le_of_dvd (by omega) (h.dvd hn hs r1 r2)
  have := Nat.mul_le_mul (show q + 1 ≤ r by omega) (show q + 1 ≤ r by omega)
  omega
theorem prime_two {n q g m q' g' m' : Nat} (h : Wit n q g m) (h' : Wit n q' g' m') (hne : Nat.gcd q q' = 1) (hn : 2 ≤ n) (hs : n ≤ 2 ^ 256) (hb : n < (q * q' + 1) * (q * q' + 1)) : Pr n := by
  refine Classical.byContradiction fun hp => ?_
  obtain ⟨r, r1, r2, r3⟩ := has_prime n hn hp
  have := r1.two
  have h1 := Nat.le_of_dvd (by omega) (Nat.Coprime.mul_dvd_of_dvd_of_dvd hne (h.dvd hn hs r1 r2) (h'.dvd hn hs r1 r2))
  have := Nat.mul_le_mul (show q * q' + 1 ≤ r by omega) (show q * q' + 1 ≤ r by omega)
  omega
theorem pr127 : Pr 127 := prime_look 127 10 (by decide) (by decide) (by decide +kernel)
theorem pr353 : Pr 353 := prime_look 353 17 (by decide) (by decide) (by decide +kernel)
theorem pr75707 : Pr 75707 := prime_look 75707 275 (by decide) (by decide) (by decide +kernel)
theorem pr8574133 : Pr 8574133 := prime_look 8574133 2930 (by decide) (by decide) (by decide +kernel)
theorem prA : Pr 1919519569386763 := prime_two (q := 8574133) (g := 2) (m := 223873314) (q' := 127) (g' := 2) (m' := 15114327318006) ⟨pr8574133, by decide, by decide +kernel, by decide +kernel⟩ ⟨pr127, by decide, by decide +kernel, by decide +kernel⟩ (by decide) (by decide) (by decide +kernel) (by decide)
theorem prB : Pr 75445702479781427272750846543864801 := prime_two (q := 1919519569386763) (g := 2) (m := 39304471641247389600) (q' := 75707) (g' := 2) (m' := 996548568557483816196003626400) ⟨prA, by decide, by decide +kernel, by decide +kernel⟩ ⟨pr75707, by decide, by decide +kernel, by decide +kernel⟩ (by decide) (by decide) (by decide +kernel) (by decide)
theorem prC : Pr 74058212732561358302231226437062788676166966415465897661863160754340907 := prime_two (q := 75445702479781427272750846543864801) (g := 2) (m := 981609426360740691344999861639072106) (q' := 353) (g' := 2) (m' := 209796636636151156663544550813209033076960244803019540118592523383402) ⟨prB, by decide, by decide +kernel, by decide +kernel⟩ ⟨pr353, by decide, by decide +kernel, by decide +kernel⟩ (by decide) (by decide) (by decide +kernel) (by decide)
/-- 2^255 - 19 is a prime. -/
theorem prP : Pr 57896044618658097711785492504343953926634992332820282019728792003956564819949 := prime_one (q := 74058212732561358302231226437062788676166966415465897661863160754340907) (g := 2) (m := 781764) ⟨prC, by decide, by decide +kernel, by decide +kernel⟩ (by decide) (by decide +kernel) (by decide)
/-- One less than the prime. -/
def pM : Nat := 57896044618658097711785492504343953926634992332820282019728792003956564819948
theorem pM_eq : pM + 1 = pC := rfl
theorem pC_pr : Pr (pM + 1) := prP
abbrev F := Fin (pM + 1)
theorem F.val_zero : (0 : F).val = 0 := rfl
theorem F.not_dvd {x : F} (hx : x ≠ 0) : ¬ (pM + 1) ∣ x.val := fun h => hx (Fin.ext (by
    have := x.isLt
    rw [F.val_zero]
    rcases Nat.eq_zero_or_pos x.val with h0 | h0
    · exact h0
    · have := Nat.le_of_dvd h0 h; omega))
theorem F.mul_ne {x y : F} (hx : x ≠ 0) (hy : y ≠ 0) : x * y ≠ 0 := fun h => by
  have h1 : (x.val * y.val) % (pM + 1) = 0 := by rw [← Fin.val_mul, h]; rfl
  rcases pC_pr.mul (Nat.dvd_of_mod_eq_zero h1) with h2 | h2
  · exact F.not_dvd hx h2
  · exact F.not_dvd hy h2
theorem F.mul0 {x y : F} (h : x * y = 0) : x = 0 ∨ y = 0 := Classical.byContradiction fun hc =>
  F.mul_ne (fun e => hc (.inl e)) (fun e => hc (.inr e)) h
/-- What a number is modulo the prime. -/
def ph (a : Nat) : F := Fin.ofNat (pM + 1) a
theorem ph_val (a : Nat) : (ph a).val = a % (pM + 1) := rfl
theorem ph_mod (a : Nat) : ph (a % (pM + 1)) = ph a := Fin.ext (by rw [ph_val, ph_val, Nat.mod_mod])
theorem ph_add (a b : Nat) : ph (a + b) = ph a + ph b := Fin.ext (by rw [Fin.val_add, ph_val, ph_val, ph_val, ← Nat.add_mod])
theorem ph_mul (a b : Nat) : ph (a * b) = ph a * ph b := Fin.ext (by rw [Fin.val_mul, ph_val, ph_val, ph_val, ← Nat.mul_mod])
theorem ph_of (x : F) : ph x.val = x := Fin.ext (by rw [ph_val, Nat.mod_eq_of_lt x.isLt])
/-- The power that is the inverse. -/
theorem pow_one {n x e : Nat} (hp : Pr n) (hx : ¬ n ∣ x) (he : e + 1 = n - 1) : x * x ^ e % n = 1 := by
  rw [← Nat.pow_succ', show e.succ = n - 1 from he]
  exact hp.fermat hx
theorem F.pow_inv {x : F} {e : Nat} (hx : x ≠ 0) (he : e + 1 = pM) : x * ph (x.val ^ e) = 1 := by
  have h := pow_one pC_pr (F.not_dvd hx) he
  have e2 : x * ph (x.val ^ e) = ph (x.val * x.val ^ e) := by rw [ph_mul, ph_of]
  rw [e2]
  exact Fin.ext (by rw [ph_val, h]; rfl)
/-- The inverse; of 0 it is 0. -/
def fi (x : F) : F := ph (pm (pM + 1) 256 x.val (pM - 1))
theorem fi_pow (x : F) : fi x = ph (x.val ^ (pM - 1)) := by
  unfold fi
  rw [pm_eq _ _ _ _ (by decide)]
  exact ph_mod _
theorem fi_mul {x : F} (hx : x ≠ 0) : x * fi x = 1 := by
  rw [fi_pow]
  exact F.pow_inv hx rfl
theorem ph_zero_pow {e : Nat} (he : 0 < e) : ph (0 ^ e) = 0 := Fin.ext (by rw [ph_val, Nat.zero_pow he]; rfl)
theorem fi_zero : fi 0 = 0 := by
  rw [fi_pow, F.val_zero]
  exact ph_zero_pow (by decide)
theorem F.cancel {x y z : F} (hz : z ≠ 0) (h : x * z = y * z) : x = y := by
  have h1 : (x - y) * z = 0 := by grind
  rcases F.mul0 h1 with h2 | h2
  · grind
  · exact absurd h2 hz
theorem fi_eq {x y : F} (hx : x ≠ 0) (h : x * y = 1) : y = fi x := by
  have h2 := fi_mul hx
  exact F.cancel hx (by grind)
theorem two_ne : (2 : F) ≠ 0 := by decide
theorem one_ne : (1 : F) ≠ 0 := by decide
theorem four_ne : (4 : F) ≠ 0 := by decide
theorem half {x : F} (h : 2 * x = 0) : x = 0 := (F.mul0 h).elim (fun h => absurd h two_ne) id
def cA : F := 486664
def cD : F := 486660
def cR : F := 9094040566125962849133224048217411091405536248825867518642941381412595940312
theorem cR_sq : cR * cR = cA := by decide
theorem cA_eq : cA = cD + 4 := by decide
theorem cD_eq : cD = 4 * 121665 := by decide
theorem pow_not {n d e s : Nat} (hp : Pr n) (_h2 : 2 < n) (h : pm n 256 d e = n - 1) (hb : e < 2 ^ 256) (he : 2 * e = n - 1) (hs : ¬ n ∣ s) (hd : s * s % n = d) : False := by
  rw [pm_eq _ _ _ _ hb, ← hd, ← Nat.pow_mod, ← Nat.pow_two, ← Nat.pow_mul, he, hp.fermat hs] at h
  omega
theorem cD_pow : pm (pM + 1) 256 486660 28948022309329048855892746252171976963317496166410141009864396001978282409974 = pM := by decide +kernel
theorem cD_not (s : F) : s * s ≠ cD := by
  intro h
  have hs : s ≠ 0 := by
    rintro rfl
    exact absurd h (by decide)
  exact pow_not pC_pr (by decide) cD_pow (by decide) (by decide) (F.not_dvd hs) (by rw [← Fin.val_mul, h]; rfl)
/-- On the curve. -/
def On (a d x y : F) : Prop := a * x * x + y * y = 1 + d * x * x * y * y
theorem wh1 {a d x1 y1 x2 y2 r e : F} (h1 : On a d x1 y1) (h2 : On a d x2 y2) (hr : r * r = a) (he : e * e = 1) (h : d * x1 * y1 * x2 * y2 = e) :
    (r * x1 + e * y1) * (r * x1 + e * y1) = d * (x1 * y1 * (r * x2 + y2)) * (x1 * y1 * (r * x2 + y2)) := by
  unfold On at h1 h2
  grind
theorem wh2 {a d x1 y1 x2 y2 r e : F} (h1 : On a d x1 y1) (h2 : On a d x2 y2) (hr : r * r = a) (he : e * e = 1) (h : d * x1 * y1 * x2 * y2 = e) :
    (r * x1 - e * y1) * (r * x1 - e * y1) = d * (x1 * y1 * (r * x2 - y2)) * (x1 * y1 * (r * x2 - y2)) := by
  unfold On at h1 h2
  grind
theorem not_sq {a b d : F} (hd : ∀ s, s * s ≠ d) (hb : b ≠ 0) : a * a ≠ d * b * b := fun h => by
  have hf := fi_mul hb
  refine hd (a * fi b) ?_
  grind
/-- No denominator is nought. -/
theorem whole {x1 y1 x2 y2 e : F} (he : e * e = 1) (h1 : On cA cD x1 y1) (h2 : On cA cD x2 y2) (h : cD * x1 * y1 * x2 * y2 = e) : False := by
  have he0 : e ≠ 0 := by
    rintro rfl
    exact absurd he (by decide)
  have ht : x1 * y1 ≠ 0 := fun h0 => he0 (by grind)
  have hy : y2 ≠ 0 := fun h0 => he0 (by grind)
  by_cases ha : cR * x2 + y2 = 0
  · by_cases hb : cR * x2 - y2 = 0
    · refine hy (half ?_)
      grind
    · exact not_sq cD_not (F.mul_ne ht hb) (wh2 h1 h2 cR_sq he h)
  · exact not_sq cD_not (F.mul_ne ht ha) (wh1 h1 h2 cR_sq he h)
theorem den1 {x1 y1 x2 y2 : F} (h1 : On cA cD x1 y1) (h2 : On cA cD x2 y2) : 1 + cD * x1 * y1 * x2 * y2 ≠ 0 := fun h =>
  whole (e := -1) (by decide) h1 h2 (by grind)
theorem den2 {x1 y1 x2 y2 : F} (h1 : On cA cD x1 y1) (h2 : On cA cD x2 y2) : 1 - cD * x1 * y1 * x2 * y2 ≠ 0 := fun h =>
  whole (e := 1) (by decide) h1 h2 (by grind)
theorem on_add {a d x1 y1 x2 y2 N1 N2 D1 D2 : F} (h1 : On a d x1 y1) (h2 : On a d x2 y2) (e1 : N1 = x1 * y2 + y1 * x2) (e2 : N2 = y1 * y2 - a * x1 * x2) (e3 : D1 = 1 + d * x1 * y1 * x2 * y2) (e4 : D2 = 1 - d * x1 * y1 * x2 * y2) :
    a * (N1 * D2) * (N1 * D2) + (N2 * D1) * (N2 * D1) = (D1 * D2) * (D1 * D2) + d * (N1 * N2) * (N1 * N2) := by
  unfold On at h1 h2
  subst e1 e2 e3 e4
  grind
theorem assoc1 {a d x1 y1 x2 y2 x3 y3 : F} (e1 : On a d x1 y1) (e2 : On a d x2 y2) (e3 : On a d x3 y3) :
    ((x1 * y2 + y1 * x2) * (1 - d * x1 * y1 * x2 * y2) * y3 + (y1 * y2 - a * x1 * x2) * (1 + d * x1 * y1 * x2 * y2) * x3) * ((1 + d * x2 * y2 * x3 * y3) * (1 - d * x2 * y2 * x3 * y3) + d * x1 * y1 * ((x2 * y3 + y2 * x3) * (y2 * y3 - a * x2 * x3)))
    = (x1 * ((y2 * y3 - a * x2 * x3) * (1 + d * x2 * y2 * x3 * y3)) + y1 * ((x2 * y3 + y2 * x3) * (1 - d * x2 * y2 * x3 * y3))) * ((1 + d * x1 * y1 * x2 * y2) * (1 - d * x1 * y1 * x2 * y2) + d * x3 * y3 * ((x1 * y2 + y1 * x2) * (y1 * y2 - a * x1 * x2))) := by
  unfold On at e1 e2 e3
  grind
theorem assoc2 {a d x1 y1 x2 y2 x3 y3 : F} (e1 : On a d x1 y1) (e2 : On a d x2 y2) (e3 : On a d x3 y3) :
    ((y1 * y2 - a * x1 * x2) * (1 + d * x1 * y1 * x2 * y2) * y3 - a * ((x1 * y2 + y1 * x2) * (1 - d * x1 * y1 * x2 * y2)) * x3) * ((1 + d * x2 * y2 * x3 * y3) * (1 - d * x2 * y2 * x3 * y3) - d * x1 * y1 * ((x2 * y3 + y2 * x3) * (y2 * y3 - a * x2 * x3)))
    = (y1 * ((y2 * y3 - a * x2 * x3) * (1 + d * x2 * y2 * x3 * y3)) - a * x1 * ((x2 * y3 + y2 * x3) * (1 - d * x2 * y2 * x3 * y3))) * ((1 + d * x1 * y1 * x2 * y2) * (1 - d * x1 * y1 * x2 * y2) - d * x3 * y3 * ((x1 * y2 + y1 * x2) * (y1 * y2 - a * x1 * x2))) := by
  unfold On at e1 e2 e3
  grind
/-- A point. -/
structure Pt where
  x : F
  y : F
  on : On cA cD x y
theorem Pt.eq {P Q : Pt} (h1 : P.x = Q.x) (h2 : P.y = Q.y) : P = Q := by
  cases P; cases Q; simp only at h1 h2; subst h1 h2; rfl
/-- The sum's equations. -/
structure Sum (P Q S : Pt) : Prop where
  x : S.x * (1 + cD * P.x * P.y * Q.x * Q.y) = P.x * Q.y + P.y * Q.x
  y : S.y * (1 - cD * P.x * P.y * Q.x * Q.y) = P.y * Q.y - cA * P.x * Q.x
theorem add_on (P Q : Pt) : On cA cD ((P.x * Q.y + P.y * Q.x) * fi (1 + cD * P.x * P.y * Q.x * Q.y)) ((P.y * Q.y - cA * P.x * Q.x) * fi (1 - cD * P.x * P.y * Q.x * Q.y)) := by
  obtain ⟨N1, e1⟩ : ∃ N1, N1 = P.x * Q.y + P.y * Q.x := ⟨_, rfl⟩
  obtain ⟨N2, e2⟩ : ∃ N2, N2 = P.y * Q.y - cA * P.x * Q.x := ⟨_, rfl⟩
  obtain ⟨D1, e3⟩ : ∃ D1, D1 = 1 + cD * P.x * P.y * Q.x * Q.y := ⟨_, rfl⟩
  obtain ⟨D2, e4⟩ : ∃ D2, D2 = 1 - cD * P.x * P.y * Q.x * Q.y := ⟨_, rfl⟩
  have h := on_add P.on Q.on e1 e2 e3 e4
  have f1 := fi_mul (by rw [e3]; exact den1 P.on Q.on : D1 ≠ 0)
  have f2 := fi_mul (by rw [e4]; exact den2 P.on Q.on : D2 ≠ 0)
  rw [← e1, ← e2, ← e3, ← e4]
  generalize fi D1 = i1 at f1
  generalize fi D2 = i2 at f2
  unfold On
  clear e1 e2 e3 e4
  generalize cA = a at h
  generalize cD = d at h
  grind
/-- The sum. -/
def add (P Q : Pt) : Pt := ⟨(P.x * Q.y + P.y * Q.x) * fi (1 + cD * P.x * P.y * Q.x * Q.y), (P.y * Q.y - cA * P.x * Q.x) * fi (1 - cD * P.x * P.y * Q.x * Q.y), add_on P Q⟩
theorem fi_back {n d : F} (hd : d ≠ 0) : n * fi d * d = n := by
  have h := fi_mul hd
  grind
theorem add_sum (P Q : Pt) : Sum P Q (add P Q) := ⟨fi_back (den1 P.on Q.on), fi_back (den2 P.on Q.on)⟩
theorem Sum.uniq {P Q S T : Pt} (h : Sum P Q S) (k : Sum P Q T) : S = T :=
  Pt.eq (F.cancel (den1 P.on Q.on) (h.x.trans k.x.symm)) (F.cancel (den2 P.on Q.on) (h.y.trans k.y.symm))
theorem Sum.eq {P Q S : Pt} (h : Sum P Q S) : add P Q = S := (add_sum P Q).uniq h
theorem add_comm (P Q : Pt) : add P Q = add Q P := by
  have h := add_sum Q P
  refine Sum.eq ⟨?_, ?_⟩
  · have := h.x; grind
  · have := h.y; grind
def O : Pt := ⟨0, 1, by unfold On; decide⟩
theorem add_O (P : Pt) : add P O = P := by
  refine Sum.eq ⟨?_, ?_⟩ <;> (show _ = _) <;> simp only [O] <;> grind
theorem O_add (P : Pt) : add O P = P := by rw [add_comm, add_O]
def neg (P : Pt) : Pt := ⟨-P.x, P.y, by have := P.on; unfold On at *; grind⟩
theorem add_neg (P : Pt) : add P (neg P) = O := by
  have h := P.on
  unfold On at h
  refine Sum.eq ⟨?_, ?_⟩
  · show (0 : F) * _ = P.x * P.y + P.y * (-P.x)
    grind
  · show (1 : F) * (1 - cD * P.x * P.y * (-P.x) * P.y) = P.y * P.y - cA * P.x * (-P.x)
    grind
/-- What is left of both sides when the inner sums are written out. -/
theorem lift1 {a1 a2 b1 b2 c1 c2 sx sy ux uy d t1 t3 x1 y1 x3 y3 Z W : F} (hZ : Z ≠ 0) (hW : W ≠ 0) (h1 : sx * Z = a1) (h2 : sy * Z = b1) (h3 : sx * sy * Z = c1) (h4 : ux * W = a2) (h5 : uy * W = b2) (h6 : ux * uy * W = c2)
    (h : (a1 * y3 + b1 * x3) * (W + d * t1 * c2) = (x1 * b2 + y1 * a2) * (Z + d * t3 * c1)) : (sx * y3 + sy * x3) * (1 + d * t1 * (ux * uy)) = (x1 * uy + y1 * ux) * (1 + d * t3 * (sx * sy)) := by
  refine F.cancel (F.mul_ne hZ hW) ?_
  subst h1 h2 h3 h4 h5 h6
  grind
theorem lift2 {a1 a2 b1 b2 c1 c2 sx sy ux uy a d t1 t3 x1 y1 x3 y3 Z W : F} (hZ : Z ≠ 0) (hW : W ≠ 0) (h1 : sx * Z = a1) (h2 : sy * Z = b1) (h3 : sx * sy * Z = c1) (h4 : ux * W = a2) (h5 : uy * W = b2) (h6 : ux * uy * W = c2)
    (h : (b1 * y3 - a * a1 * x3) * (W - d * t1 * c2) = (y1 * b2 - a * x1 * a2) * (Z - d * t3 * c1)) : (sy * y3 - a * sx * x3) * (1 - d * t1 * (ux * uy)) = (y1 * uy - a * x1 * ux) * (1 - d * t3 * (sx * sy)) := by
  refine F.cancel (F.mul_ne hZ hW) ?_
  subst h1 h2 h3 h4 h5 h6
  grind
theorem cross {x y n m d e : F} (hd : d ≠ 0) (he : e ≠ 0) (h1 : x * d = n) (h2 : y * e = m) (h : n * e = m * d) : x = y := by
  refine F.cancel (F.mul_ne hd he) ?_
  subst h1 h2
  grind
theorem add_assoc (P Q R : Pt) : add (add P Q) R = add P (add Q R) := by
  have hS := add_sum P Q
  have hU := add_sum Q R
  have hL := add_sum (add P Q) R
  have hM := add_sum P (add Q R)
  have d1 := den1 P.on Q.on
  have d2 := den2 P.on Q.on
  have d3 := den1 Q.on R.on
  have d4 := den2 Q.on R.on
  have d5 := den1 (add P Q).on R.on
  have d6 := den2 (add P Q).on R.on
  have d7 := den1 P.on (add Q R).on
  have d8 := den2 P.on (add Q R).on
  have a1 := assoc1 P.on Q.on R.on
  have a2 := assoc2 P.on Q.on R.on
  generalize add P Q = S at *
  generalize add Q R = U at *
  generalize add S R = L at *
  generalize add P U = M at *
  obtain ⟨hS1, hS2⟩ := hS
  obtain ⟨hU1, hU2⟩ := hU
  obtain ⟨hL1, hL2⟩ := hL
  obtain ⟨hM1, hM2⟩ := hM
  obtain ⟨D1, e1⟩ : ∃ D1, D1 = 1 + cD * P.x * P.y * Q.x * Q.y := ⟨_, rfl⟩
  obtain ⟨D2, e2⟩ : ∃ D1, D1 = 1 - cD * P.x * P.y * Q.x * Q.y := ⟨_, rfl⟩
  obtain ⟨D3, e3⟩ : ∃ D1, D1 = 1 + cD * Q.x * Q.y * R.x * R.y := ⟨_, rfl⟩
  obtain ⟨D4, e4⟩ : ∃ D1, D1 = 1 - cD * Q.x * Q.y * R.x * R.y := ⟨_, rfl⟩
  obtain ⟨N1, f1⟩ : ∃ N, N = P.x * Q.y + P.y * Q.x := ⟨_, rfl⟩
  obtain ⟨N2, f2⟩ : ∃ N, N = P.y * Q.y - cA * P.x * Q.x := ⟨_, rfl⟩
  obtain ⟨N3, f3⟩ : ∃ N, N = Q.x * R.y + Q.y * R.x := ⟨_, rfl⟩
  obtain ⟨N4, f4⟩ : ∃ N, N = Q.y * R.y - cA * Q.x * R.x := ⟨_, rfl⟩
  rw [← e1] at d1 hS1
  rw [← e2] at d2 hS2
  rw [← e3] at d3 hU1
  rw [← e4] at d4 hU2
  rw [← f1] at hS1
  rw [← f2] at hS2
  rw [← f3] at hU1
  rw [← f4] at hU2
  rw [← e1, ← e2, ← e3, ← e4, ← f1, ← f2, ← f3, ← f4] at a1 a2
  have g1 : S.x * (D1 * D2) = N1 * D2 := by rw [← hS1]; grind
  have g2 : S.y * (D1 * D2) = N2 * D1 := by rw [← hS2]; grind
  have g3 : S.x * S.y * (D1 * D2) = N1 * N2 := by rw [← hS1, ← hS2]; grind
  have g4 : U.x * (D3 * D4) = N3 * D4 := by rw [← hU1]; grind
  have g5 : U.y * (D3 * D4) = N4 * D3 := by rw [← hU2]; grind
  have g6 : U.x * U.y * (D3 * D4) = N3 * N4 := by rw [← hU1, ← hU2]; grind
  have l1 := lift1 (d := cD) (t1 := P.x * P.y) (t3 := R.x * R.y) (x1 := P.x) (y1 := P.y) (x3 := R.x) (y3 := R.y) (F.mul_ne d1 d2) (F.mul_ne d3 d4) g1 g2 g3 g4 g5 g6 (by rw [show cD * (P.x * P.y) = cD * P.x * P.y by grind, show cD * (R.x * R.y) = cD * R.x * R.y by grind]; exact a1)
  have l2 := lift2 (a := cA) (d := cD) (t1 := P.x * P.y) (t3 := R.x * R.y) (x1 := P.x) (y1 := P.y) (x3 := R.x) (y3 := R.y) (F.mul_ne d1 d2) (F.mul_ne d3 d4) g1 g2 g3 g4 g5 g6 (by rw [show cD * (P.x * P.y) = cD * P.x * P.y by grind, show cD * (R.x * R.y) = cD * R.x * R.y by grind]; exact a2)
  clear a1 a2 g1 g2 g3 g4 g5 g6 hS1 hS2 hU1 hU2 e1 e2 e3 e4 f1 f2 f3 f4 d1 d2 d3 d4
  refine Pt.eq ?_ ?_
  · refine cross d5 d7 hL1 hM1 ?_
    rw [show 1 + cD * P.x * P.y * U.x * U.y = 1 + cD * (P.x * P.y) * (U.x * U.y) by grind, l1]
    grind
  · refine cross d6 d8 hL2 hM2 ?_
    rw [show 1 - cD * P.x * P.y * U.x * U.y = 1 - cD * (P.x * P.y) * (U.x * U.y) by grind, l2]
    grind
/-- n times a point. -/
def mul : Nat → Pt → Pt
  | 0, _ => O
  | n + 1, P => add (mul n P) P
theorem mul_zero (P : Pt) : mul 0 P = O := rfl
theorem mul_succ (n : Nat) (P : Pt) : mul (n + 1) P = add (mul n P) P := rfl
theorem mul_one (P : Pt) : mul 1 P = P := by rw [mul_succ, mul_zero, O_add]
theorem mul_add (m n : Nat) (P : Pt) : mul (m + n) P = add (mul m P) (mul n P) := by
  induction n with
  | zero => rw [Nat.add_zero, mul_zero, add_O]
  | succ n ih => rw [← Nat.add_assoc, mul_succ, mul_succ, ih, add_assoc]
theorem mul_mul (m n : Nat) (P : Pt) : mul m (mul n P) = mul (m * n) P := by
  induction m with
  | zero => rw [Nat.zero_mul, mul_zero, mul_zero]
  | succ m ih => rw [mul_succ, ih, Nat.succ_mul, mul_add]
theorem mul_swap (m n : Nat) (P : Pt) : mul m (mul n P) = mul n (mul m P) := by rw [mul_mul, mul_mul, Nat.mul_comm]
theorem dy_ne (P : Pt) : cA - cD * P.y * P.y ≠ 0 := fun h => by
  have e := P.on
  unfold On at e
  have h1 : P.y * P.y = 1 := by
    have : P.x * P.x * (cA - cD * P.y * P.y) = 0 := by rw [h]; grind
    grind
  have h3 : cA = cD := by grind
  exact absurd h3 (by decide)
/-- The ratio X : Z stands for the point. -/
structure Rep (X Z : F) (P : Pt) : Prop where
  y : X - Z = P.y * (X + Z)
  ne : X + Z ≠ 0
theorem dbl_poly {a d c x y s D : F} (h : On a d x y) (ha : a = d + 4) (hd : d = 4 * c) (hD : D = 1 - d * x * y * x * y) :
    (s * s * (y * s * (y * s)) - (s * s - y * s * (y * s)) * (s * s + c * (s * s - y * s * (y * s)))) * D = (y * y - a * x * x) * (s * s * (y * s * (y * s)) + (s * s - y * s * (y * s)) * (s * s + c * (s * s - y * s * (y * s)))) := by
  unfold On at h
  subst ha hD hd
  grind
theorem dbl_poly2 {a d c x y s D : F} (h : On a d x y) (ha : a = d + 4) (hd : d = 4 * c) (hD : D = 1 - d * x * y * x * y) :
    4 * (s * s * (y * s * (y * s)) + (s * s - y * s * (y * s)) * (s * s + c * (s * s - y * s * (y * s)))) = s * s * (s * s) * ((a - d * y * y) * D) := by
  unfold On at h
  subst ha hD hd
  grind
theorem Rep.dbl {X Z : F} {P : Pt} (h : Rep X Z P) :
    Rep ((X + Z) * (X + Z) * ((X - Z) * (X - Z))) (((X + Z) * (X + Z) - (X - Z) * (X - Z)) * ((X + Z) * (X + Z) + 121665 * ((X + Z) * (X + Z) - (X - Z) * (X - Z)))) (add P P) := by
  obtain ⟨hy, hn⟩ := h
  rw [hy]
  generalize X + Z = s at hn
  have hs := (add_sum P P).y
  have hD := den2 P.on P.on
  obtain ⟨D, eD⟩ : ∃ D, D = 1 - cD * P.x * P.y * P.x * P.y := ⟨_, rfl⟩
  have p1 := dbl_poly (s := s) P.on cA_eq cD_eq eD
  have p2 := dbl_poly2 (s := s) P.on cA_eq cD_eq eD
  rw [← eD] at hs hD
  refine ⟨F.cancel hD ?_, fun h0 => ?_⟩
  · rw [p1, ← hs]
    grind
  · rw [h0] at p2
    refine F.mul_ne (F.mul_ne (F.mul_ne hn hn) (F.mul_ne hn hn)) (F.mul_ne (dy_ne P) hD) ?_
    rw [← p2]
    grind
theorem sum_poly {a d x1 y1 x2 y2 : F} (h1 : On a d x1 y1) (h2 : On a d x2 y2) :
    ((1 - d * x1 * y1 * x2 * y2) - (y1 * y2 - a * x1 * x2)) * ((1 + d * x1 * y1 * x2 * y2) - (y1 * y2 + a * x1 * x2)) * ((y1 + y2) * (y1 + y2)) = ((1 - d * x1 * y1 * x2 * y2) + (y1 * y2 - a * x1 * x2)) * ((1 + d * x1 * y1 * x2 * y2) + (y1 * y2 + a * x1 * x2)) * ((y1 - y2) * (y1 - y2)) := by
  unfold On at h1 h2
  grind
theorem sum_poly2 {yp ym D1 D2 n1 n2 s1 s2 : F} (hD1 : D1 ≠ 0) (hD2 : D2 ≠ 0) (e1 : yp * D2 = n1) (e2 : ym * D1 = n2) (h : (D2 - n1) * (D1 - n2) * s1 = (D2 + n1) * (D1 + n2) * s2) : (1 - yp) * (1 - ym) * s1 = (1 + yp) * (1 + ym) * s2 := by
  refine F.cancel (F.mul_ne hD1 hD2) ?_
  subst e1 e2
  grind
/-- Of two points, their sum and what is between them. -/
structure Diff (P Q : Pt) (y : F) : Prop where
  y : y * (1 + cD * P.x * P.y * Q.x * Q.y) = P.y * Q.y + cA * P.x * Q.x
theorem Diff.symm {P Q : Pt} {y : F} (h : Diff P Q y) : Diff Q P y := ⟨by have := h.y; grind⟩
theorem Diff.of (P Q : Pt) : Diff P (add P Q) Q.y := by
  have h := add_sum (add P Q) (neg P)
  have e : add (add P Q) (neg P) = Q := by rw [add_comm P Q, add_assoc, add_neg, add_O]
  rw [e] at h
  have hy := h.y
  simp only [neg] at hy
  exact ⟨by grind⟩
theorem end1 {A B u yp : F} (h0 : A * A + u * (B * B) = 0) (key : A * A - u * (B * B) = yp * 0) (hu0 : u ≠ 0) : A = 0 ∧ B = 0 := by
  have h1 : 2 * (A * A) = 0 := by grind
  have h2 : A = 0 := (F.mul0 (half h1)).elim id id
  refine ⟨h2, ?_⟩
  have h3 : u * (B * B) = 0 := by grind
  exact (F.mul0 h3).elim (fun h => absurd h hu0) fun h => (F.mul0 h).elim id id
theorem end2 {y1 y2 s1 s2 : F} (h1 : y2 * s2 * s1 + s2 * (y1 * s1) = 0) (h2 : y2 * s2 * s1 - s2 * (y1 * s1) = 0) (hn1 : s1 ≠ 0) (hn2 : s2 ≠ 0) : y1 = 0 ∧ y2 = 0 := by
  have h3 : 2 * (y1 * (s1 * s2)) = 0 := by grind
  have h4 : 2 * (y2 * (s1 * s2)) = 0 := by grind
  exact ⟨(F.mul0 (half h3)).elim id fun h => absurd h (F.mul_ne hn1 hn2), (F.mul0 (half h4)).elim id fun h => absurd h (F.mul_ne hn1 hn2)⟩
theorem end3 {a d x1 x2 u ym : F} (h1 : On a d x1 0) (h2 : On a d x2 0) (hd : ym * (1 + d * x1 * 0 * x2 * 0) = 0 * 0 + a * x1 * x2) (hu : u * (1 - ym) = 1 + ym) (hu0 : u ≠ 0) (hm : ym ≠ 1) : False := by
  unfold On at h1 h2
  simp only [Fin.mul_zero, Fin.zero_mul, Fin.add_zero, Fin.zero_add, Fin.mul_one] at h1 h2 hd
  have hq : (ym - 1) * (ym + 1) = 0 := by clear hu; grind
  rcases F.mul0 hq with h | h
  · exact hm (by clear hu hd h1 h2; grind)
  · refine hu0 (half ?_)
    clear hd h1 h2
    grind
theorem Rep.sum {X2 Z2 X3 Z3 u ym : F} {P Q : Pt} (h1 : Rep X2 Z2 P) (h2 : Rep X3 Z3 Q) (hd : Diff P Q ym) (hu : u * (1 - ym) = 1 + ym) (hu0 : u ≠ 0) (hm : ym ≠ 1) :
    Rep (((X3 - Z3) * (X2 + Z2) + (X3 + Z3) * (X2 - Z2)) * ((X3 - Z3) * (X2 + Z2) + (X3 + Z3) * (X2 - Z2))) (u * (((X3 - Z3) * (X2 + Z2) - (X3 + Z3) * (X2 - Z2)) * ((X3 - Z3) * (X2 + Z2) - (X3 + Z3) * (X2 - Z2)))) (add P Q) := by
  obtain ⟨hy1, hn1⟩ := h1
  obtain ⟨hy2, hn2⟩ := h2
  rw [hy1, hy2]
  generalize X2 + Z2 = s1 at hn1
  generalize X3 + Z3 = s2 at hn2
  have hs := (add_sum P Q).y
  have hd := hd.y
  have p1 := sum_poly P.on Q.on
  have p2 := sum_poly2 (den1 P.on Q.on) (den2 P.on Q.on) hs hd p1
  have hm1 : 1 - ym ≠ 0 := fun h => hm (by grind)
  generalize hyp : (add P Q).y = yp at p2
  have key : (Q.y * s2 * s1 + s2 * (P.y * s1)) * (Q.y * s2 * s1 + s2 * (P.y * s1)) - u * ((Q.y * s2 * s1 - s2 * (P.y * s1)) * (Q.y * s2 * s1 - s2 * (P.y * s1))) = yp * ((Q.y * s2 * s1 + s2 * (P.y * s1)) * (Q.y * s2 * s1 + s2 * (P.y * s1)) + u * ((Q.y * s2 * s1 - s2 * (P.y * s1)) * (Q.y * s2 * s1 - s2 * (P.y * s1)))) := by
    refine F.cancel hm1 ?_
    generalize P.y = y1 at p2 ⊢
    generalize Q.y = y2 at p2 ⊢
    clear hyp hs hd p1 hy1 hy2
    grind
  refine ⟨by rw [hyp]; exact key, fun h0 => ?_⟩
  rw [h0] at key
  obtain ⟨hA, hB⟩ := end1 h0 key hu0
  obtain ⟨z1, z2⟩ := end2 hA hB hn1 hn2
  have ho1 := P.on
  have ho2 := Q.on
  rw [z1] at ho1 hd
  rw [z2] at ho2 hd
  exact end3 ho1 ho2 hd hu hu0 hm
end Go.Proofs.YtookapglookphaaDoor.Ed
