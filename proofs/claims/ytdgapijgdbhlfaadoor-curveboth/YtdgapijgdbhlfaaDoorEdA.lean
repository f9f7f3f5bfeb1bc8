/- Primes: Fermat's theorem, and 2^255 - 19. -/
import Derived.Test.YtdgapijgdbhlfaaDoorCuS
namespace Go.Proofs.YtdgapijgdbhlfaaDoor.Ed

/-- A prime. -/
structure Pr (n : Nat) : Prop where
  two : 2 ≤ n
  one : ∀ d, d ∣ n → d = 1 ∨ d = n
theorem Pr.cop {p a : Nat} (h : Pr p) (ha : ¬ p ∣ a) : Nat.Coprime p a := by
  rcases h.one (Nat.gcd p a) (Nat.gcd_dvd_left p a) with e | e
  · exact e
  · exact absurd (e ▸ Nat.gcd_dvd_right p a) ha
theorem Pr.mul {p a b : Nat} (h : Pr p) (hd : p ∣ a * b) : p ∣ a ∨ p ∣ b := by
  by_cases ha : p ∣ a
  · exact .inl ha
  · exact .inr ((h.cop ha).dvd_of_dvd_mul_left hd)
theorem Pr.pow {p a n : Nat} (h : Pr p) (hd : p ∣ a ^ n) : p ∣ a := by
  induction n with
  | zero =>
    have := h.two
    rw [Nat.pow_zero] at hd
    have := Nat.le_of_dvd (by omega) hd
    omega
  | succ n ih =>
    rw [Nat.pow_succ] at hd
    rcases h.mul hd with h1 | h1
    · exact ih h1
    · exact h1
/-- The product of a list. -/
def prd : List Nat → Nat
  | [] => 1
  | x :: l => x * prd l
theorem prd_perm {l m : List Nat} (h : l.Perm m) : prd l = prd m := by
  induction h with
  | nil => rfl
  | cons x _ ih => simp [prd, ih]
  | swap x y l => simp [prd, Nat.mul_left_comm]
  | trans _ _ h1 h2 => rw [h1, h2]
theorem perm_of_nodup : ∀ (l m : List Nat), l.Nodup → (∀ x, x ∈ l → x ∈ m) → l.length = m.length → l.Perm m
  | [], m, _, _, hl => by
    have : m = [] := List.eq_nil_of_length_eq_zero hl.symm
    rw [this]
  | x :: t, m, hn, hs, hl => by
    have hx := hs x (by simp)
    have hn' := List.nodup_cons.1 hn
    have h1 : t.Perm (m.erase x) := by
      refine perm_of_nodup t (m.erase x) hn'.2 (fun y hy => ?_) ?_
      · refine (List.mem_erase_of_ne ?_).2 (hs y (by simp [hy]))
        rintro rfl
        exact hn'.1 hy
      · rw [List.length_erase_of_mem hx]
        simp only [List.length_cons] at hl
        omega
    exact (h1.cons x).trans (List.perm_cons_erase hx).symm
theorem prd_map (a p : Nat) : ∀ l : List Nat, prd (l.map fun x => a * x % p) % p = a ^ l.length * prd l % p
  | [] => by simp [prd]
  | x :: l => by
    have ih := prd_map a p l
    rw [List.map_cons, prd, prd, List.length_cons, Nat.mul_mod, ih, ← Nat.mul_mod, Nat.mul_mod, Nat.mod_mod, ← Nat.mul_mod]
    congr 1
    rw [Nat.pow_succ]
    ac_rfl
theorem prd_not {p : Nat} (h : Pr p) : ∀ l : List Nat, (∀ x, x ∈ l → ¬ p ∣ x) → ¬ p ∣ prd l
  | [], _ => fun hd => by
    have := Nat.le_of_dvd (by decide) hd
    have := h.two
    simp only [prd] at *
    omega
  | x :: l, hl => fun hd => by
    rcases h.mul hd with h1 | h1
    · exact hl x (by simp) h1
    · exact prd_not h l (fun y hy => hl y (by simp [hy])) h1
theorem nodup_map {f : Nat → Nat} : ∀ l : List Nat, l.Nodup → (∀ x y, x ∈ l → y ∈ l → f x = f y → x = y) → (l.map f).Nodup
  | [], _, _ => by simp
  | x :: l, hn, hf => by
    have hn' := List.nodup_cons.1 hn
    rw [List.map_cons, List.nodup_cons]
    refine ⟨fun hm => ?_, nodup_map l hn'.2 fun a b ha hb => hf a b (by simp [ha]) (by simp [hb])⟩
    obtain ⟨y, hy, e⟩ := List.mem_map.1 hm
    have := hf y x (by simp [hy]) (by simp) e
    rw [this] at hy
    exact hn'.1 hy
theorem mul_inj {p a x y : Nat} (h : Pr p) (ha : ¬ p ∣ a) (hx : x < p) (hxy : y ≤ x) (e : a * x % p = a * y % p) : x = y := by
  have h1 : p ∣ a * x - a * y := Nat.dvd_of_mod_eq_zero (Nat.sub_mod_eq_zero_of_mod_eq e)
  rw [← Nat.mul_sub] at h1
  rcases h.mul h1 with h2 | h2
  · exact absurd h2 ha
  · by_cases hz : x - y = 0
    · omega
    · have := Nat.le_of_dvd (by omega) h2
      omega
/-- Fermat. -/
theorem Pr.fermat {p a : Nat} (h : Pr p) (ha : ¬ p ∣ a) : a ^ (p - 1) % p = 1 := by
  have h2 := h.two
  have hm : ∀ x, x ∈ List.range' 1 (p - 1) → 1 ≤ x ∧ x < p := fun x hx => by
    rw [List.mem_range'_1] at hx
    omega
  have hnd : ∀ x, x ∈ List.range' 1 (p - 1) → ¬ p ∣ x := fun x hx hd => by
    have := hm x hx
    have := Nat.le_of_dvd (by omega) hd
    omega
  have hp : ((List.range' 1 (p - 1)).map fun x => a * x % p).Perm (List.range' 1 (p - 1)) := by
    refine perm_of_nodup _ _ (nodup_map _ (List.nodup_range') fun x y hx hy e => ?_) (fun z hz => ?_) (by simp)
    · have hx := hm x hx
      have hy := hm y hy
      rcases Nat.le_total x y with h3 | h3
      · exact (mul_inj h ha hy.2 h3 e.symm).symm
      · exact mul_inj h ha hx.2 h3 e
    · obtain ⟨x, hx, e⟩ := List.mem_map.1 hz
      rw [List.mem_range'_1]
      have hz1 : z < p := by rw [← e]; exact Nat.mod_lt _ (by omega)
      have hz0 : z ≠ 0 := fun h0 => by
        rw [h0] at e
        rcases h.mul (Nat.dvd_of_mod_eq_zero e) with h3 | h3
        · exact ha h3
        · exact hnd x hx h3
      omega
  have e1 := prd_map a p (List.range' 1 (p - 1))
  rw [prd_perm hp, List.length_range'] at e1
  have hP := prd_not h _ hnd
  generalize prd (List.range' 1 (p - 1)) = P at e1 hP
  have hpos : 1 ≤ a ^ (p - 1) := by
    rcases Nat.eq_zero_or_pos a with h0 | h0
    · rw [h0] at ha; exact absurd (Nat.dvd_zero p) ha
    · exact Nat.pow_pos h0
  have hd : p ∣ a ^ (p - 1) * P - P := Nat.dvd_of_mod_eq_zero (Nat.sub_mod_eq_zero_of_mod_eq e1.symm)
  have e3 : a ^ (p - 1) * P - P = (a ^ (p - 1) - 1) * P := by rw [Nat.sub_mul, Nat.one_mul]
  rw [e3] at hd
  rcases h.mul hd with h3 | h3
  · obtain ⟨k, hk⟩ := h3
    rw [show a ^ (p - 1) = 1 + p * k by omega, Nat.add_mul_mod_self_left, Nat.mod_eq_of_lt (by omega)]
  · exact absurd h3 hP
/-- Powers by squaring. -/
def pm (n : Nat) : Nat → Nat → Nat → Nat
  | 0, _, _ => 1 % n
  | f + 1, b, e => if e % 2 = 1 then b * pm n f (b * b % n) (e / 2) % n else pm n f (b * b % n) (e / 2)
theorem pm_eq (n : Nat) : ∀ f b e, e < 2 ^ f → pm n f b e = b ^ e % n
  | 0, b, e, h => by
    have : e = 0 := by simpa using h
    rw [this, pm, Nat.pow_zero]
  | f + 1, b, e, h => by
    have he : e / 2 < 2 ^ f := by rw [Nat.pow_succ] at h; omega
    have ih := pm_eq n f (b * b % n) (e / 2) he
    have e0 : (b * b % n) ^ (e / 2) % n = (b * b) ^ (e / 2) % n := (Nat.pow_mod (b * b) (e / 2) n).symm
    have e1 : (b * b) ^ (e / 2) = b ^ (2 * (e / 2)) := by rw [← Nat.pow_two, ← Nat.pow_mul]
    rw [pm, ih, e0, e1]
    split
    · rename_i ho
      rw [show b ^ e = b ^ (2 * (e / 2) + 1) by congr 1; omega, Nat.pow_succ, Nat.mul_comm _ b]
      simp [Nat.mul_mod]
    · rename_i ho
      rw [show b ^ e = b ^ (2 * (e / 2)) by congr 1; omega]
theorem pow_gcd (h r a b : Nat) : h ^ a % r = 1 % r → h ^ b % r = 1 % r → h ^ (Nat.gcd a b) % r = 1 % r := by
  induction a, b using Nat.gcd.induction with
  | H0 n => intro _ h2; rw [Nat.gcd_zero_left]; exact h2
  | H1 m n _ ih =>
    intro h1 h2
    rw [Nat.gcd_rec]
    refine ih ?_ h1
    have e : h ^ n = (h ^ m) ^ (n / m) * h ^ (n % m) := by rw [← Nat.pow_mul, ← Nat.pow_add, Nat.div_add_mod]
    rw [e, Nat.mul_mod, Nat.pow_mod, h1, ← Nat.pow_mod, Nat.one_pow, ← Nat.mul_mod, Nat.one_mul] at h2
    exact h2
/-- The least divisor that is not 1 is a prime. -/
theorem has_prime (n : Nat) (hn : 2 ≤ n) (hp : ¬ Pr n) : ∃ r, Pr r ∧ r ∣ n ∧ r * r ≤ n := by
  induction n using Nat.strongRecOn with
  | ind n ih =>
    have : ∃ d, d ∣ n ∧ d ≠ 1 ∧ d ≠ n := Classical.byContradiction fun hc => hp ⟨hn, fun d hd => Classical.byContradiction fun h2 => hc ⟨d, hd, fun e => h2 (.inl e), fun e => h2 (.inr e)⟩⟩
    obtain ⟨d, hd, h1, h2⟩ := this
    obtain ⟨k, hk⟩ := hd
    have hd0 : d ≠ 0 := fun e => by rw [e] at hk; omega
    have hk0 : k ≠ 0 := fun e => by rw [e] at hk; omega
    have hk1 : k ≠ 1 := fun e => by rw [e] at hk; omega
    -- the smaller of the two
    have hm : ∃ m, m ∣ n ∧ 2 ≤ m ∧ m < n ∧ m * m ≤ n := by
      rcases Nat.le_total d k with h3 | h3
      · refine ⟨d, ⟨k, hk⟩, by omega, ?_, ?_⟩
        · rw [hk]; have := Nat.mul_le_mul_left d (show 2 ≤ k by omega); omega
        · rw [hk]; exact Nat.mul_le_mul_left d h3
      · refine ⟨k, ⟨d, by rw [hk, Nat.mul_comm]⟩, by omega, ?_, ?_⟩
        · rw [hk]; have := Nat.mul_le_mul_right k (show 2 ≤ d by omega); omega
        · rw [hk]; exact Nat.mul_le_mul_right k h3
    obtain ⟨m, m1, m2, m3, m4⟩ := hm
    by_cases hmp : Pr m
    · exact ⟨m, hmp, m1, m4⟩
    · obtain ⟨r, r1, r2, r3⟩ := ih m m3 m2 hmp
      exact ⟨r, r1, Nat.dvd_trans r2 m1, by omega⟩
/-- Primes by looking. -/
def noDiv (n : Nat) : Nat → Nat → Bool
  | 0, _ => true
  | f + 1, k => n % k != 0 && noDiv n f (k + 1)
theorem noDiv_all (n : Nat) : ∀ f k, noDiv n f k = true → ∀ d, k ≤ d → d < k + f → ¬ d ∣ n
  | 0, k, _, d, h1, h2 => by omega
  | f + 1, k, h, d, h1, h2 => by
    rw [noDiv, Bool.and_eq_true] at h
    by_cases e : d = k
    · rw [e]
      intro hd
      have := Nat.mod_eq_zero_of_dvd hd
      simp [this] at h
    · exact noDiv_all n f (k + 1) h.2 d (by omega) (by omega)
theorem prime_look (n f : Nat) (hn : 2 ≤ n) (hf : n < (f + 2) * (f + 2)) (h : noDiv n f 2 = true) : Pr n := by
  refine Classical.byContradiction fun hp => ?_
  obtain ⟨r, r1, r2, r3⟩ := has_prime n hn hp
  refine noDiv_all n f 2 h r r1.two ?_ r2
  by_cases hr : r < 2 + f
  · exact hr
  · have := Nat.mul_le_mul (show f + 2 ≤ r by omega) (show f + 2 ≤ r by omega)
    omega
/-- A witness for one prime of n - 1. -/
structure Wit (n q g m : Nat) : Prop where
  pr : Pr q
  eq : n - 1 = m * q
  one : pm n 256 g (n - 1) = 1
  cop : Nat.gcd (pm n 256 g m + (n - 1)) n = 1
theorem Wit.dvd {n q g m r : Nat} (h : Wit n q g m) (hn : 2 ≤ n) (hs : n ≤ 2 ^ 256) (hr : Pr r) (hd : r ∣ n) : q ∣ r - 1 := by
  have hq := h.pr.two
  have hm : m < 2 ^ 256 := by have := h.eq; have := Nat.mul_le_mul_left m (show 1 ≤ q by omega); omega
  have e1 := h.one
  have e2 := h.cop
  rw [pm_eq n 256 g (n - 1) (by omega)] at e1
  rw [pm_eq n 256 g m hm] at e2
  have hr2 := hr.two
  have m1 : ∀ x, x % n % r = x % r := fun x => Nat.mod_mod_of_dvd x hd
  have f1 : g ^ (n - 1) % r = 1 % r := by rw [← m1, e1]
  have f2 : ¬ g ^ m % r = 1 % r := by
    intro h3
    have h4 : (g ^ m % n + (n - 1)) % r = 0 := by
      have : (g ^ m % n + (n - 1)) % r = (1 + (n - 1)) % r := by
        rw [Nat.add_mod, m1, h3, ← Nat.add_mod]
      rw [this, show 1 + (n - 1) = n by omega]
      exact Nat.mod_eq_zero_of_dvd hd
    have h5 := Nat.dvd_gcd (Nat.dvd_of_mod_eq_zero h4) hd
    rw [e2] at h5
    have := Nat.le_of_dvd (by omega) h5
    omega
  have f3 : (g ^ m) ^ q % r = 1 % r := by rw [← Nat.pow_mul, ← h.eq]; exact f1
  have hng : ¬ r ∣ g ^ m := by
    intro hx
    have : r ∣ (g ^ m) ^ q := Nat.dvd_trans hx ⟨(g ^ m) ^ (q - 1), by rw [← Nat.pow_succ']; congr 1; omega⟩
    have := Nat.mod_eq_zero_of_dvd this
    rw [f3, Nat.mod_eq_of_lt (by omega)] at this
    omega
  have f4 := hr.fermat hng
  have f5 := pow_gcd (g ^ m) r q (r - 1) f3 (by rw [f4, Nat.mod_eq_of_lt (by omega)])
  rcases h.pr.one (Nat.gcd q (r - 1)) (Nat.gcd_dvd_left _ _) with h6 | h6
  · rw [h6, Nat.pow_one] at f5
    exact absurd f5 f2
  · rw [← h6]
    exact Nat.gcd_dvd_right _ _
theorem prime_one {n q g m : Nat} (h : Wit n q g m) (hn : 2 ≤ n) (hs : n ≤ 2 ^ 256) (hb : n < (q + 1) * (q + 1)) : Pr n := by
  refine Classical.byContradiction fun hp => ?_
  obtain ⟨r, r1, r2, r3⟩ := has_prime n hn hp
  have := r1.two
  have h1 := Nat.le_of_dvd (by omega) (h.dvd hn hs r1 r2)
  have := Nat.mul_le_mul (show q + 1 ≤ r by omega) (show q + 1 ≤ r by omega)
  omega
theorem prime_two {n q g m q' g' m' : Nat} (h : Wit n q g m) (h' : Wit n q' g' m') (hne : Nat.gcd q q' = 1) (hn : 2 ≤ n) (hs : n ≤ 2 ^ 256) (hb : n < (q * q' + 1) * (q * q' + 1)) : Pr n := by
  refine Classical.byContradiction fun hp => ?_
  obtain ⟨r, r1, r2, r3⟩ := has_prime n hn hp
  have := r1.two
  have h1 := Nat.le_of_dvd (by omega) (Nat.Coprime.mul_dvd_of_dvd_of_dvd hne (h.dvd hn hs r1 r2) (h'.dvd hn hs r1 r2))
  have := Nat.mul_le_mul (show q * q' + 1 ≤ r by omega) (show q * q' + 1 ≤ r by omega)
  omega
theorem pr127 : Pr 127 := prime_look 127 10 (by decide) (by decide) (by decide +kernel)
theorem pr353 : Pr 353 := prime_look 353 17 (by decide) (by decide) (by decide +kernel)
theorem pr75707 : Pr 75707 := prime_look 75707 275 (by decide) (by decide) (by decide +kernel)
theorem pr8574133 : Pr 8574133 := prime_look 8574133 2930 (by decide) (by decide) (by decide +kernel)
theorem prA : Pr 1919519569386763 := prime_two (q := 8574133) (g := 2) (m := 223873314) (q' := 127) (g' := 2) (m' := 15114327318006) ⟨pr8574133, by decide, by decide +kernel, by decide +kernel⟩ ⟨pr127, by decide, by decide +kernel, by decide +kernel⟩ (by decide) (by decide) (by decide +kernel) (by decide)
theorem prB : Pr 75445702479781427272750846543864801 := prime_two (q := 1919519569386763) (g := 2) (m := 39304471641247389600) (q' := 75707) (g' := 2) (m' := 996548568557483816196003626400) ⟨prA, by decide, by decide +kernel, by decide +kernel⟩ ⟨pr75707, by decide, by decide +kernel, by decide +kernel⟩ (by decide) (by decide) (by decide +kernel) (by decide)
theorem prC : Pr 74058212732561358302231226437062788676166966415465897661863160754340907 := prime_two (q := 75445702479781427272750846543864801) (g := 2) (m := 981609426360740691344999861639072106) (q' := 353) (g' := 2) (m' := 209796636636151156663544550813209033076960244803019540118592523383402) ⟨prB, by decide, by decide +kernel, by decide +kernel⟩ ⟨pr353, by decide, by decide +kernel, by decide +kernel⟩ (by decide) (by decide) (by decide +kernel) (by decide)
/-- 2^255 - 19 is a prime. -/
theorem prP : Pr 57896044618658097711785492504343953926634992332820282019728792003956564819949 := prime_one (q := 74058212732561358302231226437062788676166966415465897661863160754340907) (g := 2) (m := 781764) ⟨prC, by decide, by decide +kernel, by decide +kernel⟩ (by decide) (by decide +kernel) (by decide)
end Go.Proofs.YtdgapijgdbhlfaaDoor.Ed
