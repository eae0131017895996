/- Plain facts of number theory: primes, Fermat's theorem, certificates by which a number is prime, p = 2^255 - 19 among them, and which numbers have a root modulo p. Nothing of the program is named here. -/
import Derived.Test.YtknpgijapbkebaaDoorMath
namespace Go.Proofs.YtknpgijapbkebaaDoor.F

/-! ### primes -/
def Pr (p : Nat) : Prop := 2 ≤ p ∧ ∀ d, d ∣ p → d = 1 ∨ d = p
theorem Pr.coprime {p a : Nat} (hp : Pr p) (h : ¬ p ∣ a) : Nat.Coprime p a := by
  rcases hp.2 (Nat.gcd p a) (Nat.gcd_dvd_left p a) with h1 | h1
  · exact h1
  · exact absurd (h1 ▸ Nat.gcd_dvd_right p a) h
theorem Pr.split {p a b : Nat} (hp : Pr p) (h : p ∣ a * b) : p ∣ a ∨ p ∣ b := by
  by_cases ha : p ∣ a
  · exact .inl ha
  · exact .inr ((hp.coprime ha).dvd_of_dvd_mul_left h)
theorem Pr.pow {p a : Nat} (hp : Pr p) (n : Nat) (h : p ∣ a ^ n) : p ∣ a := by
  induction n with
  | zero =>
    rw [Nat.pow_zero] at h
    have h1 := Nat.le_of_dvd (by decide) h
    have := hp.1
    omega
  | succ n ih =>
    rw [Nat.pow_succ] at h
    rcases hp.split h with h | h
    · exact ih h
    · exact h
theorem prime_divisor : ∀ n, 2 ≤ n → ∃ r, Pr r ∧ r ∣ n := by
  intro n
  induction n using Nat.strongRecOn with
  | ind n ih =>
    intro h2
    by_cases hp : ∀ d, d ∣ n → d = 1 ∨ d = n
    · exact ⟨n, ⟨h2, hp⟩, Nat.dvd_refl n⟩
    · obtain ⟨d, hd⟩ := Classical.not_forall.1 hp
      have hdn : d ∣ n := Classical.byContradiction fun h => hd fun h' => absurd h' h
      have hd1 : d ≠ 1 := fun h => hd fun _ => .inl h
      have hdn2 : d ≠ n := fun h => hd fun _ => .inr h
      have hle := Nat.le_of_dvd (by omega) hdn
      have hpos : 0 < d := Nat.pos_of_dvd_of_pos hdn (by omega)
      obtain ⟨r, hr, hrd⟩ := ih d (by omega) (by omega)
      exact ⟨r, hr, Nat.dvd_trans hrd hdn⟩

/-! ### binomials -/
def ch : Nat → Nat → Nat
  | _, 0 => 1
  | 0, _ + 1 => 0
  | n + 1, k + 1 => ch n k + ch n (k + 1)
theorem ch_zero (n : Nat) : ch n 0 = 1 := by cases n <;> rfl
theorem ch_past (n k : Nat) (h : n < k) : ch n k = 0 := by
  induction n generalizing k with
  | zero => match k, h with | k + 1, _ => rfl
  | succ n ih =>
    match k, h with
    | k + 1, h => rw [ch, ih k (by omega), ih (k + 1) (by omega)]
theorem ch_self (n : Nat) : ch n n = 1 := by
  induction n with
  | zero => rfl
  | succ n ih => rw [ch, ih, ch_past n (n + 1) (by omega)]
theorem ch_mul (n k : Nat) : (k + 1) * ch (n + 1) (k + 1) = (n + 1) * ch n k := by
  induction n generalizing k with
  | zero =>
    cases k with
    | zero => rfl
    | succ k => simp [ch]
  | succ n ih =>
    rw [ch, Nat.mul_add, ih k]
    cases k with
    | zero => simp [ch_zero]; omega
    | succ k =>
      have h := ih (k + 1)
      have h2 := ih k
      rw [show ch (n + 1) (k + 1) = ch n k + ch n (k + 1) from rfl] at *
      rw [show (k + 1 + 1) * (ch n k + ch n (k + 1)) = (k + 1) * (ch n k + ch n (k + 1)) + (ch n k + ch n (k + 1)) by rw [Nat.succ_mul], h2]
      simp only [Nat.mul_add, Nat.add_mul, Nat.one_mul]
      omega
def sumTo (f : Nat → Nat) : Nat → Nat
  | 0 => 0
  | n + 1 => sumTo f n + f n
theorem binom_step (a n m : Nat) : sumTo (fun k => ch (n + 1) k * a ^ k) (m + 1) = sumTo (fun k => ch n k * a ^ k) (m + 1) + a * sumTo (fun k => ch n k * a ^ k) m := by
  induction m with
  | zero => simp [sumTo, ch_zero]
  | succ m ih =>
    rw [sumTo, ih, sumTo.eq_2 _ (m + 1), sumTo.eq_2 (fun k => ch n k * a ^ k) m]
    rw [show ch (n + 1) (m + 1) = ch n m + ch n (m + 1) from rfl, Nat.add_mul, Nat.mul_add, Nat.pow_succ]
    rw [show ch n m * (a ^ m * a) = a * (ch n m * a ^ m) by rw [Nat.mul_comm (a ^ m) a, Nat.mul_left_comm]]
    omega
theorem binom (a n : Nat) : (a + 1) ^ n = sumTo (fun k => ch n k * a ^ k) (n + 1) := by
  induction n with
  | zero => simp [sumTo, ch]
  | succ n ih =>
    rw [binom_step, sumTo, ch_past n (n + 1) (by omega), Nat.zero_mul, Nat.add_zero, ← ih, Nat.pow_succ, Nat.mul_add, Nat.mul_one, Nat.mul_comm]
    omega
theorem sum_first (f : Nat → Nat) (p : Nat) : ∀ n, (∀ k, 0 < k → k < n + 1 → p ∣ f k) → ∃ c, sumTo f (n + 1) = f 0 + p * c := by
  intro n
  induction n with
  | zero => intro _; exact ⟨0, by simp [sumTo]⟩
  | succ n ih =>
    intro h
    obtain ⟨c, hc⟩ := ih fun k h1 h2 => h k h1 (by omega)
    obtain ⟨d, hd⟩ := h (n + 1) (by omega) (by omega)
    exact ⟨c + d, by rw [sumTo, hc, hd, Nat.mul_add]; omega⟩

/-! ### Fermat -/
theorem fermat_step {p : Nat} (hp : Pr p) (a : Nat) : (a + 1) ^ p % p = (a ^ p + 1) % p := by
  obtain ⟨q, rfl⟩ : ∃ q, p = q + 1 := ⟨p - 1, by have := hp.1; omega⟩
  have hd : ∀ k, 0 < k → k < q + 1 → (q + 1) ∣ ch (q + 1) k * a ^ k := by
    intro k h1 h2
    obtain ⟨j, rfl⟩ : ∃ j, k = j + 1 := ⟨k - 1, by omega⟩
    have hm := ch_mul q j
    have h3 : (q + 1) ∣ (j + 1) * ch (q + 1) (j + 1) := ⟨_, hm⟩
    rcases hp.split h3 with h | h
    · have := Nat.le_of_dvd (by omega) h
      omega
    · exact Nat.dvd_trans h ⟨_, rfl⟩
  obtain ⟨c, hc⟩ := sum_first (fun k => ch (q + 1) k * a ^ k) (q + 1) q hd
  rw [binom, sumTo, hc, ch_self]
  simp only [ch_zero, Nat.pow_zero, Nat.one_mul]
  rw [show 1 + (q + 1) * c + a ^ (q + 1) = a ^ (q + 1) + 1 + (q + 1) * c by omega, Nat.add_mul_mod_self_left]
theorem fermat {p : Nat} (hp : Pr p) (a : Nat) : a ^ p % p = a % p := by
  induction a with
  | zero => rw [Nat.zero_pow (by have := hp.1; omega)]
  | succ a ih => rw [fermat_step hp, Nat.add_mod, ih, ← Nat.add_mod]
theorem fermat_one {p : Nat} (hp : Pr p) (a : Nat) (h : ¬ p ∣ a) : a ^ (p - 1) % p = 1 := by
  have h1 := fermat hp a
  have h2 := hp.1
  have ha : 0 < a := Nat.pos_of_ne_zero fun e => h (e ▸ Nat.dvd_zero p)
  obtain ⟨q, hq⟩ : ∃ q, p = q + 1 := ⟨p - 1, by omega⟩
  have e : a ^ p = a ^ (p - 1) * a := by rw [← Nat.pow_succ, show (p - 1).succ = p by omega]
  have hpos : 0 < a ^ (p - 1) := Nat.pow_pos ha
  have h3 : p ∣ a * (a ^ (p - 1) - 1) := by
    rw [Nat.mul_sub, Nat.mul_one, Nat.mul_comm, ← e]
    exact Nat.dvd_of_mod_eq_zero (Nat.sub_mod_eq_zero_of_mod_eq h1)
  rcases hp.split h3 with h4 | h4
  · exact absurd h4 h
  · obtain ⟨c, hc⟩ := h4
    rw [show a ^ (p - 1) = 1 + p * c by omega, Nat.add_mul_mod_self_left, Nat.mod_eq_of_lt (by omega)]

/-! ### powers, quickly -/
def pm (n : Nat) : Nat → Nat → Nat → Nat
  | 0, _, _ => 1 % n
  | f + 1, a, e => if e = 0 then 1 % n else if e % 2 = 1 then a * pm n f (a * a % n) (e / 2) % n else pm n f (a * a % n) (e / 2)
theorem pm_eq (n f a e : Nat) (h : e < 2 ^ f) : pm n f a e = a ^ e % n := by
  induction f generalizing a e with
  | zero =>
    have : e = 0 := by simpa using h
    subst this
    rfl
  | succ f ih =>
    rw [pm]
    by_cases he : e = 0
    · subst he; rfl
    · have h2 : e / 2 < 2 ^ f := by rw [Nat.pow_succ] at h; omega
      have e1 : a ^ (2 * (e / 2)) % n = (a * a % n) ^ (e / 2) % n := by rw [Nat.pow_mul, ← Nat.pow_mod, Nat.pow_two]
      rw [if_neg he, ih _ _ h2, ← e1]
      split
      · rename_i ho
        rw [show a ^ e = a * a ^ (2 * (e / 2)) by rw [Nat.mul_comm, ← Nat.pow_succ]; congr 1; omega, Nat.mul_mod_mod]
      · congr 2
        omega

/-! ### certificates -/
theorem pow_gcd {r a : Nat} (hr : 2 ≤ r) (m k : Nat) : a ^ m % r = 1 → a ^ k % r = 1 → a ^ Nat.gcd m k % r = 1 := by
  induction m, k using Nat.gcd.induction with
  | H0 k => intro _ h; rwa [Nat.gcd_zero_left]
  | H1 m k hm ih =>
    intro h1 h2
    rw [Nat.gcd_rec]
    refine ih ?_ h1
    have e : a ^ k = (a ^ m) ^ (k / m) * a ^ (k % m) := by rw [← Nat.pow_mul, ← Nat.pow_add, Nat.div_add_mod]
    rw [e, Nat.mul_mod, Nat.pow_mod, h1, Nat.one_pow, Nat.mod_eq_of_lt (show 1 < r by omega), Nat.one_mul, Nat.mod_mod] at h2
    exact h2
theorem pock_q {n a q h r : Nat} (h2 : 2 ≤ n) (hn : n - 1 = q * h) (hq : Pr q) (ha : a ^ (n - 1) % n = 1) (hg : Nat.gcd (a ^ h % n + (n - 1)) n = 1) (hr : Pr r) (hrn : r ∣ n) : q ∣ r - 1 := by
  have hr2 := hr.1
  have h1 : a ^ (n - 1) % r = 1 := by
    have := congrArg (· % r) ha
    simp only [Nat.mod_mod_of_dvd _ hrn] at this
    rw [this, Nat.mod_eq_of_lt (by omega)]
  have hra : ¬ r ∣ a := by
    intro hd
    have h3 : r ∣ a ^ (n - 1) := Nat.dvd_trans hd ⟨a ^ (n - 2), by rw [← Nat.pow_succ']; congr 1; omega⟩
    rw [Nat.mod_eq_zero_of_dvd h3] at h1
    omega
  have h4 := pow_gcd (by omega) (n - 1) (r - 1) h1 (fermat_one hr a hra)
  apply Classical.byContradiction
  intro hnd
  have h5 : Nat.gcd (n - 1) (r - 1) ∣ h := by
    have h6 : Nat.gcd (n - 1) (r - 1) ∣ q * h := hn ▸ Nat.gcd_dvd_left _ _
    have h7 : Nat.Coprime q (Nat.gcd (n - 1) (r - 1)) := hq.coprime fun hd => hnd (Nat.dvd_trans hd (Nat.gcd_dvd_right _ _))
    exact h7.symm.dvd_of_dvd_mul_left h6
  obtain ⟨c, hc⟩ := h5
  have h8 : a ^ h % r = 1 := by rw [hc, Nat.pow_mul, Nat.pow_mod, h4, Nat.one_pow, Nat.mod_eq_of_lt (by omega)]
  have h9 : a ^ h % n % r = 1 := by rw [Nat.mod_mod_of_dvd _ hrn, h8]
  obtain ⟨d, hd⟩ := hrn
  have h10 : r ∣ a ^ h % n + (n - 1) := by
    have := Nat.div_add_mod (a ^ h % n) r
    rw [h9] at this
    exact ⟨a ^ h % n / r + d, by rw [Nat.mul_add, ← hd]; omega⟩
  have h11 : r ∣ Nat.gcd (a ^ h % n + (n - 1)) n := Nat.dvd_gcd h10 ⟨d, hd⟩
  rw [hg] at h11
  have := Nat.le_of_dvd (by decide) h11
  omega
theorem pock {n Q : Nat} (h2 : 2 ≤ n) (hQ : n < Q * Q) (h : ∀ r, Pr r → r ∣ n → Q ∣ r - 1) : Pr n := by
  refine ⟨h2, fun d hd => ?_⟩
  apply Classical.byContradiction
  intro hne
  obtain ⟨e, he⟩ := hd
  have hd1 : d ≠ 1 := fun x => hne (.inl x)
  have hdn : d ≠ n := fun x => hne (.inr x)
  have hd0 : d ≠ 0 := by rintro rfl; rw [Nat.zero_mul] at he; omega
  have he0 : e ≠ 0 := by rintro rfl; rw [Nat.mul_zero] at he; omega
  have he1 : e ≠ 1 := by rintro rfl; rw [Nat.mul_one] at he; omega
  have key : ∀ u v, n = u * v → 2 ≤ u → u ≤ v → False := by
    intro u v huv hu hle
    obtain ⟨r, hr, hru⟩ := prime_divisor u hu
    obtain ⟨c, hc⟩ := h r hr (Nat.dvd_trans hru ⟨v, huv⟩)
    have hr2 := hr.1
    have hle2 := Nat.le_of_dvd (by omega) hru
    have hQr : Q ≤ r - 1 := by
      cases c with
      | zero => omega
      | succ c => rw [Nat.mul_succ] at hc; omega
    have h3 : Q * Q ≤ u * u := Nat.mul_le_mul (by omega) (by omega)
    have h4 : u * u ≤ u * v := Nat.mul_le_mul_left u hle
    omega
  rcases Nat.le_total d e with hle | hle
  · exact key d e he (by omega) hle
  · exact key e d (by rw [Nat.mul_comm]; exact he) (by omega) hle
theorem cert1 (n a q h f : Nat) (hq : Pr q) (hc : (decide (2 ≤ n) && decide (n - 1 = q * h) && decide (n < 2 ^ f) && decide (pm n f a (n - 1) = 1) && decide (Nat.gcd (pm n f a h + (n - 1)) n = 1) && decide (n < q * q)) = true) : Pr n := by
  simp only [Bool.and_eq_true, decide_eq_true_eq] at hc
  obtain ⟨⟨⟨⟨⟨c1, c2⟩, c3⟩, c4⟩, c5⟩, c6⟩ := hc
  have hq2 := hq.1
  have hh : h ≤ n - 1 := by rw [c2]; exact Nat.le_mul_of_pos_left h (by omega)
  rw [pm_eq _ _ _ _ (by omega)] at c4 c5
  exact pock c1 c6 fun r hr hrn => pock_q c1 c2 hq c4 c5 hr hrn
theorem cert2 (n a q h q' h' f : Nat) (hq : Pr q) (hq' : Pr q') (hc : (decide (2 ≤ n) && decide (n - 1 = q * h) && decide (n - 1 = q' * h') && decide (n < 2 ^ f) && decide (pm n f a (n - 1) = 1) && decide (Nat.gcd (pm n f a h + (n - 1)) n = 1) && decide (Nat.gcd (pm n f a h' + (n - 1)) n = 1) && decide (n < q * q' * (q * q')) && decide (q < q')) = true) : Pr n := by
  simp only [Bool.and_eq_true, decide_eq_true_eq] at hc
  obtain ⟨⟨⟨⟨⟨⟨⟨⟨c1, c2⟩, c2'⟩, c3⟩, c4⟩, c5⟩, c5'⟩, c6⟩, c7⟩ := hc
  have hq2 := hq.1
  have hq2' := hq'.1
  have hh : h ≤ n - 1 := by rw [c2]; exact Nat.le_mul_of_pos_left h (by omega)
  have hh' : h' ≤ n - 1 := by rw [c2']; exact Nat.le_mul_of_pos_left h' (by omega)
  rw [pm_eq _ _ _ _ (by omega)] at c4 c5 c5'
  refine pock c1 c6 fun r hr hrn => ?_
  have hco : Nat.Coprime q q' := hq.coprime fun hd => by
    rcases hq'.2 q hd with h | h <;> omega
  exact hco.mul_dvd_of_dvd_of_dvd (pock_q c1 c2 hq c4 c5 hr hrn) (pock_q c1 c2' hq' c4 c5' hr hrn)
/-- no divisor from 2 up to k + 1 -/
def free (n : Nat) : Nat → Bool
  | 0 => true
  | k + 1 => decide (n % (k + 2) ≠ 0) && free n k
theorem free_all (n k : Nat) (h : free n k = true) : ∀ d, 2 ≤ d → d ≤ k + 1 → ¬ d ∣ n := by
  induction k with
  | zero => intro d h1 h2; omega
  | succ k ih =>
    intro d h1 h2 hd
    rw [free, Bool.and_eq_true, decide_eq_true_eq] at h
    by_cases e : d = k + 2
    · subst e
      exact h.1 (Nat.mod_eq_zero_of_dvd hd)
    · exact ih h.2 d h1 (by omega) hd
theorem small (n k : Nat) (hc : (decide (2 ≤ n) && free n k && decide (n < (k + 2) * (k + 2))) = true) : Pr n := by
  simp only [Bool.and_eq_true, decide_eq_true_eq] at hc
  obtain ⟨⟨c1, c2⟩, c3⟩ := hc
  refine ⟨c1, fun d hd => ?_⟩
  apply Classical.byContradiction
  intro hne
  obtain ⟨e, he⟩ := hd
  have hd1 : d ≠ 1 := fun x => hne (.inl x)
  have hd0 : d ≠ 0 := by rintro rfl; rw [Nat.zero_mul] at he; omega
  have he0 : e ≠ 0 := by rintro rfl; rw [Nat.mul_zero] at he; omega
  have he1 : e ≠ 1 := by rintro rfl; rw [Nat.mul_one] at he; exact hne (.inr he.symm)
  have hfd : k + 2 ≤ d := by
    apply Classical.byContradiction
    intro h
    exact free_all n k c2 d (by omega) (by omega) ⟨e, he⟩
  have hfe : k + 2 ≤ e := by
    apply Classical.byContradiction
    intro h
    exact free_all n k c2 e (by omega) (by omega) ⟨d, by rw [Nat.mul_comm]; exact he⟩
  have := Nat.mul_le_mul hfd hfe
  omega

set_option maxRecDepth 100000
theorem pr127 : Pr 127 := small 127 10 (by decide +kernel)
theorem pr4153 : Pr 4153 := small 4153 63 (by decide +kernel)
theorem pr430751 : Pr 430751 := small 430751 655 (by decide +kernel)
theorem pr569003 : Pr 569003 := small 569003 753 (by decide +kernel)
theorem pr8574133 : Pr 8574133 := small 8574133 2927 (by decide +kernel)
theorem pr2773320623 : Pr 2773320623 := cert1 2773320623 2 569003 4874 32 pr569003 (by decide +kernel)
theorem pr72106336199 : Pr 72106336199 := cert1 72106336199 2 2773320623 26 37 pr2773320623 (by decide +kernel)
theorem pr1919519569386763 : Pr 1919519569386763 := cert2 1919519569386763 2 127 15114327318006 8574133 223873314 51 pr127 pr8574133 (by decide +kernel)
theorem pr31757755568855353 : Pr 31757755568855353 := cert2 31757755568855353 2 4153 7646943310584 430751 73726481352 55 pr4153 pr430751 (by decide +kernel)
theorem pr543864801 : Pr 75445702479781427272750846543864801 := cert2 75445702479781427272750846543864801 2 72106336199 1046311689884858398375200 1919519569386763 39304471641247389600 116 pr72106336199 pr1919519569386763 (by decide +kernel)
theorem prQ : Pr 74058212732561358302231226437062788676166966415465897661863160754340907 := cert2 74058212732561358302231226437062788676166966415465897661863160754340907 2 31757755568855353 2331972502653487852620185443007392165117953542933313402 75445702479781427272750846543864801 981609426360740691344999861639072106 236 pr31757755568855353 pr543864801 (by decide +kernel)
theorem prP : Pr 57896044618658097711785492504343953926634992332820282019728792003956564819949 := cert1 57896044618658097711785492504343953926634992332820282019728792003956564819949 2 74058212732561358302231226437062788676166966415465897661863160754340907 781764 255 prQ (by decide +kernel)

/-! ### numbers modulo a prime -/
theorem mod_of_dvd_sub {p a b : Nat} (h : b ≤ a) (hd : p ∣ a - b) : a % p = b % p := by
  obtain ⟨c, hc⟩ := hd
  rw [show a = b + p * c by omega, Nat.add_mul_mod_self_left]
theorem cancel {p : Nat} (hp : Pr p) {a b c : Nat} (ha : ¬ p ∣ a) (h : a * b % p = a * c % p) : b % p = c % p := by
  rcases Nat.le_total b c with hle | hle
  · have h1 : p ∣ a * c - a * b := Nat.dvd_of_mod_eq_zero (Nat.sub_mod_eq_zero_of_mod_eq h.symm)
    rw [← Nat.mul_sub] at h1
    rcases hp.split h1 with h2 | h2
    · exact absurd h2 ha
    · exact (mod_of_dvd_sub hle h2).symm
  · have h1 : p ∣ a * b - a * c := Nat.dvd_of_mod_eq_zero (Nat.sub_mod_eq_zero_of_mod_eq h)
    rw [← Nat.mul_sub] at h1
    rcases hp.split h1 with h2 | h2
    · exact absurd h2 ha
    · exact mod_of_dvd_sub hle h2
theorem inv_mul {p : Nat} (hp : Pr p) (x : Nat) (h : ¬ p ∣ x) : x * x ^ (p - 2) % p = 1 := by
  have h2 := hp.1
  rw [← Nat.pow_succ', show (p - 2).succ = p - 1 by omega]
  exact fermat_one hp x h
theorem not_dvd_of_one {p : Nat} {x y : Nat} (h : x * y % p = 1) : ¬ p ∣ x := by
  intro hd
  rw [Nat.mod_eq_zero_of_dvd (Nat.dvd_trans hd ⟨y, rfl⟩)] at h
  cases h
theorem inv_inv {p : Nat} (hp : Pr p) (x : Nat) (h : ¬ p ∣ x) : (x ^ (p - 2)) ^ (p - 2) % p = x % p := by
  have h1 := inv_mul hp x h
  rw [Nat.mul_comm] at h1
  have hy := not_dvd_of_one h1
  have h2 := inv_mul hp _ hy
  exact cancel hp hy (h2.trans h1.symm)
/-- two numbers of one square are alike, or each other's contraries -/
theorem two_roots {p : Nat} (hp : Pr p) (x y : Nat) (h : x * x % p = y * y % p) : x % p = y % p ∨ (x + y) % p = 0 := by
  have key : ∀ a b : Nat, b ≤ a → a * a % p = b * b % p → a % p = b % p ∨ (a + b) % p = 0 := by
    intro a b hle h
    have h1 : p ∣ a * a - b * b := Nat.dvd_of_mod_eq_zero (Nat.sub_mod_eq_zero_of_mod_eq h)
    rw [Nat.mul_self_sub_mul_self_eq] at h1
    rcases hp.split h1 with h2 | h2
    · exact .inr (Nat.mod_eq_zero_of_dvd h2)
    · exact .inl (mod_of_dvd_sub hle h2)
  rcases Nat.le_total x y with hle | hle
  · rcases key y x hle h.symm with h1 | h1
    · exact .inl h1.symm
    · exact .inr (by rw [Nat.add_comm]; exact h1)
  · exact key x y hle h

/-! ### p = 2^255 - 19 -/
def p25 : Nat := 57896044618658097711785492504343953926634992332820282019728792003956564819949
theorem p25_prime : Pr p25 := prP
theorem p25_is : p25 = 2 ^ 255 - 19 := by decide
theorem p25_pos : 0 < p25 := by decide
/-- half of p - 1 -/
def e25 : Nat := 28948022309329048855892746252171976963317496166410141009864396001978282409974
/-- 2 has no root -/
theorem two_power : 2 ^ e25 % p25 = p25 - 1 := by
  have h : pm p25 255 2 e25 = p25 - 1 := by decide +kernel
  rwa [pm_eq _ _ _ _ (by decide)] at h
theorem euler (x : Nat) (h : ¬ p25 ∣ x) : x ^ e25 % p25 = 1 ∨ x ^ e25 % p25 = p25 - 1 := by
  have h1 : x ^ e25 * x ^ e25 % p25 = 1 * 1 % p25 := by
    rw [← Nat.pow_add, show e25 + e25 = p25 - 1 by decide]
    exact fermat_one p25_prime x h
  rcases two_roots p25_prime _ _ h1 with h2 | h2
  · exact .inl (h2.trans (by decide))
  · right
    have h3 := Nat.mod_lt (x ^ e25) p25_pos
    rw [Nat.add_mod] at h2
    generalize x ^ e25 % p25 = y at *
    have h4 : (y + 1 % p25) % p25 = 0 := h2
    rw [show 1 % p25 = 1 by decide] at h4
    by_cases h5 : y + 1 < p25
    · rw [Nat.mod_eq_of_lt h5] at h4
      omega
    · omega
/-- what has a root -/
def Sq (x : Nat) : Prop := ∃ y, y * y % p25 = x % p25
theorem sq_power (x : Nat) (h : ¬ p25 ∣ x) (hs : Sq x) : x ^ e25 % p25 = 1 := by
  obtain ⟨y, hy⟩ := hs
  have hny : ¬ p25 ∣ y := by
    intro hd
    apply h
    have h1 : y * y % p25 = 0 := Nat.mod_eq_zero_of_dvd (Nat.dvd_trans hd ⟨y, rfl⟩)
    rw [h1] at hy
    exact Nat.dvd_of_mod_eq_zero hy.symm
  rw [Nat.pow_mod, ← hy, ← Nat.pow_mod, ← Nat.pow_two, ← Nat.pow_mul, show 2 * e25 = p25 - 1 by decide]
  exact fermat_one p25_prime y hny
/-- a quarter of p - 1, and an eighth of p + 3 -/
def q25 : Nat := 14474011154664524427946373126085988481658748083205070504932198000989141204987
def d25 : Nat := 7237005577332262213973186563042994240829374041602535252466099000494570602494
theorem q25_two : q25 + q25 = e25 := by decide
theorem d25_two : d25 + d25 = q25 + 1 := by decide
/-- a root's candidate -/
def c25 (x : Nat) : Nat := x ^ d25
/-- a root of -1 -/
def i25 : Nat := 19681161376707505956807079304988542015446066515923890162744021073123829784752
theorem i25_two : i25 * i25 % p25 = p25 - 1 := by decide
theorem minus_one (x y z : Nat) (hx : x % p25 = p25 - 1) (hy : y % p25 = p25 - 1) : x * (y * z) % p25 = z % p25 := by
  rw [← Nat.mul_assoc, Nat.mul_mod, Nat.mul_mod x y, hx, hy, show (p25 - 1) * (p25 - 1) % p25 = 1 by decide, Nat.one_mul, Nat.mod_mod]
theorem cand (x : Nat) (hp : x ^ e25 % p25 = 1) : c25 x * c25 x % p25 = x % p25 ∨ (c25 x * i25) * (c25 x * i25) % p25 = x % p25 := by
  have h1 : c25 x * c25 x = x * x ^ q25 := by
    unfold c25
    rw [← Nat.pow_add, d25_two, Nat.pow_succ']
  have h2 : x ^ q25 * x ^ q25 % p25 = 1 * 1 % p25 := by
    rw [← Nat.pow_add, q25_two, hp]
    decide
  rcases two_roots p25_prime _ _ h2 with h3 | h3
  · left
    rw [h1, Nat.mul_mod, h3, ← Nat.mul_mod, Nat.mul_one]
  · right
    have h4 : x ^ q25 % p25 = p25 - 1 := by
      have h5 := Nat.mod_lt (x ^ q25) p25_pos
      rw [Nat.add_mod] at h3
      generalize x ^ q25 % p25 = y at *
      rw [show 1 % p25 = 1 by decide] at h3
      by_cases h6 : y + 1 < p25
      · rw [Nat.mod_eq_of_lt h6] at h3
        omega
      · omega
    rw [show c25 x * i25 * (c25 x * i25) = (c25 x * c25 x) * (i25 * i25) by simp only [Nat.mul_assoc, Nat.mul_left_comm], h1, Nat.mul_comm, show i25 * i25 * (x * x ^ q25) = i25 * i25 * (x ^ q25 * x) by rw [Nat.mul_comm x]]
    exact minus_one _ _ _ i25_two h4
theorem sq_iff (x : Nat) (h : ¬ p25 ∣ x) : Sq x ↔ x ^ e25 % p25 = 1 := by
  refine ⟨sq_power x h, fun hp => ?_⟩
  rcases cand x hp with h1 | h1
  · exact ⟨_, h1⟩
  · exact ⟨_, h1⟩
/-- of a number that does not count as 0, and twice it, just one has a root -/
theorem one_of_two (x : Nat) (h : ¬ p25 ∣ x) : (Sq x ∧ ¬ Sq (x + x)) ∨ (¬ Sq x ∧ Sq (x + x)) := by
  have h2 : ¬ p25 ∣ x + x := by
    intro hd
    rw [← Nat.two_mul] at hd
    rcases p25_prime.split hd with h3 | h3
    · have := Nat.le_of_dvd (by decide) h3
      exact absurd this (by decide)
    · exact h h3
  have e : (x + x) ^ e25 % p25 = (p25 - 1) * (x ^ e25 % p25) % p25 := by
    rw [← Nat.two_mul, Nat.mul_pow, Nat.mul_mod, two_power]
  rw [sq_iff x h, sq_iff (x + x) h2, e]
  rcases euler x h with h3 | h3
  · rw [h3]
    exact .inl ⟨rfl, by decide⟩
  · rw [h3]
    exact .inr ⟨by decide, by decide⟩
/-- a number's contrary is of the other parity, below p -/
theorem contrary_odd (r : Nat) (hr : r < p25) : (p25 - r) % 2 ≠ r % 2 := by
  have : p25 % 2 = 1 := by decide
  omega
end Go.Proofs.YtknpgijapbkebaaDoor.F
