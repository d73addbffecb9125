import Derived.Test.YtapjbppkekigaabGD
import Derived.Test.YtapjbppkekigaabJ1
import Derived.Test.YtapjbppkekigaabY8
namespace Go.Proofs.Ytapjbppkekigaab
open Go.RowKit
set_option maxRecDepth 100000
set_option linter.unusedVariables false
set_option linter.unusedSimpArgs false

theorem leastF_pr {n : Nat} (h : 2 ≤ n) : primeB (leastF n) = true := by
  have h2 := leastF_ge h
  have h3 := leastF_ge h2
  have h4 := leastF_le (leastF n)
  have h5 := leastF_min (n := n) (by omega) h3 (mod_of_mod (leastF_dvd n) (leastF_dvd _))
  rw [primeB_of h2]
  exact decide_eq_true (by omega)
theorem facs_pr : ∀ (n : Nat), ∀ x ∈ facs n, primeB x.1 = true := by
  intro n
  induction n using Nat.strongRecOn with
  | ind n ih =>
    intro x hx
    by_cases h2 : 2 ≤ n
    · rw [facs_yes h2] at hx
      rcases List.mem_cons.1 hx with rfl | hx
      · exact leastF_pr h2
      · exact ih _ (str_lt (leastF_ge h2) (by omega) (leastF_dvd n)) x hx
    · rw [facs_no h2] at hx
      cases hx
theorem leastF_self {p : Nat} (h : primeB p = true) : leastF p = p := by
  rw [primeB_of (primeB_two h)] at h
  exact of_decide_eq_true h
theorem pr_or {p d : Nat} (hp : primeB p = true) : p ∣ d ∨ Nat.Coprime p d := by
  have h2 := primeB_two hp
  have hg0 : 0 < Nat.gcd p d := Nat.gcd_pos_of_pos_left _ (by omega)
  by_cases h1 : Nat.gcd p d = 1
  · exact .inr h1
  · have hd := Nat.gcd_dvd_left p d
    have h3 := leastF_min (n := p) (d := Nat.gcd p d) (by omega) (by omega) (Nat.mod_eq_zero_of_dvd hd)
    rw [leastF_self hp] at h3
    have h4 := Nat.le_of_dvd (by omega) hd
    have h5 : Nat.gcd p d = p := by omega
    exact .inl (by have := Nat.gcd_dvd_right p d; rwa [h5] at this)
theorem pr_mul {p a b : Nat} (hp : primeB p = true) (h : p ∣ a * b) : p ∣ a ∨ p ∣ b := by
  rcases pr_or (d := a) hp with h1 | h1
  · exact .inl h1
  · exact .inr (h1.dvd_of_dvd_mul_left h)
theorem pr_pow {p a : Nat} (hp : primeB p = true) : ∀ k, p ∣ a ^ k → p ∣ a
  | 0, h => by
    have := primeB_two hp
    rw [Nat.pow_zero] at h
    have := Nat.le_of_dvd (by omega) h
    omega
  | k + 1, h => by
    rw [Nat.pow_succ] at h
    rcases pr_mul hp h with h1 | h1
    · exact pr_pow hp k h1
    · exact h1
theorem pr_eq {p q : Nat} (hp : primeB p = true) (hq : 2 ≤ q) (h : q ∣ p) : q = p := by
  have h2 := primeB_two hp
  have h3 := leastF_min (n := p) (d := q) (by omega) hq (Nat.mod_eq_zero_of_dvd h)
  rw [leastF_self hp] at h3
  have := Nat.le_of_dvd (by omega) h
  omega
theorem pr_prodP {p : Nat} (hp : primeB p = true) : ∀ (l : List (Nat × Nat)), (∀ x ∈ l, primeB x.1 = true) → p ∣ prodP l → ∃ x ∈ l, x.1 = p
  | [], _, h => by
    have := primeB_two hp
    have h1 : p ∣ 1 := h
    have := Nat.le_of_dvd (by omega) h1
    omega
  | x :: l, hl, h => by
    rw [prodP_cons] at h
    rcases pr_mul hp h with h1 | h1
    · have h2 := pr_pow hp _ h1
      exact ⟨x, List.mem_cons_self .., (pr_eq (hl x (List.mem_cons_self ..)) (primeB_two hp) h2).symm⟩
    · obtain ⟨y, hy, e⟩ := pr_prodP hp l (fun y hy => hl y (List.mem_cons_of_mem _ hy)) h1
      exact ⟨y, List.mem_cons_of_mem _ hy, e⟩
theorem str_ofp {p : Nat} (hp : 2 ≤ p) {s : Nat} (hs : 1 ≤ s) (h : s % p ≠ 0) : ∀ k, strK p (p ^ k * s) = k ∧ strR p (p ^ k * s) = s
  | 0 => by rw [Nat.pow_zero, Nat.one_mul]; exact str_no hs h
  | k + 1 => by
    obtain ⟨a, b⟩ := str_ofp hp hs h k
    have e : p ^ (k + 1) * s = p * (p ^ k * s) := by rw [Nat.pow_succ, Nat.mul_comm (p ^ k) p, Nat.mul_assoc]
    have hpos : 1 ≤ p ^ k * s := Nat.mul_pos (Nat.pow_pos (by omega)) hs
    have hm : p ^ (k + 1) * s % p = 0 := by rw [e]; exact Nat.mul_mod_right _ _
    obtain ⟨c, d⟩ := str_yes hp (by rw [e]; exact Nat.mul_pos (by omega) hpos) hm
    rw [c, d, e, Nat.mul_div_cancel_left _ (by omega), a, b]
    exact ⟨rfl, rfl⟩
/-- A number has no other factors than these. -/
theorem facs_of : ∀ (l : List (Nat × Nat)), (∀ x ∈ l, primeB x.1 = true ∧ 1 ≤ x.2) → (l.Pairwise fun x y => x.1 < y.1) → facs (prodP l) = l
  | [], _, _ => facs_no (by show ¬ 2 ≤ 1; omega)
  | (p, e) :: l, h, hp => by
    obtain ⟨hx, hl⟩ := List.pairwise_cons.1 hp
    obtain ⟨h1, h2⟩ := h (p, e) (List.mem_cons_self ..)
    have h1 : primeB p = true := h1
    have h2 : 1 ≤ e := h2
    have ht : ∀ x ∈ l, primeB x.1 = true ∧ 1 ≤ x.2 := fun y hy => h y (List.mem_cons_of_mem _ hy)
    have ih := facs_of l ht hl
    have p2 := primeB_two h1
    have hpos : 1 ≤ prodP l := prodP_pos l fun x hx => primeB_two (ht x hx).1
    have hno : prodP l % p ≠ 0 := fun h0 => by
      obtain ⟨y, hy, ey⟩ := pr_prodP h1 l (fun x hx => (ht x hx).1) (Nat.dvd_of_mod_eq_zero h0)
      have : p < y.1 := hx y hy
      omega
    obtain ⟨a, b⟩ := str_ofp p2 hpos hno e
    rw [prodP_cons]
    show facs (p ^ e * prodP l) = _
    have hd : p ∣ p ^ e * prodP l := Nat.dvd_trans (by
      obtain ⟨k, rfl⟩ : ∃ k, e = k + 1 := ⟨e - 1, by omega⟩
      rw [Nat.pow_succ]
      exact Nat.dvd_mul_left _ _) (Nat.dvd_mul_right _ _)
    have hN1 : 1 ≤ p ^ e * prodP l := Nat.mul_pos (Nat.pow_pos (by omega)) hpos
    have hN2 : 2 ≤ p ^ e * prodP l := by have := Nat.le_of_dvd hN1 hd; omega
    have hle := leastF_min hN1 p2 (Nat.mod_eq_zero_of_dvd hd)
    have hpr := leastF_pr hN2
    have hdv := Nat.dvd_of_mod_eq_zero (leastF_dvd (p ^ e * prodP l))
    have heq : leastF (p ^ e * prodP l) = p := by
      rcases pr_mul hpr hdv with h3 | h3
      · exact pr_eq h1 (primeB_two hpr) (pr_pow hpr _ h3)
      · obtain ⟨y, hy, ey⟩ := pr_prodP hpr l (fun x hx => (ht x hx).1) h3
        have : p < y.1 := hx y hy
        omega
    rw [facs_yes hN2, heq, a, b, ih]

/-! The same of lists of lists. -/
/-! What FnDivisorsTold asks. -/
def sm : Nat → (Nat → Int) → Int
  | 0, _ => 0
  | k + 1, f => sm k f + f (k + 1)
theorem sm_congr {f g : Nat → Int} : ∀ {N}, (∀ i, 1 ≤ i → i ≤ N → f i = g i) → sm N f = sm N g
  | 0, _ => rfl
  | N + 1, h => by rw [sm, sm, sm_congr fun i h1 h2 => h i h1 (by omega), h (N + 1) (by omega) (by omega)]
theorem sm_none {f : Nat → Int} : ∀ {N}, (∀ i, 1 ≤ i → i ≤ N → f i = 0) → sm N f = 0
  | 0, _ => rfl
  | N + 1, h => by rw [sm, sm_none fun i h1 h2 => h i h1 (by omega), h (N + 1) (by omega) (by omega)]; rfl
theorem sm_add (f g : Nat → Int) : ∀ N, sm N (fun i => f i + g i) = sm N f + sm N g
  | 0 => rfl
  | N + 1 => by rw [sm, sm, sm, sm_add f g N]; omega
theorem sm_mul (c : Int) (f : Nat → Int) : ∀ N, sm N (fun i => c * f i) = c * sm N f
  | 0 => by rw [sm, sm, Int.mul_zero]
  | N + 1 => by rw [sm, sm, sm_mul c f N, Int.mul_add]
theorem sm_swap (M : Nat) (F : Nat → Nat → Int) : ∀ N, sm M (fun i => sm N (fun j => F i j)) = sm N (fun j => sm M (fun i => F i j))
  | 0 => sm_none fun _ _ _ => rfl
  | N + 1 => by
    rw [sm, ← sm_swap M F N, ← sm_add]
    rfl
theorem sm_one {f : Nat → Int} {k : Nat} (h1 : 1 ≤ k) : ∀ {N}, k ≤ N → (∀ i, 1 ≤ i → i ≤ N → i ≠ k → f i = 0) → sm N f = f k
  | 0, h2, _ => by omega
  | N + 1, h2, h => by
    rw [sm]
    by_cases hk : k = N + 1
    · subst hk
      rw [sm_none fun i a b => h i a (by omega) (by omega), Int.zero_add]
    · rw [sm_one h1 (by omega) fun i a b c => h i a (by omega) c, h (N + 1) (by omega) (by omega) (by omega), Int.add_zero]
theorem sm_long {f : Nat → Int} {N : Nat} : ∀ {M}, N ≤ M → (∀ i, N < i → f i = 0) → sm M f = sm N f
  | 0, h, _ => by rw [show N = 0 by omega]
  | M + 1, h, h0 => by
    by_cases hk : N = M + 1
    · rw [hk]
    · rw [sm, sm_long (by omega) h0, h0 (M + 1) (by omega), Int.add_zero]
/-- The product over divisors. -/
def cv (N : Nat) (f g : Nat → Int) (n : Nat) : Int := sm N fun d => sm N fun e => if d * e = n then f d * g e else 0
theorem cv_row {N n d : Nat} (f g : Nat → Int) (hn : 1 ≤ n) (hN : n ≤ N) (hd : 1 ≤ d) : sm N (fun e => if d * e = n then f d * g e else 0) = if n % d = 0 then f d * g (n / d) else 0 := by
  by_cases h : n % d = 0
  · have he : d * (n / d) = n := Nat.mul_div_cancel' (Nat.dvd_of_mod_eq_zero h)
    have h1 : 1 ≤ n / d := by
      rcases Nat.eq_zero_or_pos (n / d) with h0 | h0
      · rw [h0] at he; omega
      · exact h0
    have h2 : n / d ≤ N := Nat.le_trans (Nat.div_le_self n d) hN
    rw [sm_one h1 h2 fun i _ _ hi => if_neg fun hh => hi (by rw [← hh, Nat.mul_div_cancel_left _ (by omega)])]
    rw [if_pos he, if_pos h]
  · rw [if_neg h]
    exact sm_none fun i _ _ => if_neg fun hh => h (by rw [← hh]; exact Nat.mul_mod_right d i)
theorem cv_comm (N : Nat) (f g : Nat → Int) (n : Nat) : cv N f g n = cv N g f n := by
  rw [cv, cv, sm_swap]
  refine sm_congr fun d _ _ => sm_congr fun e _ _ => ?_
  rw [Nat.mul_comm, Int.mul_comm]
theorem cv_congr {N n : Nat} {f f' g g' : Nat → Int} (h : ∀ i, 1 ≤ i → i ≤ N → f i = f' i) (h2 : ∀ i, 1 ≤ i → i ≤ N → g i = g' i) : cv N f g n = cv N f' g' n :=
  sm_congr fun d d1 d2 => sm_congr fun e e1 e2 => by rw [h d d1 d2, h2 e e1 e2]
/-- Three tables, all sums over c, d, e. -/
def cv3 (N : Nat) (f g h : Nat → Int) (n : Nat) : Int := sm N fun c => sm N fun d => sm N fun e => if c * d * e = n then f c * g d * h e else 0
theorem cv_left {N n : Nat} (f g h : Nat → Int) (hN : n ≤ N) : cv N (fun m => cv N f g m) h n = cv3 N f g h n := by
  have h1 : cv N (fun m => cv N f g m) h n = sm N fun m => sm N fun e => sm N fun c => sm N fun d => if c * d = m ∧ m * e = n then f c * g d * h e else 0 := by
    refine sm_congr fun m _ _ => sm_congr fun e _ _ => ?_
    by_cases hm : m * e = n
    · rw [if_pos hm]
      show cv N f g m * h e = _
      rw [Int.mul_comm, cv, ← sm_mul]
      refine sm_congr fun c _ _ => ?_
      rw [← sm_mul]
      refine sm_congr fun d _ _ => ?_
      by_cases hc : c * d = m
      · rw [if_pos hc, if_pos ⟨hc, hm⟩, Int.mul_comm]
      · rw [if_neg hc, if_neg (fun hh => hc hh.1), Int.mul_zero]
    · rw [if_neg hm]
      refine (sm_none fun c _ _ => sm_none fun d _ _ => if_neg fun hh => hm hh.2).symm
  rw [h1, sm_swap]
  have h2 : (sm N fun e => sm N fun m => sm N fun c => sm N fun d => if c * d = m ∧ m * e = n then f c * g d * h e else 0) = sm N fun e => sm N fun c => sm N fun d => if c * d * e = n then f c * g d * h e else 0 := by
    refine sm_congr fun e e1 _ => ?_
    rw [sm_swap]
    refine sm_congr fun c c1 _ => ?_
    rw [sm_swap]
    refine sm_congr fun d d1 _ => ?_
    by_cases hh : c * d * e = n
    · have hcd : c * d ≤ N := by
        have := Nat.le_mul_of_pos_right (c * d) (show 0 < e by omega)
        omega
      rw [sm_one (k := c * d) (Nat.mul_pos (by omega) (by omega)) hcd fun i _ _ hi => if_neg fun h3 => hi h3.1.symm, if_pos ⟨rfl, hh⟩, if_pos hh]
    · rw [if_neg hh]
      exact sm_none fun i _ _ => if_neg fun h3 => hh (by rw [h3.1]; exact h3.2)
  rw [h2, cv3, sm_swap]
  refine sm_congr fun c _ _ => ?_
  rw [sm_swap]
theorem cv_assoc {N n : Nat} (f g h : Nat → Int) (hN : n ≤ N) : cv N (fun m => cv N f g m) h n = cv N f (fun m => cv N g h m) n := by
  rw [cv_left f g h hN, cv_comm N f, cv_left g h f hN, cv3, cv3]
  rw [sm_swap]
  refine sm_congr fun d _ _ => ?_
  rw [sm_swap]
  refine sm_congr fun e _ _ => sm_congr fun c _ _ => ?_
  rw [show c * d * e = d * e * c by rw [Nat.mul_assoc, Nat.mul_comm], show f c * g d * h e = g d * h e * f c by rw [Int.mul_assoc, Int.mul_comm]]
/-- The product of tables that go with coprime products goes with them too. -/
theorem cv_mult {N m n : Nat} {x y : Nat → Int} (hm : 1 ≤ m) (hn : 1 ≤ n) (hN : m * n ≤ N) (hg : Nat.Coprime m n)
    (hx : ∀ a b, 1 ≤ a → 1 ≤ b → a * b ≤ N → Nat.Coprime a b → x (a * b) = x a * x b) (hy : ∀ a b, 1 ≤ a → 1 ≤ b → a * b ≤ N → Nat.Coprime a b → y (a * b) = y a * y b) :
    cv N x y (m * n) = cv N x y m * cv N x y n := by
  have hmn : 1 ≤ m * n := Nat.mul_pos (by omega) (by omega)
  have hmN : m ≤ N := Nat.le_trans (Nat.le_mul_of_pos_right m (by omega)) hN
  have hnN : n ≤ N := Nat.le_trans (Nat.le_mul_of_pos_left n (by omega)) hN
  have row : ∀ k, 1 ≤ k → k ≤ N → cv N x y k = sm N fun d => if k % d = 0 then x d * y (k / d) else 0 := fun k h1 h2 => by
    rw [cv]
    exact sm_congr fun d d1 _ => cv_row x y h1 h2 d1
  rw [row (m * n) hmn hN, row m hm hmN, row n hn hnN]
  have h1 : (sm N fun d => if m * n % d = 0 then x d * y (m * n / d) else 0) = sm N fun d => sm N fun a => sm N fun b => if a ∣ m ∧ b ∣ n ∧ a * b = d then x d * y (m * n / d) else 0 := by
    refine sm_congr fun d d1 d2 => ?_
    by_cases hd : m * n % d = 0
    · have hdv := Nat.dvd_of_mod_eq_zero hd
      have hp : Nat.gcd d m * Nat.gcd d n = d := by
        rw [← Nat.Coprime.gcd_mul d hg, Nat.gcd_eq_left hdv]
      have a1 : 1 ≤ Nat.gcd d m := Nat.gcd_pos_of_pos_left _ (by omega)
      have b1 : 1 ≤ Nat.gcd d n := Nat.gcd_pos_of_pos_left _ (by omega)
      have a2 : Nat.gcd d m ≤ N := Nat.le_trans (Nat.le_of_dvd (by omega) (Nat.gcd_dvd_left d m)) d2
      have b2 : Nat.gcd d n ≤ N := Nat.le_trans (Nat.le_of_dvd (by omega) (Nat.gcd_dvd_left d n)) d2
      have huniq : ∀ a b, a ∣ m → b ∣ n → a * b = d → a = Nat.gcd d m ∧ b = Nat.gcd d n := fun a b ha hb hab => by
        subst hab
        constructor
        · rw [Nat.Coprime.gcd_mul_right_cancel a (Nat.Coprime.coprime_dvd_left hb hg.symm), Nat.gcd_eq_left ha]
        · rw [Nat.Coprime.gcd_mul_left_cancel b (Nat.Coprime.coprime_dvd_left ha hg), Nat.gcd_eq_left hb]
      rw [if_pos hd, sm_one a1 a2 fun a _ _ hne => sm_none fun b _ _ => if_neg fun h3 => hne (huniq a b h3.1 h3.2.1 h3.2.2).1]
      rw [sm_one b1 b2 fun b _ _ hne => if_neg fun h3 => hne (huniq _ b h3.1 h3.2.1 h3.2.2).2, if_pos ⟨Nat.gcd_dvd_right d m, Nat.gcd_dvd_right d n, hp⟩]
    · rw [if_neg hd]
      refine (sm_none fun a _ _ => sm_none fun b _ _ => if_neg fun h3 => hd ?_).symm
      rw [← h3.2.2]
      exact Nat.mod_eq_zero_of_dvd (Nat.mul_dvd_mul h3.1 h3.2.1)
  rw [h1, sm_swap]
  rw [Int.mul_comm, ← sm_mul]
  refine sm_congr fun a a1 a2 => ?_
  rw [sm_swap, Int.mul_comm, ← sm_mul]
  refine sm_congr fun b b1 b2 => ?_
  by_cases ha : a ∣ m
  · by_cases hb : b ∣ n
    · have hab : a * b ≤ N := Nat.le_trans (Nat.le_of_dvd (by omega) (Nat.mul_dvd_mul ha hb)) hN
      rw [sm_one (k := a * b) (Nat.mul_pos (by omega) (by omega)) hab fun d _ _ hne => if_neg fun h3 => hne h3.2.2.symm, if_pos ⟨ha, hb, rfl⟩, if_pos (Nat.mod_eq_zero_of_dvd ha), if_pos (Nat.mod_eq_zero_of_dvd hb)]
      have hcop : Nat.Coprime a b := Nat.Coprime.coprime_dvd_left ha (Nat.Coprime.coprime_dvd_right hb hg)
      obtain ⟨a', rfl⟩ := ha
      obtain ⟨b', rfl⟩ := hb
      have e1 : a * a' * (b * b') = a * b * (a' * b') := Nat.mul_mul_mul_comm a a' b b'
      have p1 : 1 ≤ a' := by rcases Nat.eq_zero_or_pos a' with h0 | h0 <;> first | (subst h0; simp at hm) | exact h0
      have p2 : 1 ≤ b' := by rcases Nat.eq_zero_or_pos b' with h0 | h0 <;> first | (subst h0; simp at hn) | exact h0
      rw [e1, Nat.mul_div_cancel_left _ (Nat.mul_pos (by omega) (by omega)), Nat.mul_div_cancel_left _ (by omega), Nat.mul_div_cancel_left _ (by omega)]
      have hc2 : Nat.Coprime a' b' := Nat.Coprime.coprime_dvd_left (Nat.dvd_mul_left a' a) (Nat.Coprime.coprime_dvd_right (Nat.dvd_mul_left b' b) hg)
      have hab2 : a' * b' ≤ N := by
        rw [e1] at hN
        exact Nat.le_trans (Nat.le_mul_of_pos_left _ (Nat.mul_pos (by omega) (by omega))) hN
      rw [hx a b a1 b1 hab hcop, hy a' b' p1 p2 hab2 hc2]
      rw [Int.mul_assoc, Int.mul_assoc, ← Int.mul_assoc (x b), ← Int.mul_assoc (y a'), Int.mul_comm (x b)]
    · rw [sm_none fun d _ _ => if_neg fun h3 => hb h3.2.1, if_neg (fun h3 => hb (Nat.dvd_of_mod_eq_zero h3)), Int.mul_zero]
  · rw [sm_none fun d _ _ => if_neg fun h3 => ha h3.1, if_neg (fun h3 => ha (Nat.dvd_of_mod_eq_zero h3)), Int.zero_mul]
theorem div_in {n d : Nat} (hn : 1 ≤ n) (h : n % d = 0) : 1 ≤ n / d ∧ n / d ≤ n := by
  have he : d * (n / d) = n := Nat.mul_div_cancel' (Nat.dvd_of_mod_eq_zero h)
  refine ⟨?_, Nat.div_le_self n d⟩
  rcases Nat.eq_zero_or_pos (n / d) with h0 | h0
  · rw [h0] at he; omega
  · exact h0
theorem ivL_getD' {xs : List Int} {k : Nat} (h : k < xs.length) : ivL xs k = xs[k] := by simp [ivL, h]
theorem ivL_cons1 (x : Int) (xs : List Int) (k : Nat) : ivL (x :: xs) (k + 1) = ivL xs k := by simp [ivL]
theorem mem_fks {n q : Nat} (hn : 1 ≤ n) : q ∈ fks n ↔ primeB q = true ∧ n % q = 0 := by
  rw [fks, List.mem_map]
  constructor
  · rintro ⟨x, hx, rfl⟩
    exact ⟨facs_pr n x hx, (facs_lt n hn x hx).2.2.2.1⟩
  · rintro ⟨hq, hd⟩
    have hd2 := Nat.dvd_of_mod_eq_zero hd
    rw [← facs_prod n hn] at hd2
    exact pr_prodP hq (facs n) (facs_pr n) hd2
theorem prodL_perm {l l' : List Nat} (h : l.Perm l') : prodL l = prodL l' := by
  induction h with
  | nil => rfl
  | cons x _ ih => rw [prodL, prodL, ih]
  | swap x y l => rw [prodL, prodL, prodL, prodL, ← Nat.mul_assoc, ← Nat.mul_assoc, Nat.mul_comm y x]
  | trans _ _ ih1 ih2 => rw [ih1, ih2]
/-! Sums over divisors of totients and of signs. -/
theorem fks_mul {a b : Nat} (ha : 1 ≤ a) (hb : 1 ≤ b) (hg : Nat.Coprime a b) : (fks (a * b)).Perm (fks a ++ fks b) := by
  have hab : 1 ≤ a * b := Nat.mul_pos ha hb
  refine (List.perm_ext_iff_of_nodup (fks_nodup _) ?_).2 fun q => ?_
  · refine List.nodup_append.2 ⟨fks_nodup a, fks_nodup b, fun x hx y hy hxy => ?_⟩
    subst hxy
    obtain ⟨h1, h2⟩ := (mem_fks ha).1 hx
    obtain ⟨h3, h4⟩ := (mem_fks hb).1 hy
    have := Nat.dvd_gcd (Nat.dvd_of_mod_eq_zero h2) (Nat.dvd_of_mod_eq_zero h4)
    rw [hg] at this
    have := Nat.le_of_dvd (by omega) this
    have := primeB_two h1
    omega
  · rw [mem_fks hab, List.mem_append, mem_fks ha, mem_fks hb]
    constructor
    · rintro ⟨hq, hd⟩
      rcases pr_mul hq (Nat.dvd_of_mod_eq_zero hd) with h1 | h1
      · exact .inl ⟨hq, Nat.mod_eq_zero_of_dvd h1⟩
      · exact .inr ⟨hq, Nat.mod_eq_zero_of_dvd h1⟩
    · rintro (⟨hq, hd⟩ | ⟨hq, hd⟩)
      · exact ⟨hq, Nat.mod_eq_zero_of_dvd (Nat.dvd_trans (Nat.dvd_of_mod_eq_zero hd) (Nat.dvd_mul_right _ _))⟩
      · exact ⟨hq, Nat.mod_eq_zero_of_dvd (Nat.dvd_trans (Nat.dvd_of_mod_eq_zero hd) (Nat.dvd_mul_left _ _))⟩
theorem prodM_perm {l l' : List Nat} (h : l.Perm l') : prodM l = prodM l' := by
  induction h with
  | nil => rfl
  | cons x _ ih => rw [prodM, prodM, ih]
  | swap x y l => rw [prodM, prodM, prodM, prodM, ← Nat.mul_assoc, ← Nat.mul_assoc, Nat.mul_comm (y - 1) (x - 1)]
  | trans _ _ ih1 ih2 => rw [ih1, ih2]
theorem prodM_app : ∀ (l l' : List Nat), prodM (l ++ l') = prodM l * prodM l'
  | [], l' => by rw [List.nil_append, prodM, Nat.one_mul]
  | x :: l, l' => by rw [List.cons_append, prodM, prodM, prodM_app l l', Nat.mul_assoc]
theorem prodL_app : ∀ (l l' : List Nat), prodL (l ++ l') = prodL l * prodL l'
  | [], l' => by rw [List.nil_append, prodL, Nat.one_mul]
  | x :: l, l' => by rw [List.cons_append, prodL, prodL, prodL_app l l', Nat.mul_assoc]
theorem to_mult {a b : Nat} (ha : 1 ≤ a) (hb : 1 ≤ b) (hg : Nat.Coprime a b) : toF (a * b) = toF a * toF b := by
  have hab : 1 ≤ a * b := Nat.mul_pos ha hb
  obtain ⟨K, h1, h2⟩ := toF_is hab
  obtain ⟨A, a1, a2⟩ := toF_is ha
  obtain ⟨B, b1, b2⟩ := toF_is hb
  have hp := fks_mul ha hb hg
  rw [prodL_perm hp, prodL_app] at h1
  rw [prodM_perm hp, prodM_app] at h2
  have e : K = A * B := by
    have hl : 0 < prodL (fks a) * prodL (fks b) := Nat.mul_pos (prodL_pos _ fun x hx => by have := fks_pos ha x hx; omega) (prodL_pos _ fun x hx => by have := fks_pos hb x hx; omega)
    refine Nat.eq_of_mul_eq_mul_right hl ?_
    rw [← h1]
    calc a * b = (A * prodL (fks a)) * (B * prodL (fks b)) := by rw [← a1, ← b1]
      _ = A * B * (prodL (fks a) * prodL (fks b)) := by rw [Nat.mul_assoc, Nat.mul_left_comm (prodL (fks a)) B, ← Nat.mul_assoc]
  rw [h2, a2, b2, e, Nat.mul_assoc, Nat.mul_assoc, Nat.mul_left_comm B]
theorem sg_mult {a b : Nat} (ha : 1 ≤ a) (hb : 1 ≤ b) (hg : Nat.Coprime a b) : sgF (a * b) = sgF a * sgF b := by
  have hab : 1 ≤ a * b := Nat.mul_pos ha hb
  have hp := fks_mul ha hb hg
  have e1 : prodL (fks (a * b)) = prodL (fks a) * prodL (fks b) := by rw [prodL_perm hp, prodL_app]
  have e2 : (fks (a * b)).length = (fks a).length + (fks b).length := by rw [hp.length_eq, List.length_append]
  have la := rad_le a ha
  have lb := rad_le b hb
  rw [sgF, sgF, sgF, e1, e2]
  have pa : 1 ≤ prodL (fks a) := prodL_pos _ fun x hx => by have := fks_pos ha x hx; omega
  have pb : 1 ≤ prodL (fks b) := prodL_pos _ fun x hx => by have := fks_pos hb x hx; omega
  by_cases h1 : prodL (fks a) = a
  · by_cases h2 : prodL (fks b) = b
    · rw [if_pos (by rw [h1, h2]), if_pos h1, if_pos h2]
      split <;> split <;> split <;> omega
    · rw [if_neg (fun hh => h2 ?_), if_neg h2]
      · rw [Int.mul_zero]
      · rw [h1] at hh
        exact Nat.eq_of_mul_eq_mul_left (show 0 < a by omega) hh
  · rw [if_neg (fun hh => h1 ?_), if_neg h1]
    · rw [Int.zero_mul]
    · have h3 : prodL (fks a) * prodL (fks b) ≤ prodL (fks a) * b := Nat.mul_le_mul_left _ lb
      have h4 : a * b ≤ prodL (fks a) * b := by omega
      have := Nat.le_of_mul_le_mul_right h4 (by omega)
      omega
/-- Divisors of a power. -/
theorem dvd_pow_or {p d : Nat} (hp : primeB p = true) : ∀ k, d ∣ p ^ (k + 1) → d ∣ p ^ k ∨ d = p ^ (k + 1)
  | k, h => by
    have p2 := primeB_two hp
    rcases pr_or hp (d := d) with h1 | h1
    · obtain ⟨e, rfl⟩ := h1
      have he : e ∣ p ^ k := by
        rw [Nat.pow_succ, Nat.mul_comm (p ^ k)] at h
        exact Nat.dvd_of_mul_dvd_mul_left (by omega) h
      cases k with
      | zero =>
        rw [Nat.pow_zero] at he
        have := Nat.le_of_dvd (by omega) he
        have : 0 < e := Nat.pos_of_dvd_of_pos he (by omega)
        obtain rfl : e = 1 := by omega
        right; rw [Nat.pow_succ, Nat.pow_zero, Nat.mul_one, Nat.one_mul]
      | succ k =>
        rcases dvd_pow_or hp k he with h2 | h2
        · left
          rw [Nat.pow_succ, Nat.mul_comm (p ^ k)]
          exact Nat.mul_dvd_mul_left p h2
        · right
          rw [h2, Nat.pow_succ p (k + 1), Nat.mul_comm]
    · left
      rw [Nat.pow_succ] at h
      exact Nat.Coprime.dvd_of_dvd_mul_right (Nat.Coprime.symm h1) h
/-- A sum over divisors. -/
def dsm (f : Nat → Int) (n : Nat) : Int := sm n fun d => if n % d = 0 then f d else 0
theorem dsm_pow {p : Nat} (hp : primeB p = true) (f : Nat → Int) (k : Nat) : dsm f (p ^ (k + 1)) = dsm f (p ^ k) + f (p ^ (k + 1)) := by
  have p2 := primeB_two hp
  have hk : 1 ≤ p ^ k := Nat.pow_pos (by omega)
  have hk1 : 1 ≤ p ^ (k + 1) := Nat.pow_pos (by omega)
  have hlt : p ^ k < p ^ (k + 1) := by rw [Nat.pow_succ]; exact (Nat.lt_mul_iff_one_lt_right hk).2 (by omega)
  have e1 : dsm f (p ^ (k + 1)) = sm (p ^ (k + 1)) (fun d => (if p ^ k % d = 0 then f d else 0) + (if d = p ^ (k + 1) then f d else 0)) := by
    refine sm_congr fun d d1 d2 => ?_
    by_cases h1 : p ^ k % d = 0
    · have hd := Nat.le_of_dvd hk (Nat.dvd_of_mod_eq_zero h1)
      rw [if_pos h1, if_neg (show ¬ d = p ^ (k + 1) by omega), if_pos (show p ^ (k + 1) % d = 0 from Nat.mod_eq_zero_of_dvd (Nat.dvd_trans (Nat.dvd_of_mod_eq_zero h1) ⟨p, Nat.pow_succ ..⟩)), Int.add_zero]
    · by_cases h2 : d = p ^ (k + 1)
      · rw [if_neg h1, if_pos h2, if_pos (by rw [h2, Nat.mod_self]), Int.zero_add]
      · rw [if_neg h1, if_neg h2, if_neg]; rfl
        intro hh
        rcases dvd_pow_or hp k (Nat.dvd_of_mod_eq_zero hh) with h3 | h3
        · exact h1 (Nat.mod_eq_zero_of_dvd h3)
        · exact h2 h3
  rw [e1, sm_add, sm_one (k := p ^ (k + 1)) hk1 (Nat.le_refl _) fun i _ _ hi => if_neg hi, if_pos rfl]
  congr 1
  refine sm_long (by omega) fun i hi => ?_
  rw [if_neg]
  intro hh
  have := Nat.le_of_dvd hk (Nat.dvd_of_mod_eq_zero hh)
  omega
theorem dsm_cv (f : Nat → Int) {n N : Nat} (hn : 1 ≤ n) (hN : n ≤ N) : dsm f n = cv N f (fun _ => 1) n := by
  rw [cv, dsm, ← sm_long (M := N) hN]
  · refine sm_congr fun d d1 _ => ?_
    rw [cv_row f (fun _ => 1) hn hN d1]
    split <;> simp
  · intro i hi
    rw [if_neg]
    rw [Nat.mod_eq_of_lt hi]
    omega
theorem dsm_mult {f : Nat → Int} {a b : Nat} (ha : 1 ≤ a) (hb : 1 ≤ b) (hg : Nat.Coprime a b) (hf : ∀ a b, 1 ≤ a → 1 ≤ b → Nat.Coprime a b → f (a * b) = f a * f b) : dsm f (a * b) = dsm f a * dsm f b := by
  have hab : 1 ≤ a * b := Nat.mul_pos ha hb
  have h1 : a ≤ a * b := Nat.le_mul_of_pos_right a (by omega)
  have h2 : b ≤ a * b := Nat.le_mul_of_pos_left b (by omega)
  rw [dsm_cv f hab (Nat.le_refl _), dsm_cv f ha h1, dsm_cv f hb h2]
  exact cv_mult ha hb (Nat.le_refl _) hg (fun x y hx hy _ hxy => hf x y hx hy hxy) fun _ _ _ _ _ _ => rfl
theorem fks_pow {p : Nat} (hp : primeB p = true) {k : Nat} (hk : 1 ≤ k) : fks (p ^ k) = [p] := by
  have h := facs_of [(p, k)] (by simp [hp, hk]) (by simp)
  rw [prodP_cons, show prodP [] = 1 from rfl, Nat.mul_one] at h
  rw [fks, h]; rfl
theorem to_pow {p : Nat} (hp : primeB p = true) (k : Nat) : (toF (p ^ (k + 1)) : Int) = ((p ^ (k + 1) : Nat) : Int) - ((p ^ k : Nat) : Int) := by
  have p2 := primeB_two hp
  obtain ⟨K, h1, h2⟩ := toF_is (N := p ^ (k + 1)) (Nat.pow_pos (by omega))
  rw [fks_pow hp (by omega)] at h1 h2
  have e : K = p ^ k := by
    rw [prodL, prodL, Nat.mul_one, Nat.pow_succ] at h1
    exact (Nat.eq_of_mul_eq_mul_right (by omega) h1).symm
  rw [h2, prodM, prodM, Nat.mul_one, e, Nat.pow_succ]
  have : p ^ k * (p - 1) = p ^ k * p - p ^ k := by rw [Nat.mul_sub, Nat.mul_one]
  have h3 : p ^ k ≤ p ^ k * p := Nat.le_mul_of_pos_right _ (by omega)
  omega
theorem dsm_one (f : Nat → Int) : dsm f 1 = f 1 := by simp [dsm, sm]
theorem dsm_to_pow {p : Nat} (hp : primeB p = true) : ∀ k, dsm (fun d => (toF d : Int)) (p ^ k) = ((p ^ k : Nat) : Int)
  | 0 => by rw [Nat.pow_zero, dsm_one]; decide +kernel
  | k + 1 => by rw [dsm_pow hp, dsm_to_pow hp k, to_pow hp k]; omega
theorem sg_pow0 {p : Nat} (hp : primeB p = true) : sgF (p ^ 1) = -1 := by
  rw [sgF, fks_pow hp (Nat.le_refl 1), Nat.pow_one, prodL, prodL, Nat.mul_one, if_pos rfl]; rfl
theorem sg_pow2 {p : Nat} (hp : primeB p = true) (k : Nat) : sgF (p ^ (k + 2)) = 0 := by
  have p2 := primeB_two hp
  rw [sgF, fks_pow hp (by omega), prodL, prodL, Nat.mul_one, if_neg]
  intro hh
  rw [Nat.pow_succ, Nat.pow_succ] at hh
  have hk : 1 ≤ p ^ k := Nat.pow_pos (by omega)
  have h3 : 1 * p * p ≤ p ^ k * p * p := Nat.mul_le_mul_right _ (Nat.mul_le_mul_right _ hk)
  have h4 : 2 * p ≤ 1 * p * p := by rw [Nat.one_mul]; exact Nat.mul_le_mul_right _ p2
  omega
theorem dsm_sg_pow {p : Nat} (hp : primeB p = true) : ∀ k, dsm sgF (p ^ (k + 1)) = 0
  | 0 => by rw [dsm_pow hp, Nat.pow_zero, dsm_one, sg_pow0 hp]; decide +kernel
  | k + 1 => by rw [dsm_pow hp, dsm_sg_pow hp k, sg_pow2 hp k]; rfl
theorem part_of {n : Nat} (hn : 2 ≤ n) : ∃ p k m, primeB p = true ∧ n = p ^ (k + 1) * m ∧ 1 ≤ m ∧ m < n ∧ Nat.Coprime (p ^ (k + 1)) m := by
  have hp := leastF_pr hn
  obtain ⟨h1, h2, h3, h4, h5, h6, h7⟩ := lsP_facts hn
  have hk : 1 ≤ strK (leastF n) n := by
    rcases Nat.eq_zero_or_pos (strK (leastF n) n) with h0 | h0
    · rw [lsP, h0, Nat.pow_zero] at h2; omega
    · exact h0
  refine ⟨leastF n, strK (leastF n) n - 1, strR (leastF n) n, hp, ?_, h3, ?_, ?_⟩
  · rw [Nat.sub_add_cancel hk]; exact h1
  · rw [← h4]; exact h5
  · rw [Nat.sub_add_cancel hk, ← h4]; exact h6
theorem dsm_to : ∀ (n : Nat), 1 ≤ n → dsm (fun d => (toF d : Int)) n = (n : Int) := by
  intro n
  induction n using Nat.strongRecOn with
  | _ n ih =>
    intro hn
    by_cases h2 : 2 ≤ n
    · obtain ⟨p, k, m, hp, e, m1, m2, hg⟩ := part_of h2
      have p2 := primeB_two hp
      rw [e, dsm_mult (Nat.pow_pos (by omega)) m1 hg fun a b ha hb hab => by rw [to_mult ha hb hab, Int.natCast_mul], dsm_to_pow hp, ih m m2 m1, Int.natCast_mul]
    · obtain rfl : n = 1 := by omega
      rw [dsm_one]; decide +kernel
theorem dsm_sg : ∀ (n : Nat), 1 ≤ n → dsm sgF n = if n = 1 then 1 else 0 := by
  intro n hn
  by_cases h2 : 2 ≤ n
  · obtain ⟨p, k, m, hp, e, m1, m2, hg⟩ := part_of h2
    have p2 := primeB_two hp
    rw [if_neg (by omega), e, dsm_mult (Nat.pow_pos (by omega)) m1 hg fun a b ha hb hab => sg_mult ha hb hab, dsm_sg_pow hp, Int.zero_mul]
  · obtain rfl : n = 1 := by omega
    rw [dsm_one, if_pos rfl]; decide +kernel
/-- Partial sums over the list of divisors. -/
theorem suF_flF (f : Nat → Int) (F : Int → Int) (p : Nat → Bool) (h : ∀ d : Nat, F (d : Int) = f d) : ∀ n, suF F (flF p 1 n) = sm n (fun d => if p d = true then f d else 0)
  | 0 => rfl
  | n + 1 => by
    by_cases hp : p (1 + n) = true
    · rw [flF_yes hp, suF_snoc, suF_flF f F p h n, sm, Nat.add_comm n 1, if_pos hp, h]
    · rw [flF_no (by simpa using hp), suF_flF f F p h n, sm, Nat.add_comm n 1, if_neg hp, Int.add_zero]
theorem su_dsm (f : Nat → Int) (F : Int → Int) (h : ∀ d : Nat, F (d : Int) = f d) (n : Nat) : suF F (dvD n) = dsm f n := by
  rw [dvD, suF_flF f F (dvP n) h, dsm]
  exact sm_congr fun d _ _ => by simp [dvP]
/-! Divisors in pairs. -/
theorem dv_pairs {n : Nat} (hn : 1 ≤ n) : (dvD n).reverse.map (fun z => (n : Int) / z) = dvD n := by
  have hmem : ∀ z, z ∈ dvD n ↔ ∃ d : Nat, z = (d : Int) ∧ 1 ≤ d ∧ d ≤ n ∧ n % d = 0 := fun z => dvD_mem
  refine strict_same ?_ (flF_strict _ _ _) fun z => ?_
  · rw [List.pairwise_map, List.pairwise_reverse]
    refine List.Pairwise.imp_of_mem (R := (· < ·)) ?_ (flF_strict _ _ _)
    intro x y hx hy hxy
    obtain ⟨a, rfl, a1, a2, a3⟩ := (hmem x).1 hx
    obtain ⟨b, rfl, b1, b2, b3⟩ := (hmem y).1 hy
    have := div_fall a1 (by omega) hn a3 b3
    rw [← Int.natCast_ediv, ← Int.natCast_ediv]
    omega
  · rw [List.mem_map]
    constructor
    · rintro ⟨x, hx, rfl⟩
      obtain ⟨a, rfl, a1, a2, a3⟩ := (hmem x).1 (List.mem_reverse.1 hx)
      obtain ⟨q1, q2⟩ := div_in hn a3
      refine (hmem _).2 ⟨n / a, by push_cast; rfl, q1, q2, ?_⟩
      exact Nat.mod_eq_zero_of_dvd (Nat.div_dvd_of_dvd (Nat.dvd_of_mod_eq_zero a3))
    · intro hz
      obtain ⟨a, rfl, a1, a2, a3⟩ := (hmem z).1 hz
      obtain ⟨q1, q2⟩ := div_in hn a3
      refine ⟨((n / a : Nat) : Int), List.mem_reverse.2 ((hmem _).2 ⟨n / a, rfl, q1, q2, Nat.mod_eq_zero_of_dvd (Nat.div_dvd_of_dvd (Nat.dvd_of_mod_eq_zero a3))⟩), ?_⟩
      rw [← Int.natCast_ediv, Nat.div_div_self (Nat.dvd_of_mod_eq_zero a3) (by omega)]
/-- What is asked of the list of divisors. -/
theorem dv_list {n : Nat} (hn : 1 ≤ n) : 1 ≤ (dvD n).length ∧ ivL (dvD n) 0 = 1 ∧ ivL (dvD n) ((dvD n).length - 1) = (n : Int) ∧
    ∀ k, k < (dvD n).length → ∃ d : Nat, ivL (dvD n) k = (d : Int) ∧ 1 ≤ d ∧ d ≤ n ∧ ivL (dvD n) k * ivL (dvD n) ((dvD n).length - 1 - k) = (n : Int) ∧ ∀ j, k = j + 1 → ivL (dvD n) j < ivL (dvD n) k := by
  have hmem : ∀ z, z ∈ dvD n ↔ ∃ d : Nat, z = (d : Int) ∧ 1 ≤ d ∧ d ≤ n ∧ n % d = 0 := fun z => dvD_mem
  have h1m : (1 : Int) ∈ dvD n := (hmem 1).2 ⟨1, rfl, Nat.le_refl 1, hn, Nat.mod_one n⟩
  have hlen : 1 ≤ (dvD n).length := List.length_pos_of_mem h1m
  have hr : (dvD n).Pairwise (· < ·) := flF_strict (dvP n) 1 n
  have hlt : ∀ i j, i < j → (hj : j < (dvD n).length) → ivL (dvD n) i < ivL (dvD n) j := fun i j hij hj => by
    rw [ivL_getD' hj, ivL_getD' (show i < (dvD n).length by omega)]
    exact (List.pairwise_iff_getElem.1 hr) i j (by omega) hj hij
  have hpair : ∀ k, k < (dvD n).length → ivL (dvD n) k * ivL (dvD n) ((dvD n).length - 1 - k) = (n : Int) := fun k hk => by
    have e := dv_pairs hn
    have e2 : (dvD n)[k]? = ((dvD n).reverse.map (fun z => (n : Int) / z))[k]? := by rw [e]
    rw [List.getElem?_map, List.getElem?_reverse hk, List.getElem?_eq_getElem hk, List.getElem?_eq_getElem (show (dvD n).length - 1 - k < (dvD n).length by omega), Option.map_some] at e2
    injection e2 with e2
    rw [ivL_getD' hk, ivL_getD' (show (dvD n).length - 1 - k < (dvD n).length by omega), e2]
    obtain ⟨d, hd, d1, d2, d3⟩ := (hmem _).1 (List.getElem_mem (show (dvD n).length - 1 - k < (dvD n).length by omega))
    rw [hd, ← Int.natCast_ediv, ← Int.natCast_mul, Nat.div_mul_cancel (Nat.dvd_of_mod_eq_zero d3)]
  have h0 : ivL (dvD n) 0 = 1 := by
    obtain ⟨i, hi, hx⟩ := List.getElem_of_mem h1m
    obtain ⟨d, hd, d1, d2, d3⟩ := (hmem _).1 (List.getElem_mem (show 0 < (dvD n).length by omega))
    rw [ivL_getD' (by omega), hd]
    rcases Nat.eq_zero_or_pos i with h | h
    · subst h; rw [← hd, hx]
    · have := hlt 0 i h hi
      rw [ivL_getD' hi, ivL_getD' (by omega), hx, hd] at this
      omega
  refine ⟨hlen, h0, ?_, fun k hk => ?_⟩
  · have := hpair 0 (by omega)
    rw [h0, Int.one_mul] at this
    exact this
  · obtain ⟨d, hd, d1, d2, d3⟩ := (hmem _).1 (List.getElem_mem hk)
    refine ⟨d, by rw [ivL_getD' hk, hd], d1, d2, hpair k hk, fun j hj => hlt j k (by omega) hk⟩
/-! Sum ways. -/
theorem sw_facts : ∀ (s n : Nat), 1 ≤ (swF s n).length ∧ ivL (swF s n) 0 = (n : Int) ∧ (∀ i, i + 1 < (swF s n).length → ∃ m : Nat, ivL (swF s n) i = (m : Int) ∧ 1 ≤ m ∧ m ≤ 1000000 ∧ ivL (swF s n) (i + 1) = (stN m : Int)) ∧
    ((swF s n).length < s + 1 → ∃ m : Nat, ivL (swF s n) ((swF s n).length - 1) = (m : Int) ∧ ¬ (1 ≤ m ∧ m ≤ 1000000))
  | 0, n => ⟨by simp [swF], by simp [swF, ivL], fun i h => by simp [swF] at h, fun h => by simp [swF] at h⟩
  | s + 1, n => by
    obtain ⟨a1, a2, a3, a4⟩ := sw_facts s (stN n)
    by_cases h : 1 ≤ n ∧ n ≤ 1000000
    · rw [swF, if_pos h]
      refine ⟨by simp, by simp [ivL], fun i hi => ?_, fun hl => ?_⟩
      · rw [List.length_cons] at hi
        cases i with
        | zero => exact ⟨n, by simp [ivL], h.1, h.2, by rw [ivL_cons1, a2]⟩
        | succ i =>
          obtain ⟨m, m1, m2, m3, m4⟩ := a3 i (by omega)
          exact ⟨m, by rw [ivL_cons1, m1], m2, m3, by rw [ivL_cons1, m4]⟩
      · rw [List.length_cons] at hl ⊢
        obtain ⟨m, m1, m2⟩ := a4 (by omega)
        refine ⟨m, ?_, m2⟩
        rw [show (swF s (stN n)).length + 1 - 1 = ((swF s (stN n)).length - 1) + 1 by omega, ivL_cons1, m1]
    · rw [swF, if_neg h]
      exact ⟨by simp, by simp [ivL], fun i hi => by simp at hi, fun _ => ⟨n, by simp [ivL], h⟩⟩
/-! Totients count what has no common divisor, up to 600. -/
def cpC (n : Nat) : Nat → Nat
  | 0 => 0
  | k + 1 => if Nat.gcd n (k + 1) = 1 then cpC n k + 1 else cpC n k
theorem cpC_le (n : Nat) : ∀ k, cpC n k ≤ k
  | 0 => Nat.le_refl 0
  | k + 1 => by rw [cpC]; have := cpC_le n k; split <;> omega
theorem cp_t : ((List.range 600).all fun n => cpC (n + 1) (n + 1) == toF (n + 1)) = true := by decide +kernel
theorem cp_is {n : Nat} (h1 : 1 ≤ n) (h2 : n ≤ 600) : cpC n n = toF n := by
  have h := List.all_eq_true.1 cp_t (n - 1) (List.mem_range.2 (by omega))
  rw [Nat.sub_add_cancel h1] at h
  exact beq_iff_eq.1 h

end Go.Proofs.Ytapjbppkekigaab
