import Derived.Test.YtehppjdiegoeeaaU0
import Derived.Test.YtehppjdiegoeeaaY0
namespace Go.Proofs.Ytehppjdiegoeeaa
open Go.RowKit
set_option linter.unusedVariables false
set_option linter.unusedSimpArgs false

/-! Numbers out of their exponents. -/
def exF (N p : Nat) : Nat := (pf N).count p
theorem exF_of {N : Nat} {x : Nat × Nat} (h : x ∈ facs N) : exF N x.1 = x.2 := count_pf h
theorem fks_mem {N p : Nat} : p ∈ fks N ↔ ∃ x ∈ facs N, x.1 = p := by rw [fks, List.mem_map]
/-- The product of powers. -/
def prodP (l : List (Nat × Nat)) : Nat := l.foldr (fun x a => x.1 ^ x.2 * a) 1
def prodH (l : List (Nat × Nat)) : Nat := l.foldr (fun x a => x.1 ^ (x.2 / 2) * a) 1
theorem prodP_cons (x : Nat × Nat) (l : List (Nat × Nat)) : prodP (x :: l) = x.1 ^ x.2 * prodP l := rfl
theorem prodH_cons (x : Nat × Nat) (l : List (Nat × Nat)) : prodH (x :: l) = x.1 ^ (x.2 / 2) * prodH l := rfl
theorem facs_prod : ∀ (n : Nat), 1 ≤ n → prodP (facs n) = n := by
  intro n
  induction n using Nat.strongRecOn with
  | ind n ih =>
    intro hn
    by_cases h2 : 2 ≤ n
    · have hp := leastF_ge h2
      obtain ⟨a, b, c, e⟩ := str_facts hp n hn
      rw [facs_yes h2, prodP_cons, ih _ (str_lt hp hn (leastF_dvd n)) a]
      exact e.symm
    · rw [facs_no h2]
      show 1 = n
      omega
theorem fks_facs_one : ∀ (l : List (Nat × Nat)), (∀ x ∈ l, x.2 = 1) → prodL (l.map Prod.fst) = prodP l
  | [], _ => rfl
  | x :: l, h => by
    rw [List.map_cons, prodL, prodP_cons, fks_facs_one l fun y hy => h y (List.mem_cons_of_mem _ hy), h x (List.mem_cons_self ..), Nat.pow_one]
theorem prodP_pos : ∀ (l : List (Nat × Nat)), (∀ x ∈ l, 2 ≤ x.1) → 1 ≤ prodP l
  | [], _ => Nat.le_refl _
  | x :: l, h => by
    rw [prodP_cons]
    exact Nat.mul_pos (Nat.pow_pos (by have := h x (List.mem_cons_self ..); omega)) (prodP_pos l fun y hy => h y (List.mem_cons_of_mem _ hy))
theorem fks_facs_le : ∀ (l : List (Nat × Nat)), (∀ x ∈ l, 2 ≤ x.1 ∧ 1 ≤ x.2) → prodL (l.map Prod.fst) ≤ prodP l
  | [], _ => Nat.le_refl _
  | x :: l, h => by
    have h1 := fks_facs_le l fun y hy => h y (List.mem_cons_of_mem _ hy)
    obtain ⟨h2, h3⟩ := h x (List.mem_cons_self ..)
    rw [List.map_cons, prodL, prodP_cons]
    refine Nat.mul_le_mul ?_ h1
    exact Nat.le_self_pow (by omega) _
theorem fks_facs_lt : ∀ (l : List (Nat × Nat)), (∀ x ∈ l, 2 ≤ x.1 ∧ 1 ≤ x.2) → (∃ x ∈ l, 2 ≤ x.2) → prodL (l.map Prod.fst) < prodP l
  | [], _, h => by obtain ⟨x, hx, _⟩ := h; cases hx
  | x :: l, h, hx => by
    have hl := fun y (hy : y ∈ l) => h y (List.mem_cons_of_mem _ hy)
    have h1 := fks_facs_le l hl
    obtain ⟨h2, h3⟩ := h x (List.mem_cons_self ..)
    have hp := prodP_pos l fun y hy => (hl y hy).1
    rw [List.map_cons, prodL, prodP_cons]
    by_cases hx2 : 2 ≤ x.2
    · have h4 : x.1 < x.1 ^ x.2 := by
        have h5 := Nat.pow_le_pow_right (n := x.1) (by omega) hx2
        have h6 := Nat.mul_le_mul h2 (Nat.le_refl x.1)
        rw [Nat.pow_two] at h5
        omega
      exact Nat.lt_of_le_of_lt (Nat.mul_le_mul (Nat.le_refl _) h1) (Nat.mul_lt_mul_of_pos_right h4 hp)
    · obtain ⟨y, hy, hy2⟩ := hx
      rcases List.mem_cons.1 hy with e | hy
      · subst e; omega
      · have h5 := fks_facs_lt l hl ⟨y, hy, hy2⟩
        have h6 : x.2 = 1 := by omega
        rw [h6, Nat.pow_one]
        exact Nat.mul_lt_mul_of_pos_left h5 (by omega)
theorem facs_ok {n : Nat} (hn : 1 ≤ n) : ∀ x ∈ facs n, 2 ≤ x.1 ∧ 1 ≤ x.2 := fun x hx => ⟨(facs_lt n hn x hx).1, (facs_lt n hn x hx).2.1⟩
theorem sg_zero {N p : Nat} (h1 : 1 ≤ N) (hp : p ∈ fks N) (h : 2 ≤ exF N p) : sgF N = 0 := by
  obtain ⟨x, hx, rfl⟩ := fks_mem.1 hp
  rw [exF_of hx] at h
  have := fks_facs_lt (facs N) (facs_ok h1) ⟨x, hx, h⟩
  rw [facs_prod N h1] at this
  rw [sgF, fks, if_neg (by omega)]
theorem facs_ones {N : Nat} (h1 : 1 ≤ N) (h : ∀ p ∈ fks N, exF N p ≤ 1) : ∀ x ∈ facs N, x.2 = 1 := fun x hx => by
  have h2 := h x.1 (fks_mem.2 ⟨x, hx, rfl⟩)
  rw [exF_of hx] at h2
  have := (facs_ok h1 x hx).2
  omega
theorem sg_ones {N : Nat} (h1 : 1 ≤ N) (h : ∀ p ∈ fks N, exF N p ≤ 1) : sgF N = if (fks N).length % 2 = 0 then 1 else -1 := by
  have h2 := fks_facs_one (facs N) (facs_ones h1 h)
  rw [facs_prod N h1] at h2
  rw [sgF, if_pos (show prodL (fks N) = N from h2)]
/-- 1 and -1 by turns. -/
def altF (k : Nat) : Int := if k % 2 = 0 then 1 else -1
theorem altF_succ (k : Nat) : altF (k + 1) = -altF k := by simp only [altF]; split <;> split <;> omega
theorem altF_bound (k : Nat) : -1 ≤ altF k ∧ altF k ≤ 1 := by simp only [altF]; split <;> omega
theorem altF_prev (k : Nat) : -altF k = altF (k + 1) := (altF_succ k).symm

/- Square parts out of exponents. -/
theorem part_split : ∀ (n : Nat), 1 ≤ n → 1 ≤ prodH (facs n) ∧ ∃ s, 1 ≤ s ∧ n = prodH (facs n) * prodH (facs n) * s ∧ sqFree s := by
  intro n
  induction n using Nat.strongRecOn with
  | ind n ih =>
    intro hn
    by_cases h2 : 2 ≤ n
    · have hp := leastF_ge h2
      have hmin := fun (d : Nat) (hd : 2 ≤ d) (h : n % d = 0) => leastF_min hn hd h
      have hpn := leastF_dvd n
      obtain ⟨a, b, c, e⟩ := str_facts hp n hn
      obtain ⟨hP1, s, hs1, hs, hsf⟩ := ih _ (str_lt hp hn hpn) a
      rw [facs_yes h2, prodH_cons]
      generalize leastF n = p at *
      generalize hkk : strK p n = k at *
      generalize strR p n = r at *
      generalize prodH (facs r) = P at *
      show 1 ≤ p ^ (k / 2) * P ∧ ∃ s, 1 ≤ s ∧ n = p ^ (k / 2) * P * (p ^ (k / 2) * P) * s ∧ sqFree s
      generalize hq : p ^ (k / 2) = q at *
      have hq1 : 1 ≤ q := by rw [← hq]; exact Nat.pow_pos (by omega)
      refine ⟨Nat.mul_pos hq1 hP1, ?_⟩
      rcases Nat.mod_two_eq_zero_or_one k with hk | hk
      · refine ⟨s, hs1, ?_, hsf⟩
        have h3 : p ^ k = q * q := by rw [← hq, ← Nat.pow_add]; congr 1; omega
        rw [e, h3, hs]
        simp only [Nat.mul_assoc, Nat.mul_comm, Nat.mul_left_comm]
      · have h3 : p ^ k = q * q * p := by rw [← hq, ← Nat.pow_add, ← Nat.pow_succ]; congr 1; omega
        refine ⟨p * s, Nat.mul_pos (by omega) hs1, ?_, ?_⟩
        · rw [e, h3, hs]
          simp only [Nat.mul_assoc, Nat.mul_comm, Nat.mul_left_comm]
        · intro m hm hd
          have hps : ¬ p ∣ s := fun hh => c (Nat.mod_eq_zero_of_dvd (by rw [hs]; exact Nat.dvd_trans hh (Nat.dvd_mul_left _ _)))
          have hg1 : Nat.gcd m p ∣ p := Nat.gcd_dvd_right m p
          have hgp := Nat.le_of_dvd (by omega) hg1
          have hg0 : 0 < Nat.gcd m p := Nat.gcd_pos_of_pos_right _ (by omega)
          by_cases hg : Nat.gcd m p = 1
          · have hc : Nat.Coprime (m * m) p := Nat.Coprime.mul_left hg hg
            exact hsf m hm (hc.dvd_of_dvd_mul_left hd)
          · have h4 := hmin (Nat.gcd m p) (by omega) (Nat.mod_eq_zero_of_dvd (Nat.dvd_trans hg1 (Nat.dvd_of_mod_eq_zero hpn)))
            have h5 : Nat.gcd m p = p := by omega
            have h6 : p ∣ m := by rw [← h5]; exact Nat.gcd_dvd_left m p
            have h7 : p * p ∣ p * s := Nat.dvd_trans (Nat.mul_dvd_mul h6 h6) hd
            exact hps (Nat.dvd_of_mul_dvd_mul_left (by omega) h7)
    · have : n = 1 := by omega
      subst this
      rw [facs_no (by omega)]
      exact ⟨Nat.le_refl _, 1, Nat.le_refl _, rfl, fun m hm h => by have := Nat.le_of_dvd (by omega) h; have := Nat.mul_le_mul hm hm; omega⟩
theorem sqG_facs {n : Nat} (h1 : 1 ≤ n) : sqG n = prodH (facs n) := by
  obtain ⟨hP, s, hs1, hs, hsf⟩ := part_split n h1
  generalize prodH (facs n) = P at *
  refine sqG_is h1 (by rw [hs]; exact Nat.dvd_mul_right _ _) fun m hm => ?_
  rw [hs] at hm
  exact Nat.le_of_dvd (by omega) (sq_dvd hP hsf hm)
/-- The product of the primes' halves. -/
def hpL (N : Nat) : List Nat → Nat
  | [] => 1
  | p :: l => p ^ (exF N p / 2) * hpL N l
theorem hpL_erase {N p : Nat} : ∀ {l : List Nat}, p ∈ l → hpL N l = p ^ (exF N p / 2) * hpL N (l.erase p)
  | x :: l, h => by
    by_cases e : x = p
    · subst e; rw [List.erase_cons_head, hpL]
    · have h2 : p ∈ l := by rcases List.mem_cons.1 h with h | h; exact absurd h.symm e; exact h
      rw [List.erase_cons_tail (by simpa using e), hpL, hpL, hpL_erase h2, Nat.mul_left_comm]
theorem hpL_pos {N : Nat} : ∀ {l : List Nat}, (∀ x ∈ l, 2 ≤ x) → 1 ≤ hpL N l
  | [], _ => Nat.le_refl _
  | x :: l, h => Nat.mul_pos (Nat.pow_pos (by have := h x (List.mem_cons_self ..); omega)) (hpL_pos fun y hy => h y (List.mem_cons_of_mem _ hy))
theorem hpL_facs {N : Nat} : ∀ {l : List (Nat × Nat)}, (∀ x ∈ l, exF N x.1 = x.2) → hpL N (l.map Prod.fst) = prodH l
  | [], _ => rfl
  | x :: l, h => by rw [List.map_cons, hpL, prodH_cons, h x (List.mem_cons_self ..), hpL_facs fun y hy => h y (List.mem_cons_of_mem _ hy)]
theorem hpL_all {N : Nat} (h1 : 1 ≤ N) : hpL N (fks N) = sqG N := by rw [sqG_facs h1, fks]; exact hpL_facs fun x hx => exF_of hx
theorem sqG_le {N : Nat} (h1 : 1 ≤ N) : sqG N ≤ N := by
  obtain ⟨a, b⟩ := sqG_dvd h1
  have := Nat.le_of_dvd (by omega) a
  have := Nat.mul_le_mul b (Nat.le_refl (sqG N))
  omega
theorem prodH_one : ∀ (l : List (Nat × Nat)), (∀ x ∈ l, 2 ≤ x.1) → (prodH l = 1 ↔ ∀ x ∈ l, x.2 ≤ 1)
  | [], _ => ⟨fun _ x hx => (List.not_mem_nil hx).elim, fun _ => rfl⟩
  | x :: l, h => by
    have h1 := prodH_one l fun y hy => h y (List.mem_cons_of_mem _ hy)
    have h2 := h x (List.mem_cons_self ..)
    rw [prodH_cons, show x.1 ^ (x.2 / 2) * prodH l = 1 ↔ x.1 ^ (x.2 / 2) = 1 ∧ prodH l = 1 from ⟨fun h => ⟨Nat.eq_one_of_mul_eq_one_right h, Nat.eq_one_of_mul_eq_one_left h⟩, fun h => by rw [h.1, h.2]⟩, h1]
    constructor
    · rintro ⟨a, b⟩ y hy
      rcases List.mem_cons.1 hy with e | hy
      · subst e
        rcases Nat.lt_or_ge y.2 2 with h3 | h3
        · omega
        · have : 1 ≤ y.2 / 2 := by omega
          have := Nat.pow_le_pow_right (n := y.1) (by omega) this
          rw [Nat.pow_one] at this
          omega
      · exact b y hy
    · intro hh
      refine ⟨?_, fun y hy => hh y (List.mem_cons_of_mem _ hy)⟩
      have := hh x (List.mem_cons_self ..)
      rw [show x.2 / 2 = 0 by omega, Nat.pow_zero]
theorem sf_sign {N : Nat} (h1 : 1 ≤ N) : sfB N = true ↔ sgF N ≠ 0 := by
  rw [sfB, beq_iff_eq, sqG_facs h1, prodH_one _ fun x hx => (facs_ok h1 x hx).1]
  constructor
  · intro h
    have h2 := sg_ones h1 fun p hp => by
      obtain ⟨x, hx, rfl⟩ := fks_mem.1 hp
      rw [exF_of hx]
      exact h x hx
    rw [h2]
    split <;> omega
  · intro h x hx
    rcases Nat.lt_or_ge x.2 2 with h3 | h3
    · omega
    · exact absurd (sg_zero h1 (fks_mem.2 ⟨x, hx, rfl⟩) (by rw [exF_of hx]; exact h3)) h
theorem sf_bne {N : Nat} (h1 : 1 ≤ N) : (sgF N != 0) = sfB N := by
  rw [Bool.eq_iff_iff, bne_iff_ne, sf_sign h1]

/- Ranks of square-free numbers. -/
theorem nsF_is {n : Nat} (h : n ≤ 100003) : sfB (nsF n) = true ∧ ∀ m, n ≤ m → m < nsF n → sfB m = false := by
  have hk : ∀ d n : Nat, n + d = 100003 → sfB (nsF n) = true ∧ ∀ m, n ≤ m → m < nsF n → sfB m = false := by
    intro d
    induction d with
    | zero =>
      intro n h
      have hn : n = 100003 := by omega
      rw [hn, nsF_yes sfB_far]
      exact ⟨sfB_far, fun m a b => by omega⟩
    | succ d ih =>
      intro n h
      cases hs : sfB n with
      | true => rw [nsF_yes hs]; exact ⟨hs, fun m a b => by omega⟩
      | false =>
        obtain ⟨e, h2⟩ := nsF_no (by omega) hs
        rw [e]
        obtain ⟨a, b⟩ := ih (n + 1) (by omega)
        refine ⟨a, fun m h3 h4 => ?_⟩
        rcases Nat.lt_or_ge n m with h5 | h5
        · exact b m h5 h4
        · rw [show m = n by omega]; exact hs
  exact hk (100003 - n) n (by omega)
theorem flF_at {p : Nat → Bool} {a j k : Nat} (h : p (a + j) = true) (hk : j < k) : (flF p a k)[(flF p a j).length]? = some ((a + j : Nat) : Int) := by
  obtain ⟨d, rfl⟩ : ∃ d, k = (j + 1) + d := ⟨k - (j + 1), by omega⟩
  rw [flF_add, flF_yes h, List.append_assoc, List.getElem?_append_right (Nat.le_refl _), Nat.sub_self]
  rfl

/- Sums of two squares by exponents. -/
theorem all_true_iff {l : List (Nat × Nat)} {g : Nat × Nat → Bool} : l.all g = true ↔ ∀ x ∈ l, g x = true := List.all_eq_true

/- Divisors, each less one with its other. -/
def dvI (n : Nat) : Nat → List Int
  | 0 => []
  | k + 1 => if n % (k + 1) = 0 then (if (k + 1) * (k + 1) = n then dvI n k ++ [((k + 1 : Nat) : Int)] else dvI n k ++ [((k + 1 : Nat) : Int)] ++ [((n / (k + 1) : Nat) : Int)]) else dvI n k
theorem dvI_no {n k : Nat} (h : ¬ n % (k + 1) = 0) : dvI n (k + 1) = dvI n k := by rw [dvI, if_neg h]
theorem dvI_one {n k : Nat} (h : n % (k + 1) = 0) (h2 : (k + 1) * (k + 1) = n) : dvI n (k + 1) = dvI n k ++ [((k + 1 : Nat) : Int)] := by rw [dvI, if_pos h, if_pos h2]
theorem dvI_two {n k : Nat} (h : n % (k + 1) = 0) (h2 : ¬ (k + 1) * (k + 1) = n) : dvI n (k + 1) = dvI n k ++ [((k + 1 : Nat) : Int)] ++ [((n / (k + 1) : Nat) : Int)] := by rw [dvI, if_pos h, if_neg h2]
theorem dvI_len (n : Nat) : ∀ k, (dvI n k).length ≤ 2 * k
  | 0 => Nat.le_refl _
  | k + 1 => by
    have := dvI_len n k
    rw [dvI]
    split
    · split <;> simp <;> omega
    · omega
/-- A sum over a list. -/
def suF (f : Int → Int) (l : List Int) : Int := l.foldr (fun x a => f x + a) 0
theorem suF_app (f : Int → Int) : ∀ l l', suF f (l ++ l') = suF f l + suF f l'
  | [], l' => by simp [suF]
  | x :: l, l' => by
    have := suF_app f l l'
    simp only [suF, List.cons_append, List.foldr_cons] at *
    omega
theorem suF_one (f : Int → Int) (x : Int) : suF f [x] = f x := by simp [suF]
theorem suF_cons (f : Int → Int) (x : Int) (l : List Int) : suF f (x :: l) = f x + suF f l := rfl
theorem suF_snoc (f : Int → Int) (x : Int) (l : List Int) : suF f (l ++ [x]) = suF f l + f x := by rw [suF_app, suF_one]
/-- A sum over the first numbers of a list. -/
def suT (f : Int → Int) (l : List Int) (k : Nat) : Int := suF f (l.take k)
theorem suT_succ {f : Int → Int} {l : List Int} {k : Nat} (h : k < l.length) : suT f l (k + 1) = suT f l k + f (ivL l k) := by
  rw [suT, suT, List.take_succ_eq_append_getElem h, suF_snoc]
  simp [ivL, h]
theorem suT_all {f : Int → Int} {l : List Int} : suT f l l.length = suF f l := by rw [suT, List.take_length]
theorem suT_bound {f : Int → Int} {l : List Int} {b : Nat} (hb : ∀ x ∈ l, -(b : Int) ≤ f x ∧ f x ≤ b) : ∀ k : Nat, k ≤ l.length → -((k * b : Nat) : Int) ≤ suT f l k ∧ suT f l k ≤ ((k * b : Nat) : Int)
  | 0, _ => by simp [suT, suF]
  | k + 1, h => by
    have h1 := suT_bound hb k (by omega)
    have h2 := hb (ivL l k) (by simp [ivL, show k < l.length by omega])
    rw [suT_succ (by omega), Nat.succ_mul]
    omega
theorem dvI_sum {n : Nat} (f : Int → Int) : ∀ k, k * k ≤ n → suF f (dvI n k) = suF f (flF (dvP n) 1 k) + suF f (hiF n k)
  | 0, _ => by simp [dvI, flF, hiF, suF]
  | k + 1, hk => by
    have hk2 : k * k ≤ n := Nat.le_trans (Nat.mul_le_mul (Nat.le_succ k) (Nat.le_succ k)) hk
    have ih := dvI_sum f k hk2
    by_cases h : n % (k + 1) = 0
    · have hp : dvP n (1 + k) = true := by rw [Nat.add_comm, dvP, decide_eq_true_eq]; exact h
      rw [flF_yes hp, suF_app, suF_one, Nat.add_comm 1 k]
      by_cases h2 : (k + 1) * (k + 1) = n
      · rw [dvI_one h h2, suF_app, suF_one, hiF_no (by omega), ih]
        omega
      · rw [dvI_two h h2, suF_app, suF_app, suF_one, suF_one, hiF_yes h (by omega), suF_cons, ih]
        omega
    · have hp : dvP n (1 + k) = false := by rw [Nat.add_comm, dvP, decide_eq_false_iff_not]; exact h
      rw [dvI_no h, flF_no hp, hiF_no (by omega), ih]
theorem dvI_all {n : Nat} (hn : 1 ≤ n) (f : Int → Int) : suF f (dvI n (rtF n)) = suF f (dvD n) := by
  rw [dvI_sum f _ (rtF_parts n).1, ← suF_app, dvD_split hn]
theorem dvI_mem {n : Nat} (hn : 1 ≤ n) : ∀ k, ∀ x ∈ dvI n k, 1 ≤ x ∧ x ≤ (n : Int)
  | 0, x, h => by cases h
  | k + 1, x, h => by
    have ih := dvI_mem hn k
    have hb : n % (k + 1) = 0 → k + 1 ≤ n ∧ 1 ≤ n / (k + 1) ∧ n / (k + 1) ≤ n := fun h => by
      have h1 := Nat.le_of_dvd (by omega) (Nat.dvd_of_mod_eq_zero h)
      exact ⟨h1, Nat.div_pos h1 (by omega), Nat.div_le_self _ _⟩
    rw [dvI] at h
    split at h
    · rename_i hm
      obtain ⟨b1, b2, b3⟩ := hb hm
      split at h
      · rcases List.mem_append.1 h with h | h
        · exact ih x h
        · rw [List.mem_singleton] at h; omega
      · rcases List.mem_append.1 h with h | h
        · rcases List.mem_append.1 h with h | h
          · exact ih x h
          · rw [List.mem_singleton] at h; omega
        · rw [List.mem_singleton] at h; omega
    · exact ih x h

end Go.Proofs.Ytehppjdiegoeeaa
