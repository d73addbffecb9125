import Derived.Test.YtapjbppkekigaabGA
namespace Go.Proofs.Ytapjbppkekigaab
open Go.RowKit
set_option linter.unusedVariables false
set_option linter.unusedSimpArgs false

/- Square parts. -/
def sqFree (s : Nat) : Prop := ∀ m, 2 ≤ m → ¬ m * m ∣ s
theorem sq_dvd {m p s : Nat} (hp : 1 ≤ p) (hs : sqFree s) (h : m * m ∣ p * p * s) : m ∣ p := by
  have hg : 0 < Nat.gcd m p := Nat.gcd_pos_of_pos_right _ (by omega)
  obtain ⟨a, ha⟩ := Nat.gcd_dvd_left m p
  obtain ⟨b, hb⟩ := Nat.gcd_dvd_right m p
  have hab : Nat.Coprime a b := by
    have h1 := Nat.coprime_div_gcd_div_gcd hg
    have e1 : m / Nat.gcd m p = a := Nat.div_eq_of_eq_mul_right hg ha
    have e2 : p / Nat.gcd m p = b := Nat.div_eq_of_eq_mul_right hg hb
    rwa [e1, e2] at h1
  generalize hge : Nat.gcd m p = g at *
  have h2 : g * g * (a * a) ∣ g * g * (b * b * s) := by
    have e1 : m * m = g * g * (a * a) := by rw [ha, Nat.mul_mul_mul_comm]
    have e2 : p * p * s = g * g * (b * b * s) := by rw [hb, Nat.mul_mul_mul_comm, Nat.mul_assoc]
    rwa [e1, e2] at h
  have h3 : a * a ∣ b * b * s := Nat.dvd_of_mul_dvd_mul_left (Nat.mul_pos hg hg) h2
  have hc : Nat.Coprime (a * a) (b * b) := Nat.Coprime.mul_left (Nat.Coprime.mul_right hab hab) (Nat.Coprime.mul_right hab hab)
  have h4 : a * a ∣ s := hc.dvd_of_dvd_mul_left h3
  have ha1 : a < 2 := by
    rcases Nat.lt_or_ge a 2 with h5 | h5
    · exact h5
    · exact absurd h4 (hs a h5)
  have ha0 : a ≠ 0 := by
    intro e
    rw [e, Nat.zero_mul] at h4
    have hs0 := Nat.eq_zero_of_zero_dvd h4
    rw [hs0] at hs
    exact hs 2 (Nat.le_refl _) (Nat.dvd_zero _)
  have : a = 1 := by omega
  rw [this, Nat.mul_one] at ha
  exact ⟨b, by rw [ha]; exact hb⟩
/-- The greatest number whose square divides n. -/
def sqG (n : Nat) : Nat := ((List.range (n + 1)).filter fun d => decide (d * d ∣ n)).foldl max 0
theorem foldl_max_ge : ∀ (l : List Nat) (a : Nat), a ≤ l.foldl max a ∧ ∀ x ∈ l, x ≤ l.foldl max a
  | [], a => ⟨Nat.le_refl _, fun x h => by cases h⟩
  | y :: l, a => by
    obtain ⟨h1, h2⟩ := foldl_max_ge l (max a y)
    refine ⟨by rw [List.foldl_cons]; omega, fun x hx => ?_⟩
    rw [List.foldl_cons]
    rcases List.mem_cons.1 hx with e | h
    · subst e; omega
    · exact h2 x h
theorem foldl_max_mem : ∀ (l : List Nat) (a : Nat), l.foldl max a = a ∨ l.foldl max a ∈ l
  | [], a => .inl rfl
  | y :: l, a => by
    rw [List.foldl_cons]
    rcases foldl_max_mem l (max a y) with h | h
    · rw [h]
      by_cases hay : a ≤ y
      · exact .inr (by rw [show max a y = y by omega]; simp)
      · exact .inl (by omega)
    · exact .inr (List.mem_cons_of_mem _ h)
theorem sqG_is {n d : Nat} (hn : 1 ≤ n) (h : d * d ∣ n) (h2 : ∀ m, m * m ∣ n → m ≤ d) : sqG n = d := by
  have hd : d ≤ n := by
    have := Nat.le_of_dvd (by omega) h
    rcases Nat.eq_zero_or_pos d with e | e
    · omega
    · have := Nat.mul_le_mul e (Nat.le_refl d); omega
  have hm : d ∈ (List.range (n + 1)).filter fun d => decide (d * d ∣ n) := List.mem_filter.2 ⟨List.mem_range.2 (by omega), decide_eq_true h⟩
  have h3 := (foldl_max_ge _ 0).2 d hm
  rcases foldl_max_mem ((List.range (n + 1)).filter fun d => decide (d * d ∣ n)) 0 with e | e
  · rw [sqG, e]; rw [e] at h3; omega
  · have := h2 _ (of_decide_eq_true (List.mem_filter.1 e).2)
    rw [sqG]
    omega
theorem sqG_end {n p s d : Nat} (hn : n = p * p * s) (hp : 1 ≤ p) (hs1 : 1 ≤ s) (hno : ∀ m, 2 ≤ m → m < d → ¬ m * m ∣ s) (hd : s < d * d) : sqG n = p := by
  have hsf : sqFree s := by
    intro m hm h
    rcases Nat.lt_or_ge m d with h1 | h1
    · exact hno m hm h1 h
    · have := Nat.le_of_dvd (by omega) h
      have := Nat.mul_le_mul h1 h1
      omega
  refine sqG_is (by rw [hn]; exact Nat.mul_pos (Nat.mul_pos hp hp) hs1) (by rw [hn]; exact Nat.dvd_mul_right _ _) fun m hm => ?_
  rw [hn] at hm
  exact Nat.le_of_dvd (by omega) (sq_dvd hp hsf hm)

theorem sqG_dvd {n : Nat} (hn : 1 ≤ n) : sqG n * sqG n ∣ n ∧ 1 ≤ sqG n := by
  have hm : 1 ∈ (List.range (n + 1)).filter fun d => decide (d * d ∣ n) := List.mem_filter.2 ⟨List.mem_range.2 (by omega), decide_eq_true (by simp)⟩
  have h3 := (foldl_max_ge _ 0).2 1 hm
  rcases foldl_max_mem ((List.range (n + 1)).filter fun d => decide (d * d ∣ n)) 0 with e | e
  · rw [e] at h3; omega
  · exact ⟨of_decide_eq_true (List.mem_filter.1 e).2, h3⟩
theorem sqG_ge {n m : Nat} (hn : 1 ≤ n) (h : m * m ∣ n) : m ≤ sqG n := by
  have hd : m ≤ n := by
    have := Nat.le_of_dvd (by omega) h
    rcases Nat.eq_zero_or_pos m with e | e
    · omega
    · have := Nat.mul_le_mul e (Nat.le_refl m); omega
  exact (foldl_max_ge _ 0).2 m (List.mem_filter.2 ⟨List.mem_range.2 (by omega), decide_eq_true h⟩)
/-- Square-free numbers. -/
def sfB (n : Nat) : Bool := sqG n == 1
theorem sfB_iff {n : Nat} (hn : 1 ≤ n) : sfB n = true ↔ sqFree n := by
  rw [sfB, beq_iff_eq]
  constructor
  · intro h m hm hd
    have := sqG_ge hn hd
    omega
  · intro h
    obtain ⟨h1, h2⟩ := sqG_dvd hn
    rcases Nat.lt_or_ge (sqG n) 2 with h3 | h3
    · omega
    · exact absurd h1 (h _ h3)
theorem far_all : ∀ d, d < 317 → 2 ≤ d → ¬ d * d ∣ 100003 := by decide +kernel
theorem sfB_far : sfB 100003 = true := by
  refine (sfB_iff (by omega)).2 fun m hm h => ?_
  rcases Nat.lt_or_ge m 317 with h1 | h1
  · exact far_all m h1 hm h
  · have := Nat.le_of_dvd (by omega) h
    have := Nat.mul_le_mul h1 h1
    omega
/-- The least square-free number from n on, f tried. -/
def nsG : Nat → Nat → Nat
  | 0, n => n
  | f + 1, n => if sfB n then n else nsG f (n + 1)
def nsF (n : Nat) : Nat := nsG (100003 - n) n
theorem nsF_yes {n : Nat} (h : sfB n = true) : nsF n = n := by
  rw [nsF]
  cases 100003 - n with
  | zero => rfl
  | succ f => rw [nsG, if_pos h]
theorem nsF_no {n : Nat} (hn : n ≤ 100003) (h : sfB n = false) : nsF n = nsF (n + 1) ∧ n < 100003 := by
  have hlt : n < 100003 := by
    rcases Nat.lt_or_ge n 100003 with h1 | h1
    · exact h1
    · rw [show n = 100003 by omega, sfB_far] at h; cases h
  refine ⟨?_, hlt⟩
  rw [nsF, show 100003 - n = (100003 - (n + 1)) + 1 by omega, nsG, if_neg (by rw [h]; exact Bool.false_ne_true), nsF]
theorem nsG_le : ∀ f n, n ≤ nsG f n ∧ nsG f n ≤ n + f
  | 0, n => by simp [nsG]
  | f + 1, n => by
    have := nsG_le f (n + 1)
    rw [nsG]
    split <;> omega
theorem nsF_le {n : Nat} (h : n ≤ 100003) : n ≤ nsF n ∧ nsF n ≤ 100003 := by
  have := nsG_le (100003 - n) n
  rw [nsF]
  omega
/- Square roots. -/
theorem root_ex (n : Nat) : ∃ r, r * r ≤ n ∧ n < (r + 1) * (r + 1) := by
  induction n with
  | zero => exact ⟨0, by omega, by omega⟩
  | succ n ih =>
    obtain ⟨r, h1, h2⟩ := ih
    by_cases h : (r + 1) * (r + 1) ≤ n + 1
    · refine ⟨r + 1, h, ?_⟩
      have : (r + 1) * (r + 1) < (r + 1 + 1) * (r + 1 + 1) := Nat.mul_lt_mul_of_lt_of_le (by omega) (by omega) (by omega)
      omega
    · exact ⟨r, by omega, by omega⟩
/-- The greatest number whose square is no greater. -/
def rtF (n : Nat) : Nat := ((List.range (n + 1)).filter fun r => decide (r * r ≤ n)).foldl max 0
theorem rtF_is {n r : Nat} (h1 : r * r ≤ n) (h2 : n < (r + 1) * (r + 1)) : rtF n = r := by
  have hr : r ≤ n := by
    rcases Nat.eq_zero_or_pos r with e | e
    · omega
    · have := Nat.mul_le_mul e (Nat.le_refl r); omega
  have h3 := (foldl_max_ge ((List.range (n + 1)).filter fun r => decide (r * r ≤ n)) 0).2 r (List.mem_filter.2 ⟨List.mem_range.2 (by omega), decide_eq_true h1⟩)
  rcases foldl_max_mem ((List.range (n + 1)).filter fun r => decide (r * r ≤ n)) 0 with e | e
  · rw [rtF, e]; rw [e] at h3; omega
  · have h4 : rtF n * rtF n ≤ n := of_decide_eq_true (List.mem_filter.1 e).2
    have h5 : r ≤ rtF n := h3
    rcases Nat.lt_or_ge r (rtF n) with h6 | h6
    · have := Nat.mul_le_mul h6 h6
      simp only [Nat.succ_eq_add_one] at this
      omega
    · omega
theorem rtF_parts (n : Nat) : rtF n * rtF n ≤ n ∧ n < (rtF n + 1) * (rtF n + 1) := by
  obtain ⟨r, h1, h2⟩ := root_ex n
  rw [rtF_is h1 h2]
  exact ⟨h1, h2⟩

/- Square parts, by dividing squares out. -/
/-- N is part * part * n, and no square of 2, .., d - 1 divides n. -/
structure PartI (N p n d : Nat) : Prop where
  pos : 1 ≤ n
  part : 1 ≤ p
  two : 2 ≤ d
  eq : N = p * p * n
  none : ∀ m, 2 ≤ m → m < d → ¬ m * m ∣ n
theorem PartI.start {N : Nat} (h : 1 ≤ N) : PartI N 1 N 2 := ⟨h, Nat.le_refl _, Nat.le_refl _, by simp, fun m h1 h2 => by omega⟩
theorem PartI.le {N p n d : Nat} (h : PartI N p n d) : n ≤ N ∧ p ≤ N := by
  have h1 := Nat.mul_le_mul h.part h.part
  have h2 := Nat.mul_le_mul h1 (Nat.le_refl n)
  have h3 := Nat.mul_le_mul (Nat.mul_le_mul (Nat.le_refl p) h.part) h.pos
  have := h.eq
  omega
theorem PartI.step {N p n d : Nat} (h : PartI N p n d) : PartI N (p * d ^ strK (d * d) n) (strR (d * d) n) (d + 1) := by
  have hd := h.two
  have hD : 2 ≤ d * d := by have := Nat.mul_le_mul hd hd; omega
  obtain ⟨a, b, c, e⟩ := str_facts hD n h.pos
  refine ⟨a, Nat.mul_pos h.part (Nat.pow_pos (by omega)), by omega, ?_, fun m h1 h2 hm => ?_⟩
  · rw [Nat.mul_mul_mul_comm, ← Nat.mul_pow, Nat.mul_assoc, ← e]
    exact h.eq
  · rcases Nat.lt_succ_iff_lt_or_eq.1 h2 with h3 | h3
    · refine h.none m h1 h3 ?_
      rw [e]
      exact Nat.dvd_trans hm (Nat.dvd_mul_left _ _)
    · subst h3
      exact c (Nat.mod_eq_zero_of_dvd hm)
theorem PartI.done {N p n d : Nat} (h : PartI N p n d) (hd : n < d * d) : sqG N = p := sqG_end h.eq h.part h.pos h.none hd

/- Kernels. -/
structure KerI (N k c n d : Nat) : Prop where
  pos : 1 ≤ n
  le : n ≤ N
  two : 2 ≤ d
  none : noneB n d
  prod : k * prodL (fks n) = prodL (fks N)
  count : c + (fks n).length = (fks N).length
theorem KerI.start {N : Nat} (h : 1 ≤ N) : KerI N 1 0 N 2 := ⟨h, Nat.le_refl _, Nat.le_refl _, noneB_two N, by simp, by simp⟩
theorem fks_cons {n : Nat} (h : 2 ≤ n) : fks n = leastF n :: fks (strR (leastF n) n) := by rw [fks, facs_yes h]; rfl
theorem KerI.hit {N k c n d : Nat} (h : KerI N k c n d) (hd : d * d ≤ n) (hm : n % d = 0) : KerI N (k * d) (c + 1) (strR d n) (d + 1) := by
  have h2 := h.two
  have hn : 2 ≤ n := by have := Nat.mul_le_mul h2 h2; omega
  obtain ⟨a, b, e, f⟩ := str_facts h2 n h.pos
  have hl := leastF_hit h.none h2 hd hm
  have hf := fks_cons hn
  rw [hl] at hf
  have hp := h.prod
  have hc := h.count
  rw [hf] at hp hc
  refine ⟨a, Nat.le_trans b h.le, by omega, ?_, by rw [← hp, prodL, Nat.mul_assoc], by rw [← hc, List.length_cons]; omega⟩
  refine noneB_succ (fun q h3 h4 h5 => h.none q h3 h4 ?_) e
  rw [f, Nat.mul_mod, h5, Nat.mul_zero, Nat.zero_mod]
theorem KerI.miss {N k c n d : Nat} (h : KerI N k c n d) (hm : n % d ≠ 0) : KerI N k c n (d + 1) := ⟨h.pos, h.le, by have := h.two; omega, noneB_succ h.none hm, h.prod, h.count⟩
theorem KerI.one {N k c d : Nat} (h : KerI N k c 1 d) : prodL (fks N) = k ∧ (fks N).length = c := by
  have e : fks 1 = [] := by rw [fks, facs_no (by omega)]; rfl
  have hp := h.prod
  have hc := h.count
  rw [e] at hp hc
  exact ⟨by rw [← hp]; simp [prodL], by rw [← hc]; rfl⟩
theorem KerI.last {N k c n d : Nat} (h : KerI N k c n d) (hd : n < d * d) (hn : 2 ≤ n) : prodL (fks N) = k * n ∧ (fks N).length = c + 1 := by
  have hl := leastF_end h.none hd
  have hf := fks_cons hn
  rw [hl] at hf
  obtain ⟨e1, e2⟩ := str_yes hn h.pos (Nat.mod_self n)
  rw [Nat.div_self h.pos] at e2
  have e3 := (str_no (p := n) (m := 1) (Nat.le_refl _) (by rw [Nat.mod_eq_of_lt (by omega)]; omega)).2
  rw [e2, e3] at hf
  have e4 : fks 1 = [] := by rw [fks, facs_no (by omega)]; rfl
  have hp := h.prod
  have hc := h.count
  rw [hf, e4] at hp hc
  exact ⟨by rw [← hp]; simp [prodL], by rw [← hc]; rfl⟩
theorem KerI.small {N k c n d : Nat} (h : KerI N k c n d) : k ≤ N ∧ c ≤ N := by
  have h1 := rad_le N (Nat.le_trans h.pos h.le)
  have h2 : 1 ≤ prodL (fks n) := prodL_pos _ fun x hx => by have := (fks_pos h.pos x hx).1; omega
  have h3 := Nat.mul_le_mul (Nat.le_refl k) h2
  have h4 := h.prod
  have h5 : (fks N).length ≤ N := by
    have hp : ∀ l : List Nat, (∀ x ∈ l, 2 ≤ x) → l.length < prodL l + 1 ∧ 1 ≤ prodL l := by
      intro l
      induction l with
      | nil => intro _; simp [prodL]
      | cons x l ih =>
        intro hx
        obtain ⟨a, b⟩ := ih fun y hy => hx y (List.mem_cons_of_mem _ hy)
        have hx2 := hx x (List.mem_cons_self ..)
        have := Nat.mul_le_mul hx2 (Nat.le_refl (prodL l))
        rw [prodL, List.length_cons]
        omega
    have := (hp (fks N) fun x hx => (fks_pos (Nat.le_trans h.pos h.le) x hx).1).1
    omega
  have h6 := h.count
  omega
/-- The sign of a number. -/
def sgF (n : Nat) : Int := if prodL (fks n) = n then (if (fks n).length % 2 = 0 then 1 else -1) else 0
theorem sgF_bound (n : Nat) : -1 ≤ sgF n ∧ sgF n ≤ 1 := by rw [sgF]; split <;> (try split) <;> omega

end Go.Proofs.Ytapjbppkekigaab
