import Derived.Test.YtgkciiklgadgkaaQ8
namespace Go.Proofs.Ytgkciiklgadgkaa
open Go.RowKit
set_option linter.unusedVariables false
set_option linter.unusedSimpArgs false

/-! Choices of rules, one for each prime, by their rank. -/
def prodN : List Int → Nat
  | [] => 1
  | x :: t => x.toNat * prodN t
def chR : List Int → Nat → List (Int × Int)
  | [], _ => []
  | x :: t, r => (x, ((r / prodN t % x.toNat : Nat) : Int)) :: chR t r
theorem chR_len : ∀ (xs : List Int) r, (chR xs r).length = xs.length
  | [], _ => rfl
  | x :: t, r => by rw [chR, List.length_cons, chR_len t, List.length_cons]
theorem chR_shift : ∀ (xs : List Int) (a r : Nat), (∀ x ∈ xs, 1 ≤ x) → chR xs (prodN xs * a + r) = chR xs r
  | [], a, r, _ => rfl
  | x :: t, a, r, h => by
    have hx := h x (by simp)
    have ht : ∀ y ∈ t, (1 : Int) ≤ y := fun y hy => h y (by simp [hy])
    have hp : 0 < prodN t := by
      clear h
      induction t with
      | nil => exact Nat.one_pos
      | cons y t ih => exact Nat.mul_pos (by have := ht y (by simp); omega) (ih fun z hz => ht z (by simp [hz]))
    rw [chR, chR, prodN, Nat.mul_comm x.toNat, Nat.mul_assoc, chR_shift t _ r ht, Nat.mul_add_div hp, Nat.mul_add_mod]
theorem prodN_pos : ∀ {xs : List Int}, (∀ x ∈ xs, 1 ≤ x) → 0 < prodN xs
  | [], _ => Nat.one_pos
  | x :: t, h => Nat.mul_pos (by have := h x (by simp); omega) (prodN_pos fun z hz => h z (by simp [hz]))
theorem chR_first {p : Int} {t : List Int} {a b : Nat} (h : ∀ x ∈ t, 1 ≤ x) (ha : a < p.toNat) (hb : b < prodN t) : chR (p :: t) (prodN t * a + b) = (p, (a : Int)) :: chR t b := by
  rw [chR, chR_shift t a b h, Nat.mul_add_div (prodN_pos h), Nat.div_eq_of_lt hb, Nat.add_zero, Nat.mod_eq_of_lt ha]
theorem chR_zero : ∀ xs : List Int, chR xs 0 = ruL xs
  | [] => rfl
  | x :: t => by
    have e : (0 : Nat) / prodN t % x.toNat = 0 := by rw [Nat.zero_div, Nat.zero_mod]
    rw [chR, e, chR_zero t]; rfl
theorem chR_at : ∀ {xs : List Int} {k : Nat} (r : Nat), k < xs.length → (chR xs r)[k]? = some (ivL xs k, ((r / prodN (xs.drop (k + 1)) % (ivL xs k).toNat : Nat) : Int))
  | [], k, r, h => by simp at h
  | x :: t, 0, r, h => rfl
  | x :: t, k + 1, r, h => by
    rw [chR, List.getElem?_cons_succ, chR_at (xs := t) r (by simpa using h)]; rfl
theorem chR_ev {xs : List Int} {k : Nat} (r : Nat) (h : k < xs.length) : evL (chR xs r) k = ivL xs k ∧ reL (chR xs r) k = ((r / prodN (xs.drop (k + 1)) % (ivL xs k).toNat : Nat) : Int) := by
  rw [evL, reL, List.getD_eq_getElem?_getD, chR_at r h]; exact ⟨rfl, rfl⟩
theorem prodN_drop {xs : List Int} {k : Nat} (h : k < xs.length) : prodN (xs.drop k) = (ivL xs k).toNat * prodN (xs.drop (k + 1)) := by
  rw [List.drop_eq_getElem_cons h, prodN, ivL, List.getD_eq_getElem?_getD, List.getElem?_eq_getElem h]; rfl
theorem prodN_app : ∀ (xs : List Int) (y : Int), prodN (xs ++ [y]) = prodN xs * y.toNat
  | [], y => by show y.toNat * 1 = 1 * y.toNat; rw [Nat.mul_one, Nat.one_mul]
  | x :: t, y => by rw [List.cons_append, prodN, prodN, prodN_app t y, Nat.mul_assoc]
theorem prodN_take {xs : List Int} {k : Nat} (h : k < xs.length) : prodN (xs.take (k + 1)) = prodN (xs.take k) * (ivL xs k).toNat := by
  rw [List.take_add_one, List.getElem?_eq_getElem h, Option.toList_some, prodN_app, ivL, List.getD_eq_getElem?_getD, List.getElem?_eq_getElem h]; rfl
theorem prodN_le {xs : List Int} (h : ∀ x ∈ xs, 1 ≤ x ∧ x ≤ 13) : prodN xs ≤ 13 ^ xs.length := by
  induction xs with
  | nil => exact Nat.le_refl _
  | cons x t ih =>
    have h1 := h x (by simp)
    have h2 := ih fun y hy => h y (by simp [hy])
    rw [prodN, List.length_cons, Nat.pow_succ, Nat.mul_comm]
    exact Nat.mul_le_mul h2 (by omega)
theorem gpP_mem {xs : List Int} (h : gpP xs = true) : ∀ x ∈ xs, 2 ≤ x ∧ x ≤ 13 := by
  intro x hx
  obtain ⟨i, hi, rfl⟩ := List.getElem_of_mem hx
  have := dpB_at (gpP_parts h).2.1 hi
  rwa [ivL, List.getD_eq_getElem?_getD, List.getElem?_eq_getElem hi] at this
theorem gpP_pos {xs : List Int} (h : gpP xs = true) : ∀ x ∈ xs, (1 : Int) ≤ x := fun x hx => by have := gpP_mem h x hx; omega
theorem gpP_prod {xs : List Int} (h : gpP xs = true) : 1 ≤ prodN xs ∧ prodN xs ≤ 371293 := by
  have h1 := prodN_le (xs := xs) fun x hx => by have := gpP_mem h x hx; omega
  have h2 := Nat.pow_le_pow_right (show 0 < 13 by omega) (gpP_parts h).1
  have h3 := prodN_pos (gpP_pos h)
  exact ⟨h3, Nat.le_trans h1 h2⟩
theorem chR_good {xs : List Int} (h : gpP xs = true) (r : Nat) : goodL (chR xs r) = true := by
  have hl := chR_len xs r
  have h5 := (gpP_parts h).1
  refine goodL_true (by omega) fun k hk => ?_
  obtain ⟨e1, e2⟩ := chR_ev r (show k < xs.length by omega)
  have hd := dpB_at (gpP_parts h).2.1 (show k < xs.length by omega)
  have := Nat.mod_lt (r / prodN (xs.drop (k + 1))) (show 0 < (ivL xs k).toNat by omega)
  rw [okAt, e1, e2, okR, decide_eq_true_eq]
  omega
/-! How far rules cover. -/
def lcG (rs : List (Int × Int)) : Nat → Nat → Nat
  | 0, k => k
  | f + 1, k => if leftF rs ((k : Int) + 1) = true then k else lcG rs f (k + 1)
theorem lcG_stop {rs : List (Int × Int)} {f k : Nat} (h : leftF rs ((k : Int) + 1) = true) : lcG rs (f + 1) k = k := by rw [lcG, if_pos h]
theorem lcG_on {rs : List (Int × Int)} {f k : Nat} (h : leftF rs ((k : Int) + 1) = false) : lcG rs (f + 1) k = lcG rs f (k + 1) := by rw [lcG, if_neg (by rw [h]; decide)]
def lcV (rs : List (Int × Int)) : Nat := lcG rs 40 0
theorem lcG_le (rs : List (Int × Int)) : ∀ f k, k ≤ lcG rs f k ∧ lcG rs f k ≤ k + f
  | 0, k => ⟨Nat.le_refl _, Nat.le_refl _⟩
  | f + 1, k => by
    have := lcG_le rs f (k + 1)
    rw [lcG]; split <;> omega
theorem lcG_cov (rs : List (Int × Int)) : ∀ (f k : Nat), (∀ i : Nat, i < k → leftF rs ((i : Int) + 1) = false) → (∀ i : Nat, i < lcG rs f k → leftF rs ((i : Int) + 1) = false) ∧ (lcG rs f k < k + f → leftF rs ((lcG rs f k : Int) + 1) = true)
  | 0, k, h => ⟨h, fun h1 => absurd h1 (by rw [lcG]; omega)⟩
  | f + 1, k, h => by
    cases hl : leftF rs ((k : Int) + 1) with
    | true => rw [lcG_stop hl]; exact ⟨h, fun _ => hl⟩
    | false =>
      rw [lcG_on hl]
      have := lcG_cov rs f (k + 1) fun i hi => by
        rcases Nat.lt_succ_iff_lt_or_eq.1 hi with h1 | h1
        · exact h i h1
        · subst h1; exact hl
      exact ⟨this.1, fun h1 => this.2 (by omega)⟩
theorem lcV_le (rs : List (Int × Int)) : lcV rs ≤ 40 := by have := lcG_le rs 40 0; rw [lcV]; omega
theorem covB_iff {rs : List (Int × Int)} {n : Nat} : covB rs n = true ↔ ∀ i : Nat, i < n → leftF rs ((i : Int) + 1) = false := by
  simp [covB, List.all_eq_true]
theorem cov_lc {rs : List (Int × Int)} {n : Nat} (hn : n ≤ 40) : covB rs n = decide (n ≤ lcV rs) := by
  obtain ⟨h1, h2⟩ := lcG_cov rs 40 0 fun i hi => by omega
  rw [Bool.eq_iff_iff, covB_iff, decide_eq_true_eq]
  constructor
  · intro h
    rcases Nat.lt_or_ge (lcV rs) n with h3 | h3
    · have := h2 (by rw [lcV] at h3; omega)
      rw [h _ (show lcG rs 40 0 < n from h3)] at this
      cases this
    · exact h3
  · intro h i hi
    exact h1 i (by rw [lcV] at h; omega)
/-! All covers, one behind the other. -/
theorem cvX_eq (G : List (Int × Int) → List (List (Int × Int))) (n : Nat) (bs : List (Int × Int)) (p : Int) (t : List Int) (ht : ∀ x ∈ t, 1 ≤ x)
    (hG : ∀ q, G (bs ++ [(p, q)]) = ((List.range (prodN t)).map fun r => (bs ++ [(p, q)]) ++ chR t r).filter fun rs => covB rs n) :
    ∀ f x, x + f ≤ p.toNat → cvX G bs p f x = ((List.range (prodN t * f)).map fun r => bs ++ chR (p :: t) (prodN t * x + r)).filter fun rs => covB rs n
  | 0, x, _ => by simp [cvX]
  | f + 1, x, h => by
    rw [cvX, cvX_eq G n bs p t ht hG f (x + 1) (by omega), hG, Nat.mul_add (prodN t) f 1, Nat.mul_one, Nat.add_comm (prodN t * f), List.range_add, List.map_append, List.filter_append, List.map_map]
    congr 2
    · apply List.map_congr_left
      intro b hb
      rw [chR_first ht (by omega) (List.mem_range.1 hb), List.append_assoc]; rfl
    · apply List.map_congr_left
      intro b hb
      show bs ++ chR (p :: t) (prodN t * (x + 1) + b) = bs ++ chR (p :: t) (prodN t * x + (prodN t + b))
      rw [Nat.mul_add, Nat.mul_one, Nat.add_assoc]
theorem cvN_eq {xs : List Int} (hx : ∀ x ∈ xs, (1 : Int) ≤ x) (n : Nat) : ∀ l bs, bs.length + l = xs.length →
    cvN xs n l bs = ((List.range (prodN (xs.drop bs.length))).map fun r => bs ++ chR (xs.drop bs.length) r).filter fun rs => covB rs n
  | 0, bs, h => by
    rw [List.drop_of_length_le (show xs.length ≤ bs.length by omega), cvN]
    show _ = List.filter _ [bs ++ []]
    rw [List.append_nil, List.filter_cons, List.filter_nil]
  | l + 1, bs, h => by
    have hb : bs.length < xs.length := by omega
    have hd := List.drop_eq_getElem_cons hb
    have hi : ivL xs bs.length = xs[bs.length] := by rw [ivL, List.getD_eq_getElem?_getD, List.getElem?_eq_getElem hb]; rfl
    rw [cvN, hi, hd, prodN, Nat.mul_comm]
    have := cvX_eq (cvN xs n l) n bs xs[bs.length] (xs.drop (bs.length + 1)) (fun x hx2 => hx x (List.mem_of_mem_drop hx2)) (fun q => by
      have := cvN_eq hx n l (bs ++ [(xs[bs.length], q)]) (by rw [List.length_append, List.length_singleton]; omega)
      rw [List.length_append, List.length_singleton] at this
      exact this) xs[bs.length].toNat 0 (by omega)
    rw [this]
    simp only [Nat.mul_zero, Nat.zero_add]
theorem cvA_eq {xs : List Int} (hx : ∀ x ∈ xs, (1 : Int) ≤ x) {n : Nat} (hn : n ≤ 40) : cvA xs n = ((List.range (prodN xs)).filter fun r => decide (n ≤ lcV (chR xs r))).map (chR xs) := by
  rw [cvA, cvN_eq hx n xs.length [] (by simp)]
  show List.filter _ (List.map (fun r => chR xs r) _) = _
  rw [List.filter_map]
  congr 1
  apply List.filter_congr
  intro r _
  exact cov_lc hn
/-- How many of the first k choices cover 1 to n. -/
def ckF (xs : List Int) (n : Nat) : Nat → Nat
  | 0 => 0
  | k + 1 => if n ≤ lcV (chR xs k) then ckF xs n k + 1 else ckF xs n k
theorem ckF_le (xs : List Int) (n : Nat) : ∀ k, ckF xs n k ≤ k
  | 0 => Nat.le_refl _
  | k + 1 => by have := ckF_le xs n k; rw [ckF]; split <;> omega
theorem ckF_yes {xs : List Int} {n k : Nat} (h : n ≤ lcV (chR xs k)) : ckF xs n (k + 1) = ckF xs n k + 1 := by rw [ckF, if_pos h]
theorem ckF_no {xs : List Int} {n k : Nat} (h : ¬ n ≤ lcV (chR xs k)) : ckF xs n (k + 1) = ckF xs n k := by rw [ckF, if_neg h]
theorem ckF_is (xs : List Int) (n : Nat) : ∀ k, ckF xs n k = ((List.range k).filter fun r => decide (n ≤ lcV (chR xs r))).length
  | 0 => rfl
  | k + 1 => by
    rw [ckF, ckF_is xs n k, List.range_succ, List.filter_append, List.length_append, List.filter_cons, List.filter_nil]
    by_cases h : n ≤ lcV (chR xs k)
    · rw [if_pos h, if_pos (decide_eq_true h)]; rfl
    · rw [if_neg h, if_neg (by rw [decide_eq_false h]; decide)]; rfl
theorem cvA_count {xs : List Int} (h : gpP xs = true) {n : Nat} (hn : n ≤ 40) : (cvA xs n).length = ckF xs n (prodN xs) := by
  rw [cvA_eq (gpP_pos h) hn, List.length_map, ckF_is]
theorem cvA_none {xs : List Int} (h : gpP xs = true) {n : Nat} (hn : n ≤ 40) (hno : ∀ r, r < prodN xs → ¬ n ≤ lcV (chR xs r)) : cvA xs n = [] := by
  rw [cvA_eq (gpP_pos h) hn, List.map_eq_nil_iff, List.filter_eq_nil_iff]
  intro r hr
  simpa using hno r (List.mem_range.1 hr)
theorem cvA_first {xs : List Int} (h : gpP xs = true) {n r : Nat} (hn : n ≤ 40) (hr : r < prodN xs) (hno : ∀ i, i < r → ¬ n ≤ lcV (chR xs i)) (hy : n ≤ lcV (chR xs r)) :
    0 < (cvA xs n).length ∧ hdR (cvA xs n) = chR xs r := by
  obtain ⟨d, hd⟩ : ∃ d, prodN xs = r + (d + 1) := ⟨prodN xs - r - 1, by omega⟩
  have e0 : (List.range r).filter (fun r => decide (n ≤ lcV (chR xs r))) = [] := by
    rw [List.filter_eq_nil_iff]
    intro i hi
    simpa using hno i (List.mem_range.1 hi)
  rw [cvA_eq (gpP_pos h) hn, hd, List.range_add, List.filter_append, e0, List.nil_append, List.range_succ_eq_map, List.map_cons, Nat.add_zero, List.filter_cons, if_pos (by simpa using hy), List.map_cons]
  exact ⟨Nat.succ_pos _, rfl⟩
/-- The greatest length that the first k choices cover. -/
def lcM (xs : List Int) : Nat → Nat
  | 0 => 0
  | k + 1 => max (lcM xs k) (lcV (chR xs k))
theorem lcM_le (xs : List Int) : ∀ k, lcM xs k ≤ 40
  | 0 => Nat.zero_le _
  | k + 1 => by have := lcM_le xs k; have := lcV_le (chR xs k); rw [lcM]; omega
theorem lcM_ge (xs : List Int) : ∀ {k i}, i < k → lcV (chR xs i) ≤ lcM xs k
  | k + 1, i, h => by
    rw [lcM]
    rcases Nat.lt_succ_iff_lt_or_eq.1 h with h | h
    · have := lcM_ge xs h; omega
    · subst h; omega
theorem lcM_at (xs : List Int) : ∀ {k}, 0 < k → ∃ i, i < k ∧ lcM xs k = lcV (chR xs i)
  | 1, _ => ⟨0, by omega, by simp [lcM]⟩
  | k + 2, _ => by
    obtain ⟨i, hi, h⟩ := lcM_at xs (k := k + 1) (by omega)
    rw [lcM]
    rcases Nat.le_total (lcM xs (k + 1)) (lcV (chR xs (k + 1))) with h1 | h1
    · exact ⟨k + 1, by omega, by omega⟩
    · exact ⟨i, by omega, by omega⟩
theorem mcG_is {xs : List Int} (h : gpP xs = true) : ∀ f k, f + k = 40 → k ≤ lcM xs (prodN xs) → mcG xs f k = lcM xs (prodN xs)
  | 0, k, h1, h2 => by have := lcM_le xs (prodN xs); rw [mcG]; omega
  | f + 1, k, h1, h2 => by
    rw [mcG]
    by_cases h3 : (cvA xs (k + 1)).length = 0
    · rw [if_pos h3]
      obtain ⟨i, hi, e⟩ := lcM_at xs (gpP_prod h).1
      rw [cvA_count h (by omega), ckF_is, List.length_eq_zero_iff, List.filter_eq_nil_iff] at h3
      have := h3 i (List.mem_range.2 hi)
      simp only [decide_eq_true_eq] at this
      omega
    · rw [if_neg h3]
      refine mcG_is h f (k + 1) (by omega) ?_
      rcases Nat.lt_or_ge (lcM xs (prodN xs)) (k + 1) with h4 | h4
      · rw [cvA_none h (by omega) fun r hr h5 => by have := lcM_ge xs hr; omega] at h3
        exact absurd rfl h3
      · exact h4
theorem mostCovered_is {xs : List Int} (h : gpP xs = true) : mcG xs 40 0 = lcM xs (prodN xs) := mcG_is h 40 0 rfl (Nat.zero_le _)

end Go.Proofs.Ytgkciiklgadgkaa
