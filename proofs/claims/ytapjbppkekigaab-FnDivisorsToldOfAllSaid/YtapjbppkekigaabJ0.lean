import Derived.Test.YtapjbppkekigaabZ0
import Derived.Test.YtapjbppkekigaabY2
namespace Go.Proofs.Ytapjbppkekigaab
open Go.RowKit
set_option linter.unusedVariables false
set_option linter.unusedSimpArgs false

/- Divisors in whatever order: their sum, how many, sorted. -/
theorem suF_fold : ∀ (l : List Int) (a : Int), l.foldl (· + ·) a = a + suF (fun x => x) l
  | [], a => by simp [suF]
  | x :: l, a => by rw [List.foldl_cons, suF_fold l (a + x), suF_cons]; omega
theorem dvS_su (n : Nat) : dvS n = suF (fun x => x) (dvD n) := by rw [dvS, suK, List.take_length, suF_fold]; omega
theorem dvI_dvS {n : Nat} (hn : 1 ≤ n) : suF (fun x => x) (dvI n (rtF n)) = dvS n := by rw [dvI_all hn, dvS_su]
theorem suF_ones : ∀ l : List Int, suF (fun _ => 1) l = (l.length : Int)
  | [] => rfl
  | x :: l => by rw [suF_cons, suF_ones l, List.length_cons]; omega
theorem dvI_cnt {n : Nat} (hn : 1 ≤ n) : (dvI n (rtF n)).length = (dvD n).length := by
  have h := dvI_all hn (fun _ => 1)
  rw [suF_ones, suF_ones] at h
  omega
theorem suF_count (a : Int) : ∀ l : List Int, suF (fun x => if x = a then 1 else 0) l = (l.count a : Int)
  | [] => rfl
  | x :: l => by
    rw [suF_cons, suF_count a l, List.count_cons]
    by_cases h : x = a
    · simp [h]; omega
    · simp [h]
theorem dvI_perm {n : Nat} (hn : 1 ≤ n) : (dvI n (rtF n)).Perm (dvD n) := List.perm_iff_count.2 fun a => by
  have h := dvI_all hn (fun x => if x = a then 1 else 0)
  rw [suF_count, suF_count] at h
  omega
theorem dvI_sort {n : Nat} (hn : 1 ≤ n) : (dvI n (rtF n)).mergeSort (fun x y => decide (x ≤ y)) = dvD n := by
  have hp := (List.mergeSort_perm (dvI n (rtF n)) (fun x y => decide (x ≤ y))).trans (dvI_perm hn)
  have hs := List.pairwise_mergeSort (le := fun x y : Int => decide (x ≤ y)) (fun a b c => by simp only [decide_eq_true_eq]; omega) (fun a b => by simp only [Bool.or_eq_true, decide_eq_true_eq]; omega) (dvI n (rtF n))
  have hnd : ((dvI n (rtF n)).mergeSort (fun x y => decide (x ≤ y))).Nodup := hp.nodup_iff.2 ((flF_strict (dvP n) 1 n).imp fun h => by omega)
  refine strict_same ?_ (flF_strict _ _ _) fun z => hp.mem_iff
  refine (List.pairwise_and_iff.2 ⟨hs, hnd⟩).imp fun h => ?_
  have := of_decide_eq_true h.1
  have := h.2
  omega
/- The sign by exponents. -/
theorem sg_same {N : Nat} (h1 : 1 ≤ N) : sgF N = sgD N := by
  have hl : (fks N).length = (facs N).length := by rw [fks, List.length_map]
  by_cases h : ∀ x ∈ facs N, x.2 ≤ 1
  · have ha : (facs N).all (fun x => decide (x.2 ≤ 1)) = true := List.all_eq_true.2 fun x hx => decide_eq_true (h x hx)
    rw [sg_ones h1 (fun p hp => by
      obtain ⟨x, hx, rfl⟩ := fks_mem.1 hp
      rw [exF_of hx]
      exact h x hx), sgD, if_pos ha, hl]
  · have : ∃ x, x ∈ facs N ∧ ¬ x.2 ≤ 1 := by
      apply Classical.byContradiction
      intro hn
      exact h fun x hx => Classical.byContradiction fun hx2 => hn ⟨x, hx, hx2⟩
    obtain ⟨x, hx, hx2⟩ := this
    have ha : ¬ (facs N).all (fun x => decide (x.2 ≤ 1)) = true := fun hh => hx2 (of_decide_eq_true (List.all_eq_true.1 hh x hx))
    rw [sg_zero h1 (fks_mem.2 ⟨x, hx, rfl⟩) (by rw [exF_of hx]; omega), sgD, if_neg ha]
/- Totients by primes in whatever order. -/
def prodM : List Nat → Nat
  | [] => 1
  | x :: l => (x - 1) * prodM l
theorem prodM_erase {p : Nat} : ∀ {l : List Nat}, p ∈ l → prodM l = (p - 1) * prodM (l.erase p)
  | x :: l, h => by
    by_cases e : x = p
    · subst e
      rw [List.erase_cons_head, prodM]
    · rw [List.erase_cons_tail (by simpa using e), prodM, prodM]
      have h1 : p ∈ l := by
        rcases List.mem_cons.1 h with h2 | h2
        · exact absurd h2.symm e
        · exact h2
      rw [prodM_erase h1, Nat.mul_left_comm]
theorem fold_tot : ∀ (l : List (Nat × Nat)) (K : Nat), (∀ x ∈ l, 2 ≤ x.1) → l.foldl (fun m x => m / x.1 * (x.1 - 1)) (K * prodL (l.map Prod.fst)) = K * prodM (l.map Prod.fst)
  | [], K, _ => by simp [prodL, prodM]
  | x :: l, K, h => by
    have hx := h x (List.mem_cons_self ..)
    have e : K * (x.1 * prodL (l.map Prod.fst)) / x.1 * (x.1 - 1) = K * (x.1 - 1) * prodL (l.map Prod.fst) := by
      rw [Nat.mul_left_comm, Nat.mul_div_cancel_left _ (by omega), Nat.mul_right_comm]
    rw [List.map_cons, prodL, prodM, List.foldl_cons, e, fold_tot l _ fun y hy => h y (List.mem_cons_of_mem _ hy), Nat.mul_assoc]
theorem prodL_dvd : ∀ (l : List (Nat × Nat)), (∀ x ∈ l, 1 ≤ x.2) → prodL (l.map Prod.fst) ∣ prodP l
  | [], _ => Nat.dvd_refl _
  | x :: l, h => by
    have hx := h x (List.mem_cons_self ..)
    rw [List.map_cons, prodL, prodP_cons]
    exact Nat.mul_dvd_mul (Nat.dvd_of_pow_dvd hx (Nat.dvd_refl _)) (prodL_dvd l fun y hy => h y (List.mem_cons_of_mem _ hy))
theorem toF_is {N : Nat} (h1 : 1 ≤ N) : ∃ K, N = K * prodL (fks N) ∧ toF N = K * prodM (fks N) := by
  have hd : prodL (fks N) ∣ N := by
    have h := prodL_dvd (facs N) fun x hx => (facs_ok h1 x hx).2
    rwa [facs_prod N h1] at h
  obtain ⟨K, hK⟩ := hd
  rw [Nat.mul_comm] at hK
  refine ⟨K, hK, ?_⟩
  rw [toF, toS, List.take_length]
  have h := fold_tot (facs N) K fun x hx => (facs_ok h1 x hx).1
  rw [show prodL ((facs N).map Prod.fst) = prodL (fks N) from rfl, ← hK] at h
  exact h
theorem tot_step {K X p : Nat} (hp : 1 ≤ p) : K * (p * X) - K * (p * X) / p = K * (p - 1) * X ∧ K * (p * X) / p = K * X := by
  have e : K * (p * X) / p = K * X := by rw [Nat.mul_left_comm, Nat.mul_div_cancel_left _ (by omega)]
  refine ⟨?_, e⟩
  rw [e, Nat.mul_left_comm, Nat.mul_assoc, Nat.mul_left_comm K (p - 1) X, Nat.sub_mul, Nat.one_mul]
end Go.Proofs.Ytapjbppkekigaab
