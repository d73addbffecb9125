import Derived.Test.YtgnmookklplnmaaV2
import Derived.Test.YtgnmookklplnmaaTF
namespace Go.Proofs.Ytgnmookklplnmaa
open Go.RowKit
set_option linter.unusedVariables false
set_option linter.unusedSimpArgs false

def hasN (p r : Nat) : List Nat → Bool
  | [] => false
  | x :: xs => Nat.beq (x % p) r || hasN p r xs
def fullN (xs : List Nat) (p : Nat) : Nat → Bool
  | 0 => true
  | r + 1 => hasN p r xs && fullN xs p r
def clN (xs : List Nat) : Bool := (Nat.ble 2 xs.length && fullN xs 2 2) || (Nat.ble 3 xs.length && fullN xs 3 3) || (Nat.ble 5 xs.length && fullN xs 5 5) || (Nat.ble 7 xs.length && fullN xs 7 7)
def ivN : List Nat → Nat → Nat
  | [], _ => 0
  | x :: _, 0 => x
  | _ :: xs, k + 1 => ivN xs k
def laN : List Nat → Nat
  | [] => 0
  | x :: [] => x
  | _ :: y :: xs => laN (y :: xs)
def lkXN (g : List Nat → List (List Nat)) (bs : List Nat) : Nat → Nat → List (List Nat)
  | 0, _ => []
  | f + 1, x => cond (clN (bs ++ [x])) (lkXN g bs f (x + 1)) (g (bs ++ [x]) ++ lkXN g bs f (x + 1))
def lkSN (W l : Nat) (bs : List Nat) : Nat := cond (Nat.beq l 0) (cond (Nat.ble (laN bs + 1) W) W (laN bs + 1)) (laN bs + 1)
def lkNN (W : Nat) : Nat → List Nat → List (List Nat)
  | 0, bs => cond (Nat.beq (laN bs) W) [bs] []
  | l + 1, bs => lkXN (lkNN W l) bs (W + 1 - l - lkSN W l bs) (lkSN W l bs)

/-- The index, from k down, at which two lists are not alike. -/
def nxK (p q : List Nat) : Nat → Nat
  | 0 => 0
  | k + 1 => cond (Nat.beq (ivN p (k + 1)) (ivN q (k + 1))) (nxK p q k) (k + 1)
/-- The list with the numbers from index k on, up to index e, put to x, x + 2, .. -/
def ntF : Nat → Nat → Nat → List Nat → List Nat
  | _, _, _, [] => []
  | 0, 0, _, xs => xs
  | 0, c + 1, x, _ :: xs => x :: ntF 0 c (x + 2) xs
  | k + 1, c, x, y :: xs => y :: ntF k c x xs
def nxF (n : Nat) (p q : List Nat) : List Nat := ntF (nxK p q (n - 2)) (n - 1 - nxK p q (n - 2)) (ivN p (nxK p q (n - 2)) + 2) p
def eqN : List Nat → List Nat → Bool
  | [], [] => true
  | x :: xs, y :: ys => Nat.beq x y && eqN xs ys
  | _, _ => false
def leN : List Nat → Bool
  | [] => true
  | x :: xs => Nat.ble x 60 && leN xs
def opR (n : Nat) (q : List Nat) : Nat → List Nat → Option (List (List Nat))
  | 0, _ => none
  | f + 1, p => cond (leN p) (cond (eqN p q) (some (cond (clN (p.take n)) [] [p])) (cond (Nat.ble n 1 || Nat.beq (ivN p (nxK p q (n - 2))) (ivN q (nxK p q (n - 2)))) none
      (match opR n q f (nxF n p q) with | some r => some (cond (clN (p.take n)) r (p :: r)) | none => none))) none
def fiP (n W : Nat) : List Nat := (List.range 8).map fun i => cond (Nat.beq (i + 1) n) W (cond (Nat.ble (i + 1) n) (2 * i) 0)
def laP (n W : Nat) : List Nat := (List.range 8).map fun i => cond (Nat.beq i 0) 0 (cond (Nat.ble (i + 1) n) (W - 2 * (n - 1 - i)) 0)
def goodW (n W : Nat) : Bool := Nat.beq (W % 2) 0 && (cond (Nat.beq n 1) (Nat.beq W 0) (Nat.ble (2 * (n - 2) + 1) W))
def eqNN : List (List Nat) → List (List Nat) → Nat → Bool
  | [], [], _ => true
  | x :: xs, y :: ys, n => eqN (x.take n) y && eqNN xs ys n
  | _, _, _ => false
def chk (n W : Nat) : Bool := cond (goodW n W) (match opR n (laP n W) 1100 (fiP n W) with | some r => eqNN r (lkNN W (n - 1) [0]) n | none => false) (match lkNN W (n - 1) [0] with | [] => true | _ => false)

set_option maxRecDepth 100000 in
theorem chk_all : (List.range 6).all (fun n => (List.range 31).all fun W => chk (n + 1) W) = true := by decide +kernel
theorem chk_at {n W : Nat} (h1 : 1 ≤ n) (h6 : n ≤ 6) (hW : W ≤ 30) : chk n W = true := by
  have h := List.all_eq_true.1 chk_all (n - 1) (List.mem_range.2 (by omega))
  have h2 := List.all_eq_true.1 h W (List.mem_range.2 (by omega))
  rwa [show n - 1 + 1 = n by omega] at h2

/-- Natural numbers as numbers. -/
def cl (xs : List Nat) : List Int := xs.map fun x : Nat => (x : Int)
theorem nbeq {a b : Nat} : Nat.beq a b = true ↔ a = b := ⟨Nat.eq_of_beq_eq_true, fun h => by rw [h]; exact Nat.beq_refl b⟩
theorem cl_len (xs : List Nat) : (cl xs).length = xs.length := List.length_map _
theorem hasN_iff {p r : Nat} : ∀ {xs : List Nat}, hasN p r xs = true ↔ ∃ x, x ∈ xs ∧ x % p = r
  | [] => by simp [hasN]
  | y :: ys => by
    rw [hasN, Bool.or_eq_true, nbeq, hasN_iff]
    constructor
    · rintro (h | ⟨x, hx, e⟩)
      · exact ⟨y, List.mem_cons_self .., h⟩
      · exact ⟨x, List.mem_cons_of_mem _ hx, e⟩
    · rintro ⟨x, hx, e⟩
      rcases List.mem_cons.1 hx with rfl | hx
      · exact .inl e
      · exact .inr ⟨x, hx, e⟩
theorem hasR_cl (xs : List Nat) (p r : Nat) : hasR (cl xs) p r = hasN p r xs := by
  rw [Bool.eq_iff_iff, hasR_iff, hasN_iff]
  constructor
  · rintro ⟨k, hk, e⟩
    rw [cl_len] at hk
    refine ⟨xs[k], List.getElem_mem hk, ?_⟩
    rw [show ivL (cl xs) k = (xs[k] : Int) by simp [ivL, cl, hk], ← Int.natCast_emod] at e
    omega
  · rintro ⟨x, hx, e⟩
    obtain ⟨k, hk, rfl⟩ := List.mem_iff_getElem.1 hx
    refine ⟨k, by rw [cl_len]; exact hk, ?_⟩
    rw [show ivL (cl xs) k = (xs[k] : Int) by simp [ivL, cl, hk], ← Int.natCast_emod, e]
theorem fullN_iff {xs : List Nat} {p : Nat} : ∀ {r : Nat}, fullN xs p r = true ↔ ∀ k, k < r → hasN p k xs = true
  | 0 => by simp [fullN]
  | r + 1 => by
    rw [fullN, Bool.and_eq_true, fullN_iff]
    constructor
    · rintro ⟨h1, h2⟩ k hk
      rcases Nat.lt_succ_iff_lt_or_eq.1 hk with h | h
      · exact h2 k h
      · rw [h]; exact h1
    · exact fun h => ⟨h r (by omega), fun k hk => h k (by omega)⟩
theorem rsF_full {xs : List Int} {p : Nat} : ∀ {r : Nat}, (rsF xs p r).length = r ↔ ∀ k, k < r → hasR xs p k = true
  | 0 => by simp [rsF]
  | r + 1 => by
    have hl := rsF_len xs p r
    have ih := rsF_full (xs := xs) (p := p) (r := r)
    cases h : hasR xs p r with
    | true =>
      rw [rsF_yes h, List.length_append, List.length_singleton]
      constructor
      · intro h2 k hk
        rcases Nat.lt_succ_iff_lt_or_eq.1 hk with h3 | h3
        · exact ih.1 (by omega) k h3
        · rw [h3]; exact h
      · intro h2
        have := ih.2 fun k hk => h2 k (by omega)
        omega
    | false =>
      rw [rsF_no h]
      constructor
      · intro h2; omega
      · intro h2
        have := h2 r (by omega)
        rw [h] at this
        cases this
theorem full_cl (xs : List Nat) (p : Nat) : (rsA (cl xs) p).length = p ↔ fullN xs p p = true := by
  rw [rsA, rsF_full, fullN_iff]
  constructor
  · intro h k hk; rw [← hasR_cl]; exact h k hk
  · intro h k hk; rw [hasR_cl]; exact h k hk
theorem clGo_zero {xs : List Int} {f k : Nat} (hp : rpF k ≠ 0) : clGo xs (f + 1) k = 0 ↔ (rpF k ≤ xs.length → ¬ (rsA xs (rpF k)).length = rpF k ∧ clGo xs f (k + 1) = 0) := by
  rw [clGo]
  by_cases h1 : rpF k ≤ xs.length
  · rw [if_pos h1]
    by_cases h2 : (rsA xs (rpF k)).length = rpF k
    · rw [if_pos h2]
      exact ⟨fun h => absurd h hp, fun h => absurd h2 (h h1).1⟩
    · rw [if_neg h2]
      exact ⟨fun h _ => ⟨h2, h⟩, fun h => (h h1).2⟩
  · rw [if_neg h1]
    exact ⟨fun _ h => absurd h h1, fun _ => rfl⟩
theorem clN_iff {xs : List Nat} (h8 : xs.length ≤ 8) : clX (cl xs) 0 = 0 ↔ clN xs = false := by
  have e2 : rpF 0 = 2 := rfl
  have e3 : rpF 1 = 3 := rfl
  have e5 : rpF 2 = 5 := rfl
  have e7 : rpF 3 = 7 := rfl
  have e11 : rpF 4 = 11 := rfl
  show clGo (cl xs) 6 0 = 0 ↔ _
  rw [clGo_zero (by decide), clGo_zero (by decide), clGo_zero (by decide), clGo_zero (by decide), clGo_zero (by decide), e2, e3, e5, e7, e11, cl_len, full_cl, full_cl, full_cl, full_cl]
  rw [clN, Bool.or_eq_false_iff, Bool.or_eq_false_iff, Bool.or_eq_false_iff, Bool.and_eq_false_iff, Bool.and_eq_false_iff, Bool.and_eq_false_iff, Bool.and_eq_false_iff, Bool.eq_false_iff, Bool.eq_false_iff, Bool.eq_false_iff, Bool.eq_false_iff, Bool.eq_false_iff, Bool.eq_false_iff, Bool.eq_false_iff, Bool.eq_false_iff,
    Ne, Ne, Ne, Ne, Ne, Ne, Ne, Ne, Nat.ble_eq, Nat.ble_eq, Nat.ble_eq, Nat.ble_eq]
  constructor
  · intro h
    refine ⟨⟨⟨?_, ?_⟩, ?_⟩, ?_⟩
    · by_cases a : 2 ≤ xs.length
      · exact .inr (h a).1
      · exact .inl a
    · by_cases a : 3 ≤ xs.length
      · exact .inr ((h (by omega)).2 a).1
      · exact .inl a
    · by_cases a : 5 ≤ xs.length
      · exact .inr (((h (by omega)).2 (by omega)).2 a).1
      · exact .inl a
    · by_cases a : 7 ≤ xs.length
      · exact .inr ((((h (by omega)).2 (by omega)).2 (by omega)).2 a).1
      · exact .inl a
  · rintro ⟨⟨⟨h2, h3⟩, h5⟩, h7⟩ a2
    refine ⟨h2.resolve_left (fun h => h a2), fun a3 => ⟨h3.resolve_left (fun h => h a3), fun a5 => ⟨h5.resolve_left (fun h => h a5), fun a7 => ⟨h7.resolve_left (fun h => h a7), fun a11 => by omega⟩⟩⟩⟩
theorem laN_last : ∀ {xs : List Nat}, xs ≠ [] → ivL (cl xs) (xs.length - 1) = (laN xs : Int)
  | [], h => absurd rfl h
  | [x], _ => rfl
  | x :: y :: ys, _ => by
    have ih := laN_last (xs := y :: ys) (by simp)
    rw [laN, ← ih]
    simp [ivL, cl, List.getD_eq_getElem?_getD]
theorem cl_app (xs ys : List Nat) : cl (xs ++ ys) = cl xs ++ cl ys := List.map_append
theorem lkX_cl {g : List Int → List (List Int)} {gN : List Nat → List (List Nat)} {bs : List Nat} (h8 : bs.length + 1 ≤ 8) (hg : ∀ x, g (cl (bs ++ [x])) = (gN (bs ++ [x])).map cl) : ∀ f x, lkX g (cl bs) f x = (lkXN gN bs f x).map cl
  | 0, _ => rfl
  | f + 1, x => by
    have ih := lkX_cl h8 hg f (x + 1)
    have e : cl bs ++ [(x : Int)] = cl (bs ++ [x]) := by rw [cl_app]; rfl
    have hc := clN_iff (xs := bs ++ [x]) (by rw [List.length_append, List.length_singleton]; exact h8)
    rw [lkX, lkXN, ih, e]
    cases h : clN (bs ++ [x]) with
    | true => rw [if_neg (fun h2 => by rw [hc.1 h2] at h; cases h)]; rfl
    | false => rw [if_pos (hc.2 h), hg x]; simp
theorem lkS_cl {W l : Nat} {bs : List Nat} (h : bs ≠ []) : lkS W l (cl bs) = lkSN W l bs := by
  rw [lkS, lkSN, cl_len, laN_last h, Int.toNat_natCast]
  by_cases hl : l = 0
  · rw [if_pos hl, show Nat.beq l 0 = true from nbeq.2 hl]
    by_cases hw : laN bs + 1 ≤ W
    · rw [show Nat.ble (laN bs + 1) W = true from Nat.ble_eq_true_of_le hw]; show max _ _ = W; omega
    · rw [show Nat.ble (laN bs + 1) W = false from Bool.eq_false_iff.2 fun h => hw (Nat.le_of_ble_eq_true h)]; show max _ _ = laN bs + 1; omega
  · rw [if_neg hl, show Nat.beq l 0 = false from Bool.eq_false_iff.2 fun h => hl (nbeq.1 h)]
    rfl
theorem lkN_cl {W : Nat} : ∀ l (bs : List Nat), bs ≠ [] → bs.length + l ≤ 8 → lkN W l (cl bs) = (lkNN W l bs).map cl
  | 0, bs, h, _ => by
    rw [lkN, lkNN, cl_len, laN_last h]
    by_cases hw : laN bs = W
    · rw [if_pos (by omega), show Nat.beq (laN bs) W = true from nbeq.2 hw]; rfl
    · rw [if_neg (by omega), show Nat.beq (laN bs) W = false from Bool.eq_false_iff.2 fun h => hw (nbeq.1 h)]; rfl
  | l + 1, bs, h, h8 => by
    rw [lkN, lkNN, lkS_cl h]
    exact lkX_cl (by omega) (fun x => lkN_cl l (bs ++ [x]) (by simp) (by rw [List.length_append, List.length_singleton]; omega)) _ _
theorem rlA_cl {n W : Nat} (h1 : 1 ≤ n) (h6 : n ≤ 6) : rlA n W = (lkNN W (n - 1) [0]).map cl := lkN_cl (W := W) (n - 1) [0] (by simp) (by simp; omega)

theorem eqN_iff : ∀ {xs ys : List Nat}, eqN xs ys = true ↔ xs = ys
  | [], [] => by simp [eqN]
  | [], _ :: _ => by simp [eqN]
  | _ :: _, [] => by simp [eqN]
  | x :: xs, y :: ys => by rw [eqN, Bool.and_eq_true, nbeq, eqN_iff, List.cons.injEq]
theorem eqNN_iff {n : Nat} : ∀ {xs ys : List (List Nat)}, eqNN xs ys n = true ↔ xs.map (fun p => p.take n) = ys
  | [], [] => by simp [eqNN]
  | [], _ :: _ => by simp [eqNN]
  | _ :: _, [] => by simp [eqNN]
  | x :: xs, y :: ys => by rw [eqNN, Bool.and_eq_true, eqN_iff, eqNN_iff, List.map_cons, List.cons.injEq]
/-- What the search finds from the first pattern on are all open patterns. -/
theorem op_all {n W : Nat} (h1 : 1 ≤ n) (h6 : n ≤ 6) (hW : W ≤ 30) (hg : goodW n W = true) : ∃ r, opR n (laP n W) 1100 (fiP n W) = some r ∧ r.map (fun p => cl (p.take n)) = rlA n W := by
  have h := chk_at h1 h6 hW
  rw [chk, hg] at h
  cases hr : opR n (laP n W) 1100 (fiP n W) with
  | none => rw [hr] at h; cases h
  | some r =>
    rw [hr] at h
    have h2 := eqNN_iff.1 h
    refine ⟨r, rfl, ?_⟩
    rw [rlA_cl h1 h6, ← h2, List.map_map]
    rfl
theorem op_none {n W : Nat} (h1 : 1 ≤ n) (h6 : n ≤ 6) (hW : W ≤ 30) (hg : goodW n W = false) : rlA n W = [] := by
  have h := chk_at h1 h6 hW
  rw [chk, hg] at h
  rw [rlA_cl h1 h6]
  cases hr : lkNN W (n - 1) [0] with
  | nil => rfl
  | cons a b => rw [hr] at h; cases h
theorem leN_at : ∀ {xs : List Nat}, leN xs = true → ∀ x, x ∈ xs → x ≤ 60
  | [], _, _, h => by cases h
  | y :: ys, h, x, hx => by
    rw [leN, Bool.and_eq_true, Nat.ble_eq] at h
    rcases List.mem_cons.1 hx with rfl | hx
    · exact h.1
    · exact leN_at h.2 x hx
theorem ivN_get : ∀ (xs : List Nat) (k : Nat), ivN xs k = xs.getD k 0
  | [], _ => by rw [ivN]; simp
  | _ :: _, 0 => by rw [ivN]; simp
  | _ :: xs, k + 1 => by rw [ivN, ivN_get xs k]; simp
theorem ntF_len : ∀ (k c x : Nat) (xs : List Nat), (ntF k c x xs).length = xs.length
  | _, _, _, [] => by unfold ntF; rfl
  | 0, 0, _, _ :: _ => by unfold ntF; rfl
  | 0, c + 1, x, y :: xs => by rw [ntF, List.length_cons, List.length_cons, ntF_len 0 c (x + 2) xs]
  | k + 1, c, x, y :: xs => by rw [ntF, List.length_cons, List.length_cons, ntF_len k c x xs]
theorem ntF_get : ∀ (k c x : Nat) (xs : List Nat) (i : Nat), i < xs.length → (ntF k c x xs)[i]? = if k ≤ i ∧ i < k + c then some (x + 2 * (i - k)) else xs[i]?
  | _, _, _, [], i, h => by simp at h
  | 0, 0, _, y :: xs, i, _ => by rw [ntF, if_neg (by omega)]; simp
  | 0, c + 1, x, y :: xs, 0, _ => by rw [ntF, if_pos (by omega)]; simp
  | 0, c + 1, x, y :: xs, i + 1, h => by
    rw [ntF, List.getElem?_cons_succ, ntF_get 0 c (x + 2) xs i (by simpa using h)]
    by_cases hc : i < c
    · rw [if_pos (by omega), if_pos (by omega)]; congr 1; omega
    · rw [if_neg (by omega), if_neg (by omega), List.getElem?_cons_succ]
  | k + 1, c, x, y :: xs, 0, _ => by rw [ntF, if_neg (by omega)]; simp
  | k + 1, c, x, y :: xs, i + 1, h => by
    rw [ntF, List.getElem?_cons_succ, ntF_get k c x xs i (by simpa using h)]
    by_cases hc : k ≤ i ∧ i < k + c
    · rw [if_pos hc, if_pos (by omega)]; congr 1; omega
    · rw [if_neg hc, if_neg (by omega), List.getElem?_cons_succ]
theorem nxK_le (p q : List Nat) : ∀ k, nxK p q k ≤ k
  | 0 => Nat.le_refl _
  | k + 1 => by
    have := nxK_le p q k
    rw [nxK]
    cases Nat.beq (ivN p (k + 1)) (ivN q (k + 1)) <;> simp <;> omega
theorem nxK_same {p q : List Nat} {k : Nat} (h : ivN p (k + 1) = ivN q (k + 1)) : nxK p q (k + 1) = nxK p q k := by rw [nxK, show Nat.beq (ivN p (k + 1)) (ivN q (k + 1)) = true from nbeq.2 h]; rfl
theorem nxK_other {p q : List Nat} {k : Nat} (h : ivN p (k + 1) ≠ ivN q (k + 1)) : nxK p q (k + 1) = k + 1 := by rw [nxK, show Nat.beq (ivN p (k + 1)) (ivN q (k + 1)) = false from Bool.eq_false_iff.2 fun h2 => h (nbeq.1 h2)]; rfl
theorem nxF_len (n : Nat) (p q : List Nat) : (nxF n p q).length = p.length := ntF_len _ _ _ _
/-- A step of the search. -/
theorem opR_step {n f : Nat} {p q : List Nat} {r : List (List Nat)} (h : opR n q (f + 1) p = some r) : leN p = true ∧
    ((p = q ∧ r = cond (clN (p.take n)) [] [p]) ∨ (p ≠ q ∧ 2 ≤ n ∧ ivN p (nxK p q (n - 2)) ≠ ivN q (nxK p q (n - 2)) ∧ ∃ r2, opR n q f (nxF n p q) = some r2 ∧ r = cond (clN (p.take n)) r2 (p :: r2))) := by
  rw [opR] at h
  cases hl : leN p with
  | false => rw [hl] at h; cases h
  | true =>
    rw [hl] at h
    refine ⟨rfl, ?_⟩
    cases he : eqN p q with
    | true =>
      rw [he] at h
      injection h with h
      exact .inl ⟨eqN_iff.1 he, h.symm⟩
    | false =>
      rw [he] at h
      have hne : p ≠ q := fun e => by rw [eqN_iff.2 e] at he; cases he
      cases hk : (Nat.ble n 1 || Nat.beq (ivN p (nxK p q (n - 2))) (ivN q (nxK p q (n - 2)))) with
      | true => rw [hk] at h; cases h
      | false =>
        rw [hk] at h
        rw [Bool.or_eq_false_iff] at hk
        cases hr : opR n q f (nxF n p q) with
        | none => rw [hr] at h; cases h
        | some r2 =>
          rw [hr] at h
          injection h with h
          refine .inr ⟨hne, ?_, fun e => ?_, r2, rfl, h.symm⟩
          · rcases Nat.lt_or_ge n 2 with h3 | h3
            · have : Nat.ble n 1 = true := Nat.ble_eq_true_of_le (by omega)
              rw [this] at hk
              cases hk.1
            · exact h3
          · rw [nbeq.2 e] at hk
            cases hk.2

end Go.Proofs.Ytgnmookklplnmaa
