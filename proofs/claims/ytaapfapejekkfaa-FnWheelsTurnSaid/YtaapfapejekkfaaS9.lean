import Derived.Test.YtaapfapejekkfaaS8
namespace Go.Proofs.Ytaapfapejekkfaa
open Go.RowKit
set_option linter.unusedVariables false
set_option linter.unusedSimpArgs false

/- The different steps, put in order. -/
theorem strict_ext : ∀ {xs ys : List Int}, xs.Pairwise (· < ·) → ys.Pairwise (· < ·) → (∀ z, z ∈ xs ↔ z ∈ ys) → xs = ys
  | [], [], _, _, _ => rfl
  | [], y :: ys, _, _, h => by have := (h y).2 (by simp); cases this
  | x :: xs, [], _, _, h => by have := (h x).1 (by simp); cases this
  | x :: xs, y :: ys, hx, hy, h => by
    rw [List.pairwise_cons] at hx hy
    have e : x = y := by
      rcases List.mem_cons.1 ((h x).1 (by simp)) with e | h1
      · exact e
      · rcases List.mem_cons.1 ((h y).2 (by simp)) with e | h2
        · exact e.symm
        · have := hx.1 y h2
          have := hy.1 x h1
          omega
    subst e
    rw [strict_ext hx.2 hy.2 fun z => ⟨fun hz => ?_, fun hz => ?_⟩]
    · rcases List.mem_cons.1 ((h z).1 (by simp [hz])) with e | h1
      · have := hx.1 z hz; omega
      · exact h1
    · rcases List.mem_cons.1 ((h z).2 (by simp [hz])) with e | h1
      · have := hy.1 z hz; omega
      · exact h1
theorem compactUpTo_parts (d : Array Int) (hs : ∀ i j, i < j → j < d.size → d[i]! ≤ d[j]!) : ∀ m, m ≤ d.size → (Lib.compactUpTo d m).Pairwise (· < ·) ∧ (∀ z, z ∈ Lib.compactUpTo d m ↔ ∃ i, i < m ∧ d[i]! = z)
  | 0, _ => ⟨by simp [Lib.compactUpTo], fun z => by simp [Lib.compactUpTo]⟩
  | m + 1, hm => by
    obtain ⟨h1, h2⟩ := compactUpTo_parts d hs m (by omega)
    rw [Lib.compactUpTo_succ]
    cases hk : Lib.keeps d m with
    | true =>
      simp only [if_true]
      refine ⟨?_, fun z => ?_⟩
      · rw [List.pairwise_append]
        refine ⟨h1, by simp, fun a ha b hb => ?_⟩
        rw [List.mem_singleton] at hb
        subst hb
        obtain ⟨i, hi, rfl⟩ := (h2 a).1 ha
        have hne : d[m]! ≠ d[m - 1]! := by
          intro e
          rw [Lib.keeps_neg (by omega) e] at hk
          cases hk
        have g1 : d[i]! ≤ d[m - 1]! := by
          by_cases e : i = m - 1
          · rw [e]; exact Int.le_refl _
          · exact hs i (m - 1) (by omega) (by omega)
        have g2 := hs (m - 1) m (by omega) (by omega)
        omega
      · rw [List.mem_append, h2, List.mem_singleton]
        constructor
        · rintro (⟨i, hi, e⟩ | e)
          · exact ⟨i, by omega, e⟩
          · exact ⟨m, by omega, e.symm⟩
        · rintro ⟨i, hi, e⟩
          rcases Nat.lt_succ_iff_lt_or_eq.1 hi with h | h
          · exact .inl ⟨i, h, e⟩
          · subst h; exact .inr e.symm
    | false =>
      rw [if_neg Bool.false_ne_true, List.append_nil]
      refine ⟨h1, fun z => ?_⟩
      rw [h2]
      constructor
      · rintro ⟨i, hi, e⟩; exact ⟨i, by omega, e⟩
      · rintro ⟨i, hi, e⟩
        rcases Nat.lt_succ_iff_lt_or_eq.1 hi with h | h
        · exact ⟨i, h, e⟩
        · subst h
          have hi0 : 0 < i := by
            rcases Nat.eq_zero_or_pos i with h0 | h0
            · subst h0; rw [Lib.keeps_lt_one d 0 (by omega)] at hk; cases hk
            · exact h0
          refine ⟨i - 1, by omega, ?_⟩
          rcases Classical.em (d[i]! = d[i - 1]!) with h3 | h3
          · rw [← h3]; exact e
          · rw [Lib.keeps_pos h3] at hk; cases hk
theorem compact_parts {zs : List Int} (hs : zs.Pairwise (· ≤ ·)) : (Lib.compact zs).Pairwise (· < ·) ∧ ∀ z, z ∈ Lib.compact zs ↔ z ∈ zs := by
  have h := compactUpTo_parts zs.toArray (fun i j hij hj => by
    have hj' : j < zs.length := by simpa using hj
    have := List.pairwise_iff_getElem.1 hs i j (by omega) hj' hij
    simpa [hj', Nat.lt_trans hij hj'] using this) zs.length (by simp)
  refine ⟨h.1, fun z => (h.2 z).trans ?_⟩
  rw [List.mem_iff_getElem]
  constructor
  · rintro ⟨i, hi, e⟩; exact ⟨i, hi, by simpa [hi] using e⟩
  · rintro ⟨i, hi, e⟩; exact ⟨i, hi, by simpa [hi] using e⟩
theorem ins_strict {xs : List Int} {s : Int} (h : xs.Pairwise (· < ·)) (hn : s ∉ xs) : (putF xs s).Pairwise (· < ·) ∧ ∀ z, z ∈ putF xs s ↔ z ∈ xs ∨ z = s := by
  have e : putF xs s = xs.take (posF xs s) ++ [s] ++ xs.drop (posF xs s) := by
    rw [putF, if_neg, insF]
    rintro ⟨h1, h2⟩
    exact hn (by rw [← h2]; exact ivL_mem h1)
  have hlow : ∀ a ∈ xs.take (posF xs s), a < s := by
    intro a ha
    obtain ⟨i, hi, rfl⟩ := List.mem_iff_getElem.1 ha
    have hi' : i < posF xs s := by simp at hi; omega
    have := List.not_of_lt_findIdx (p := fun x => decide (s ≤ x)) (xs := xs) (i := i) hi'
    simp at this
    simpa using this
  have hhigh : ∀ a ∈ xs.drop (posF xs s), s < a := by
    intro a ha
    obtain ⟨i, hi, rfl⟩ := List.mem_iff_getElem.1 ha
    have hi' : posF xs s + i < xs.length := by simp at hi; omega
    have hp : posF xs s < xs.length := by omega
    have h0 : s ≤ xs[posF xs s] := of_decide_eq_true (List.findIdx_getElem (p := fun x => decide (s ≤ x)) (xs := xs) (w := hp))
    rw [List.getElem_drop]
    have h1 : xs[posF xs s] ≤ xs[posF xs s + i] := by
      by_cases e0 : i = 0
      · subst e0; exact Int.le_refl _
      · have := List.pairwise_iff_getElem.1 h (posF xs s) (posF xs s + i) hp hi' (by omega)
        omega
    have h2 : xs[posF xs s + i] ≠ s := fun e => hn (by rw [← e]; exact List.getElem_mem _)
    omega
  have hsplit : xs = xs.take (posF xs s) ++ xs.drop (posF xs s) := (List.take_append_drop _ _).symm
  rw [e]
  constructor
  · rw [List.append_assoc, List.pairwise_append]
    refine ⟨h.take, ?_, fun a ha b hb => ?_⟩
    · rw [List.singleton_append, List.pairwise_cons]
      exact ⟨hhigh, h.drop⟩
    · rcases List.mem_append.1 hb with hb | hb
      · rw [List.mem_singleton] at hb; subst hb; exact hlow a ha
      · have := hlow a ha; have := hhigh b hb; omega
  · intro z
    rw [List.mem_append, List.mem_append, List.mem_singleton]
    constructor
    · rintro ((h1 | h1) | h1)
      · exact .inl (List.mem_of_mem_take h1)
      · exact .inr h1
      · exact .inl (List.mem_of_mem_drop h1)
    · rintro (h1 | h1)
      · rw [hsplit] at h1
        rcases List.mem_append.1 h1 with h1 | h1
        · exact .inl (.inl h1)
        · exact .inr h1
      · exact .inl (.inr h1)
theorem szF_parts (rs : List (Int × Int)) : ∀ k, k ≤ (stA rs).length → (szF rs k).Pairwise (· < ·) ∧ ∀ z, z ∈ szF rs k ↔ z ∈ (stA rs).take k
  | 0, _ => by simp [szF]
  | k + 1, h => by
    obtain ⟨h1, h2⟩ := szF_parts rs k (by omega)
    have hk : k < (stA rs).length := by omega
    have e : (stA rs)[k]? = some (ivL (stA rs) k) := by simp [ivL, hk]
    rw [List.take_add_one, e]
    cases ht : hasF (szF rs k) (ivL (stA rs) k) with
    | true =>
      rw [szF_yes ht]
      have hm := hasF_mem.1 ht
      refine ⟨h1, fun z => ?_⟩
      rw [h2, List.mem_append]
      constructor
      · exact fun h => .inl h
      · rintro (h | h)
        · exact h
        · have e2 : z = ivL (stA rs) k := by simpa using h
          subst e2
          exact (h2 _).1 hm
    | false =>
      have hm : ivL (stA rs) k ∉ szF rs k := fun h => by rw [hasF_mem.2 h] at ht; cases ht
      obtain ⟨g1, g2⟩ := ins_strict h1 hm
      rw [szF_no ht]
      refine ⟨g1, fun z => ?_⟩
      rw [g2, h2, List.mem_append]
      simp
theorem sz_lib (rs : List (Int × Int)) : Lib.compact ((stA rs).mergeSort fun x y => decide (x ≤ y)) = szF rs (stA rs).length := by
  have hs : ((stA rs).mergeSort fun x y => decide (x ≤ y)).Pairwise (· ≤ ·) := by
    have := List.pairwise_mergeSort (le := fun x y : Int => decide (x ≤ y)) (fun a b c h1 h2 => by simp at *; omega) (fun a b => by simp; omega) (stA rs)
    exact this.imp (fun h => by simpa using h)
  obtain ⟨a1, a2⟩ := compact_parts hs
  obtain ⟨b1, b2⟩ := szF_parts rs (stA rs).length (Nat.le_refl _)
  refine strict_ext a1 b1 fun z => ?_
  rw [a2, b2, List.take_length, List.mem_mergeSort]

/- Moves that keep the same numbers. -/
def mvB (rs : List (Int × Int)) (b : Int) : Bool := (spk rs).all fun x => leftF rs (x + b)
theorem mvB_no {rs : List (Int × Int)} {b : Int} {k : Nat} (hk : k < (spk rs).length) (h : leftF rs (ivL (spk rs) k + b) = false) : mvB rs b = false := by
  rw [Bool.eq_false_iff]
  intro hh
  rw [mvB, List.all_eq_true] at hh
  rw [hh _ (ivL_mem hk)] at h
  cases h
theorem mvB_yes {rs : List (Int × Int)} {b : Int} (h : ∀ k, k < (spk rs).length → leftF rs (ivL (spk rs) k + b) = true) : mvB rs b = true := by
  rw [mvB, List.all_eq_true]
  intro x hx
  obtain ⟨k, hk, e⟩ := List.mem_iff_getElem.1 hx
  have := h k hk
  rw [show ivL (spk rs) k = x by simp [ivL, hk, e]] at this
  exact this
theorem wh_spoke {rs : List (Int × Int)} (h : whB rs = true) {n : Int} (hl : leftF rs n = true) : ∃ x k : Int, x ∈ spk rs ∧ n = x + (whP rs : Int) * k := by
  have hp := (whB_parts h).2.2.2.2.1
  have h0 := Int.emod_nonneg (n - 1) (b := (whP rs : Int)) (by omega)
  have h1 := Int.emod_lt_of_pos (n - 1) (b := (whP rs : Int)) (by omega)
  have h2 := Int.mul_ediv_add_emod (n - 1) (whP rs : Int)
  refine ⟨(n - 1) % (whP rs : Int) + 1, (n - 1) / (whP rs : Int), spk_mem.2 ⟨by omega, by omega, ?_⟩, by omega⟩
  rw [← wh_per h _ ((n - 1) / (whP rs : Int))]
  rw [show (n - 1) % (whP rs : Int) + 1 + (whP rs : Int) * ((n - 1) / (whP rs : Int)) = n by omega]
  exact hl
theorem mv_all {rs : List (Int × Int)} (h : whB rs = true) {b : Int} (hm : mvB rs b = true) {n : Int} (hl : leftF rs n = true) : leftF rs (n + b) = true := by
  obtain ⟨x, k, hx, rfl⟩ := wh_spoke h hl
  rw [show x + (whP rs : Int) * k + b = (x + b) + (whP rs : Int) * k by omega, wh_per h]
  exact List.all_eq_true.1 hm x hx
theorem mv_times {rs : List (Int × Int)} (h : whB rs = true) {b : Int} (hm : mvB rs b = true) : ∀ (k : Nat) {n : Int}, leftF rs n = true → leftF rs (n + b * (k : Int)) = true
  | 0, n, hl => by simpa using hl
  | k + 1, n, hl => by
    have := mv_all h hm (mv_times h hm k hl)
    rw [show n + b * ((k + 1 : Nat) : Int) = n + b * (k : Int) + b by rw [Int.natCast_succ, Int.mul_add, Int.mul_one]; omega]
    exact this
theorem mv_back {rs : List (Int × Int)} (h : whB rs = true) {b : Int} (hm : mvB rs b = true) {n : Int} (hl : leftF rs (n + b) = true) : leftF rs n = true := by
  have hp := (whB_parts h).2.2.2.2.1
  have h1 := mv_times h hm (whP rs - 1) hl
  have e : n + b + b * ((whP rs - 1 : Nat) : Int) = n + (whP rs : Int) * b := by
    rw [show ((whP rs - 1 : Nat) : Int) = (whP rs : Int) - 1 by omega, Int.mul_sub, Int.mul_one, Int.mul_comm b]
    omega
  rw [e, wh_per h] at h1
  exact h1
theorem mv_iff {rs : List (Int × Int)} (h : whB rs = true) {b : Int} (hm : mvB rs b = true) (n : Int) : leftF rs (n + b) = leftF rs n := by
  rw [Bool.eq_iff_iff]
  exact ⟨mv_back h hm, mv_all h hm⟩
theorem mv_less {rs : List (Int × Int)} (h : whB rs = true) {b : Int} (hm : mvB rs b = true) : ∀ (k : Nat) (n : Int), leftF rs (n - b * (k : Int)) = leftF rs n
  | 0, n => by simp
  | k + 1, n => by
    rw [← mv_less h hm k n, ← mv_iff h hm (n - b * ((k + 1 : Nat) : Int))]
    congr 1
    rw [Int.natCast_succ, Int.mul_add, Int.mul_one]
    omega
theorem lpB_mv {rs : List (Int × Int)} (h : whB rs = true) {b : Nat} (hb : lpB rs b = true) : mvB rs (b : Int) = true := by
  rw [lpB, Bool.and_eq_true, smF, List.all_eq_true] at hb
  have hp := (whB_parts h).2.2.2.2.1
  rw [mvB, List.all_eq_true]
  intro x hx
  have hl := (spk_mem.1 hx).2.2
  have h0 := Int.emod_nonneg x (b := (whP rs : Int)) (by omega)
  have h1 := Int.emod_lt_of_pos x (b := (whP rs : Int)) (by omega)
  have h2 := hb.2 (x % (whP rs : Int)).toNat (List.mem_range.2 (by omega))
  rw [Int.toNat_of_nonneg h0, wh_mod h, hl] at h2
  have h3 : leftF rs (x % (whP rs : Int) + (b : Int)) = true := by
    cases hc : leftF rs (x % (whP rs : Int) + (b : Int)) with
    | true => rfl
    | false => rw [hc] at h2; cases h2
  have h4 := Int.mul_ediv_add_emod x (whP rs : Int)
  have h5 := wh_per h (x % (whP rs : Int) + (b : Int)) (x / (whP rs : Int))
  rw [show x % (whP rs : Int) + (b : Int) + (whP rs : Int) * (x / (whP rs : Int)) = x + (b : Int) by omega, h3] at h5
  exact h5
/-- The least move that keeps the spokes is the least period. -/
theorem mv_least {rs : List (Int × Int)} (h : whB rs = true) {b : Nat} (hb1 : 1 ≤ b) (hb : b ≤ whP rs) (hm : mvB rs (b : Int) = true) (hno : ∀ j : Nat, 1 ≤ j → j < b → mvB rs (j : Int) = false) : lpD rs 1 = b := by
  have hdiv : (whP rs : Int) % (b : Int) = 0 := by
    have h0 := Int.emod_nonneg (whP rs : Int) (b := (b : Int)) (by omega)
    have h1 := Int.emod_lt_of_pos (whP rs : Int) (b := (b : Int)) (by omega)
    have h2 := Int.mul_ediv_add_emod (whP rs : Int) (b : Int)
    rcases Classical.em ((whP rs : Int) % (b : Int) = 0) with e | e
    · exact e
    · have hr := hno ((whP rs : Int) % (b : Int)).toNat (by omega) (by omega)
      rw [Int.toNat_of_nonneg h0] at hr
      have hq : 0 ≤ (whP rs : Int) / (b : Int) := Int.ediv_nonneg (by omega) (by omega)
      have : mvB rs ((whP rs : Int) % (b : Int)) = true := by
        rw [mvB, List.all_eq_true]
        intro x hx
        have hl := (spk_mem.1 hx).2.2
        have h3 := mv_less h hm ((whP rs : Int) / (b : Int)).toNat x
        rw [Int.toNat_of_nonneg hq, hl] at h3
        have h4 := wh_per1 h (x - (b : Int) * ((whP rs : Int) / (b : Int)))
        rw [h3, show x - (b : Int) * ((whP rs : Int) / (b : Int)) + (whP rs : Int) = x + (whP rs : Int) % (b : Int) by omega] at h4
        exact h4
      rw [this] at hr
      cases hr
  have hlp : lpB rs b = true := by
    rw [lpB, hdiv]
    have : smF rs b (whP rs) = true := by
      rw [smF, List.all_eq_true]
      intro n _
      rw [mv_iff h hm]
      simp
    rw [this]
    rfl
  have step : ∀ j : Nat, 1 ≤ j → j ≤ b → lpD rs 1 = lpD rs j := by
    intro j
    induction j with
    | zero => intro h; omega
    | succ j ih =>
      intro _ hj
      by_cases h0 : j = 0
      · subst h0; rfl
      · rw [ih (by omega) (by omega), lpD_no (by omega)]
        cases hc : lpB rs j with
        | false => rfl
        | true => have := lpB_mv h hc; rw [hno j (by omega) (by omega)] at this; cases this
  rw [step b hb1 (Nat.le_refl _), lpD_yes hlp]
theorem mv_per {rs : List (Int × Int)} (h : whB rs = true) : mvB rs (whP rs : Int) = true := by
  rw [mvB, List.all_eq_true]
  intro x hx
  rw [wh_per1 h]
  exact (spk_mem.1 hx).2.2

/- Mirrors. -/
theorem sym_bad {rs : List (Int × Int)} (h : whB rs = true) {k : Nat} (hk : k < (spk rs).length) (hl : leftF rs ((whP rs : Int) - ivL (spk rs) k) = false) : symB rs = false := by
  obtain ⟨a, b, c⟩ := spk_at hk
  have hp := (whB_parts h).2.2.2.2.1
  by_cases e : ivL (spk rs) k = (whP rs : Int)
  · exfalso
    have h0 := wh_per1 h 0
    rw [e, Int.sub_self] at hl
    rw [Int.zero_add, ← e, c, hl] at h0
    cases h0
  · refine symB_no (k := (ivL (spk rs) k).toNat) (by omega) ?_
    rw [Int.toNat_of_nonneg (by omega), c, hl]
    rfl
theorem sym_good {rs : List (Int × Int)} (h : whB rs = true) (hall : ∀ k, k < (spk rs).length → leftF rs ((whP rs : Int) - ivL (spk rs) k) = true) : symB rs = true := by
  have hm : ∀ x, x ∈ spk rs → leftF rs ((whP rs : Int) - x) = true := by
    intro x hx
    obtain ⟨k, hk, e⟩ := List.mem_iff_getElem.1 hx
    have := hall k hk
    rw [show ivL (spk rs) k = x by simp [ivL, hk, e]] at this
    exact this
  have hp := (whB_parts h).2.2.2.2.1
  have key : ∀ n : Int, leftF rs n = true → leftF rs ((whP rs : Int) - n) = true := by
    intro n hn
    obtain ⟨x, k, hx, rfl⟩ := wh_spoke h hn
    have := wh_per h ((whP rs : Int) - x) (-k)
    rw [hm x hx] at this
    rw [show (whP rs : Int) - (x + (whP rs : Int) * k) = (whP rs : Int) - x + (whP rs : Int) * -k by rw [Int.mul_neg]; omega]
    exact this
  refine symB_yes fun k hk => ?_
  cases ha : leftF rs (k : Int) with
  | true => rw [key _ ha]; rfl
  | false =>
    cases hb : leftF rs ((whP rs : Int) - (k : Int)) with
    | false => rfl
    | true =>
      have := key _ hb
      rw [show (whP rs : Int) - ((whP rs : Int) - (k : Int)) = (k : Int) by omega, ha] at this
      cases this

end Go.Proofs.Ytaapfapejekkfaa
