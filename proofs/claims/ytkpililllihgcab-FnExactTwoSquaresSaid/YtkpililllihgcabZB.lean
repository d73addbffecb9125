import Derived.Test.YtkpililllihgcabZA
import Derived.Test.YtkpililllihgcabZ7
namespace Go.Proofs.Ytkpililllihgcab
open Go.RowKit
set_option linter.unusedVariables false
set_option linter.unusedSimpArgs false

theorem tsL_two (n : Nat) : ∀ k, Two (tsL n k)
  | 0 => fun x h => (List.not_mem_nil h).elim
  | k + 1 => fun x h => by
    rw [tsL] at h
    rcases List.mem_append.1 h with h | h
    · exact tsL_two n k x h
    · split at h
      · rw [List.mem_singleton] at h; subst h; rfl
      · exact (List.not_mem_nil h).elim
theorem fsO_step {n : Nat} (hn : n ≤ 200000) : ∀ (e k : Nat) (x : Nat × Nat), k + e = 449 → fsO n (500 - k) k = some x → k ≤ x.1 ∧ 2 * (x.1 * x.1) ≤ n ∧ x.2 = rtF (n - x.1 * x.1) ∧ tsL n (x.1 + 1) = tsL n k ++ [[(x.1 : Int), (x.2 : Int)]]
  | 0, k, x, he, h => by
    have hk : k = 449 := by omega
    rw [fsO_stop (by omega) (by rw [hk]; omega)] at h
    cases h
  | e + 1, k, x, he, h => by
    by_cases h1 : 2 * (k * k) ≤ n
    · cases h2 : tsB n k with
      | true =>
        rw [fsO_hit (by omega) h1 h2] at h
        injection h with h
        subst h
        exact ⟨Nat.le_refl _, h1, rfl, tsL_yes h2⟩
      | false =>
        rw [fsO_miss (by omega) h1 h2] at h
        obtain ⟨a, b, c, d⟩ := fsO_step hn e (k + 1) x (by omega) h
        exact ⟨by omega, b, c, by rw [d, tsL_no h2]⟩
    · rw [fsO_stop (by omega) h1] at h
      cases h
theorem fsO_end {n : Nat} (hn : n ≤ 200000) : ∀ (e k : Nat), k + e = 449 → fsO n (500 - k) k = none → ∀ m, k ≤ m → m ≤ rtF (n / 2) + 1 → tsL n m = tsL n k
  | 0, k, he, h, m, h1, h2 => by
    have hr := (rtF_parts (n / 2)).1
    have := sq_lt_of (d := rtF (n / 2)) (n := n / 2) (b := 317) hr (by omega)
    omega
  | e + 1, k, he, h, m, h1, h2 => by
    by_cases h3 : 2 * (k * k) ≤ n
    · cases h4 : tsB n k with
      | true =>
        rw [fsO_hit (by omega) h3 h4] at h
        cases h
      | false =>
        rw [fsO_miss (by omega) h3 h4] at h
        rcases Nat.eq_or_lt_of_le h1 with e1 | e1
        · rw [e1]
        · rw [fsO_end hn e (k + 1) (by omega) h m e1 h2, tsL_no h4]
    · have hr := (rtF_parts (n / 2)).1
      rcases Nat.lt_or_ge k m with h5 | h5
      · have := Nat.mul_le_mul (show k ≤ rtF (n / 2) by omega) (show k ≤ rtF (n / 2) by omega)
        omega
      · rw [show m = k by omega]
theorem flatten_snoc2 (ps : List (List Int)) (x y : Int) : (ps ++ [[x, y]]).flatten = ps.flatten ++ [x, y] := by simp

theorem eq_sum (a b : Nat) (w : World) (h : ¬ (a = 0 ∧ b = 0)) : (Op.equalIn 10000 55 (.agg #[.int .i64 (a : Int), .int .i64 (b : Int)]) (.agg #[.int .i64 0, .int .i64 0])).run Try.prog w = .ok false w := by
  have hu := Try.underlying55
  by_cases ha : a = 0
  · have hb : ¬ b = 0 := fun hb => h ⟨ha, hb⟩
    subst ha
    go_simp
  · go_simp
/-- append(v, y, z), and where it lies then. -/
theorem wp_app_int2 {ops : Array Oper} {rest : List Oper} {o : Oper} {a : Act} {Q : Exit → Act → World → Prop} (w : World) (hgd : o.guard = none) (s x : Operand)
    (ho : o.op = .call { callee := .builtin .append, args := #[s, x], argTypes := #[40, 40] }) (B : Nat) (v : Value) (xs : List Int) (hown : OwnI w B v xs) (hs : a.eval s = v) (y z : Int)
    (hx : a.eval x = .slice (some ⟨w.heap.size, 0, none⟩) 2 2) (hl : xs.length ≤ 1048576) (hB : B ≤ w.heap.size)
    (h : ∀ v' w', OwnI w' B v' (xs ++ [y, z]) → w.grownBy w' v.ownBlock → wpList Try.prog ops Q rest (a.put o.dst v') w') : wpList Try.prog ops Q (o :: rest) a (w.alloc (.cells #[.int .i64 y, .int .i64 z] 3)) := by
  obtain ⟨i0, hi, hz0, hz1, hz2⟩ := info_parts info_I
  refine wpList_append_own _ hgd s x 40 ho B 3 i0 _ 1 8 Try.underlying40 hi hz0 hz1 hz2 rfl (by decide) v _ _ hs (World.ownsRow.alloc hown _) ⟨w.heap.size, 0, none⟩ 2 2 [.int .i64 y, .int .i64 z] hx rfl ?_ ?_ (by unfold maxLen; omega) (by omega) (by simp; omega) ?_
  · intro j u hj
    match j with
    | 0 => simp at hj; subst hj; simp [Addr.add]
    | 1 => simp at hj; subst hj; simp [Addr.add]
    | j + 2 => simp at hj
  · intro u hu
    simp at hu
    rcases hu with rfl | rfl <;> rfl
  · intro v' w' hown' hg _
    refine h v' w' ?_ ((World.grownBy_alloc w _ _).trans hg)
    simpa [OwnI, List.map_append] using hown'
/-- append(out, u) for a slice of slices that the call owns, beside a row of ints. -/
theorem wp_app_flat {ops : Array Oper} {rest : List Oper} {o : Oper} {a : Act} {Q : Exit → Act → World → Prop} (w : World) (A1 : Option Addr) (m1 c1 : Nat) (hgd : o.guard = none) (s x : Operand)
    (ho : o.op = .call { callee := .builtin .append, args := #[s, x], argTypes := #[27, 27] }) (B : Nat) (v : Value) (n : Nat) (vs : List Value) (hown : w.ownsRow B 40 1 v n vs) (hs : a.eval s = v)
    (V : Value) (ys : List Int) (hV : OwnI w B V ys)
    (hx : a.eval x = .slice (some ⟨w.heap.size, 0, none⟩) 1 1) (hl : n ≤ 1048576) (hB : B ≤ w.heap.size)
    (h : ∀ v' w', w'.ownsRow B 40 1 v' (n + 1) (vs ++ [.slice A1 m1 c1]) → OwnI w' B V ys → Below B w w' → wpList Try.prog ops Q rest (a.put o.dst v') w') : wpList Try.prog ops Q (o :: rest) a (w.alloc (.cells #[.slice A1 m1 c1] 40)) := by
  obtain ⟨i0, hi, hz0, hz1, hz2⟩ := info_parts info_LI
  refine wpList_append_own _ hgd s x 27 ho B 40 i0 _ 1 24 Try.underlying27 hi hz0 hz1 hz2 rfl (by decide) v _ _ hs (World.ownsRow.alloc hown _) ⟨w.heap.size, 0, none⟩ 1 1 [.slice A1 m1 c1] hx rfl ?_ ?_ (by unfold maxLen; omega) (by omega) (by simp; omega) ?_
  · intro j u' hj
    cases j with
    | zero => simp at hj; subst hj; simp [Addr.add]
    | succ j => simp at hj
  · intro u' hu'
    simp at hu'
    subst hu'
    rfl
  · intro v' w' hown' hg _
    exact h v' w' hown' (kept_if (World.ownsRow.alloc hV _) hg fun q hq e => own_ne hown hV (by decide) q e hq) (((Below.refl B w).alloc hB _).grown hg (by simp; omega) fun k hk => (World.ownsRow.lt hown k hk).1)

end Go.Proofs.Ytkpililllihgcab
