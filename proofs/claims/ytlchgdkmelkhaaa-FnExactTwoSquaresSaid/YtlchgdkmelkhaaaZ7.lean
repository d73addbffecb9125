import Derived.Test.YtlchgdkmelkhaaaZ6
import Derived.Test.YtlchgdkmelkhaaaZ8
namespace Go.Proofs.Ytlchgdkmelkhaaa
open Go.RowKit
set_option linter.unusedVariables false
set_option linter.unusedSimpArgs false

theorem fsO_some {n : Nat} : ∀ (f a : Nat) (x : Nat × Nat), fsO n f a = some x → x.1 * x.1 + x.2 * x.2 = n
  | 0, a, x, h => by cases h
  | f + 1, a, x, h => by
    rw [fsO] at h
    split at h
    · rename_i h1
      split at h
      · rename_i h2
        injection h with h
        subst h
        have h3 := beq_iff_eq.1 h2
        show a * a + rtF (n - a * a) * rtF (n - a * a) = n
        omega
      · exact fsO_some f (a + 1) x h
    · cases h
theorem q3_fsO {n a b : Nat} (h9 : n ≤ 5000) (hab : a * a + b * b ≤ n) : ∀ (e c : Nat), c + e = 72 → q3 n a b (100 - c) c = (fsO (n - a * a - b * b) (500 - c) c).map fun x => [(a : Int), (b : Int), (x.1 : Int), (x.2 : Int)]
  | 0, c, he => by
    have hc : c = 72 := by omega
    have h1 : ¬ a * a + b * b + 2 * (72 * 72) ≤ n := by omega
    have h2 : ¬ 2 * (72 * 72) ≤ n - a * a - b * b := by omega
    rw [hc, fsO_stop (by omega) h2, show (100 - 72 : Nat) = 27 + 1 from rfl, q3, if_neg h1]
    rfl
  | e + 1, c, he => by
    have ih := q3_fsO h9 hab e (c + 1) (by omega)
    by_cases h1 : a * a + b * b + 2 * (c * c) ≤ n
    · have h1b : 2 * (c * c) ≤ n - a * a - b * b := by omega
      by_cases h2 : rtF (q3R n a b c) * rtF (q3R n a b c) = q3R n a b c
      · have h2b : tsB (n - a * a - b * b) c = true := by rw [tsB, beq_iff_eq]; exact h2
        rw [q3_hit (by omega) h1 h2, fsO_hit (by omega) h1b h2b]
        rfl
      · have h2b : tsB (n - a * a - b * b) c = false := beq_eq_false_iff_ne.2 h2
        rw [q3_miss (by omega) h1 h2, fsO_miss (by omega) h1b h2b]
        exact ih
    · have h1b : ¬ 2 * (c * c) ≤ n - a * a - b * b := by omega
      rw [q3_stop (by omega) h1, fsO_stop (by omega) h1b]
      rfl
theorem fsP_some {n f a : Nat} {x : Nat × Nat} (hn : 1 ≤ n) (h : fsO n f a = some x) : fsP (fsO n f a) = x ∧ ¬ (x.1 = 0 ∧ x.2 = 0) := by
  refine ⟨by rw [h]; rfl, fun hh => ?_⟩
  have := fsO_some f a x h
  rw [hh.1, hh.2] at this
  omega
theorem q3_len {n a b : Nat} : ∀ (f c : Nat) (l : List Int), q3 n a b f c = some l → l.length = 4
  | 0, c, l, h => by cases h
  | f + 1, c, l, h => by
    rw [q3] at h
    split at h
    · split at h
      · injection h with h; subst h; rfl
      · exact q3_len f (c + 1) l h
    · cases h
theorem q2_len {n a : Nat} : ∀ (f b : Nat) (l : List Int), q2 n a f b = some l → l.length = 4
  | 0, b, l, h => by cases h
  | f + 1, b, l, h => by
    rw [q2] at h
    split at h
    · cases h3 : q3 n a b (100 - b) b with
      | some x => rw [h3] at h; injection h with h; subst h; exact q3_len _ _ _ h3
      | none => rw [h3] at h; exact q2_len f (b + 1) l h
    · cases h
theorem q1_len {n : Nat} : ∀ (f a : Nat) (l : List Int), q1 n f a = some l → l.length = 4
  | 0, a, l, h => by cases h
  | f + 1, a, l, h => by
    rw [q1] at h
    split at h
    · cases h3 : q2 n a (100 - a) a with
      | some x => rw [h3] at h; injection h with h; subst h; exact q2_len _ _ _ h3
      | none => rw [h3] at h; exact q1_len f (a + 1) l h
    · cases h
theorem q4V_len (n : Int) : (q4V n).length ≤ 1048576 := by
  cases h : q4Ok n with
  | false => rw [q4V_no h]; exact Nat.zero_le _
  | true =>
    rw [q4V, h, if_pos rfl]
    cases h2 : q1 n.toNat 100 0 with
    | none => exact Nat.zero_le _
    | some l => have := q1_len _ _ _ h2; show l.length ≤ _; omega
set_option maxRecDepth 100000 in
set_option maxHeartbeats 1600000 in
theorem impl_FourSquares_c (w : World) (n : Int) :
    Calls Try.prog 58 #[.int .i64 n] w fun en w' => (∃ v, en = .returned (.tuple #[v, .bool (q4B n)]) ∧ OwnI w' w.heap.size v (q4V n)) ∧ Below w.heap.size w w' := by
  by_cases hg : 1 ≤ n
  rotate_left
  · skip
    have ho : q4Ok n = false := inB_false.2 (by omega)
    rw [q4V_no ho, q4B_no ho]
    clear ho
    go_enter Try.func58, Try.ntmps58
    go_wp2
    go_ret2
    exact ⟨⟨_, rfl, OwnI.nil _ _⟩, (Below.refl _ _)⟩
  · skip
    by_cases hg2 : n ≤ 5000
    rotate_left
    · skip
      have ho : q4Ok n = false := inB_false.2 (by omega)
      rw [q4V_no ho, q4B_no ho]
      clear ho
      go_enter Try.func58, Try.ntmps58
      go_wp2
      go_ret2
      exact ⟨⟨_, rfl, OwnI.nil _ _⟩, (Below.refl _ _)⟩
    · skip
      have ho : q4Ok n = true := inB_true.2 ⟨by omega, by omega⟩
      obtain ⟨N, rfl⟩ := Int.eq_ofNat_of_zero_le (show 0 ≤ n by omega)
      rw [q4V_yes ho, q4B_yes ho]
      clear ho
      have N1 : 1 ≤ N := by omega
      have N9 : N ≤ 5000 := by omega
      have hsome := q1_some N1 N9
      obtain ⟨T, hT⟩ : ∃ T, q1 N 100 0 = T := ⟨_, rfl⟩
      have HT := Lib.hid hT
      rw [hT] at hsome ⊢
      clear hT
      have Hsome := Lib.hid (show T ≠ none from fun h => by rw [h] at hsome; cases hsome)
      clear hsome
      go_enter Try.func58, Try.ntmps58
      go_wp2
      go_loopw [4] (fun r wr => ∃ a : Nat, r = .int .i64 (a : Int) ∧ a ≤ 71 ∧ q1 N (100 - a) a = T ∧ Below w.heap.size w wr) (fun i _ => 100 - (intOf i).toNat)
      case atStart => exact ⟨0, rfl, by omega, HT.out, Below.refl _ _⟩
      case round =>
        obtain ⟨a, rfl, ha, h1, hbel0⟩ := hrel
        have Hbel0 := Lib.hid hbel0
        clear hbel0
        obtain ⟨A, hA⟩ : ∃ A, a * a = A := ⟨_, rfl⟩
        have hA2 : (a : Int) * (a : Int) = (A : Int) := cast_sq hA
        have hA9 : A ≤ 5041 := by have := Nat.mul_le_mul ha ha; omega
        have HA := Lib.hid hA
        have H1 := Lib.hid h1
        clear hA h1
        have l1 : 4 * A ≤ N := by
          rcases Nat.lt_or_ge N (4 * A) with h | h
          · exact absurd (H1.out.symm.trans (q1_stop ha (by rw [HA.out]; omega))) Hsome.out
          · exact h
        have ha9 := sq_lt_of (d := a) (n := A) (b := 71) (by rw [HA.out]; exact Nat.le_refl _) (by omega)
        have H1b := Lib.hid ((q1_more ha (by rw [HA.out]; exact l1)).symm.trans H1.out)
        go_wp2_with fail
        go_loopw [5] (fun r wr => ∃ b : Nat, r = .int .i64 (b : Int) ∧ a ≤ b ∧ b ≤ 71 ∧ (q2 N a (100 - b) b).or (q1 N (100 - (a + 1)) (a + 1)) = T ∧ Below w.heap.size w wr) (fun i _ => 100 - (intOf i).toNat)
        case atStart => exact ⟨a, rfl, Nat.le_refl _, ha, H1b.out, Hbel0.out⟩
        case round =>
          obtain ⟨b, rfl, hab, hb, h2, hbel⟩ := hrel
          have hs := hbel.size
          obtain ⟨B, hB⟩ : ∃ B, b * b = B := ⟨_, rfl⟩
          have hB2 : (b : Int) * (b : Int) = (B : Int) := cast_sq hB
          have hB4 : 3 * (b : Int) * (b : Int) = 3 * (B : Int) := by rw [Int.mul_assoc, hB2]
          have hB9 : B ≤ 5041 := by have := Nat.mul_le_mul hb hb; omega
          have hAB : A ≤ B := by rw [← HA.out, ← hB]; exact Nat.mul_le_mul hab hab
          have HB := Lib.hid hB
          have H2 := Lib.hid h2
          clear hB h2
          by_cases l2 : A + 3 * B ≤ N
          · have hb9 := sq_lt_of (d := b) (n := B) (b := 71) (by rw [HB.out]; exact Nat.le_refl _) (by omega)
            have H2b := Lib.hid (show ((q3 N a b (100 - b) b).or (q2 N a (100 - (b + 1)) (b + 1))).or (q1 N (100 - (a + 1)) (a + 1)) = T by rw [← q2_more hb (by rw [HA.out, HB.out]; exact l2)]; exact H2.out)
            have H3 := Lib.hid (q3_fsO (n := N) (a := a) (b := b) N9 (by rw [HA.out, HB.out]; omega) (72 - b) b (by omega))
            rw [HA.out, HB.out] at H3
            obtain ⟨M, hM⟩ : ∃ M, N - A - B = M := ⟨_, rfl⟩
            have hM1 : 1 ≤ M := by omega
            have hM9 : M ≤ 5000 := by omega
            have hMi : (N : Int) - (A : Int) - (B : Int) = (M : Int) := by omega
            rw [hM] at H3
            have Hc := fun W => firstSum_c W M b (by omega) (by omega)
            cases ho : fsO M (500 - b) b with
            | some x =>
              obtain ⟨c, d⟩ := x
              obtain ⟨e1, e2⟩ := fsP_some hM1 ho
              have HF : Hid (T = some [(a : Int), (b : Int), (c : Int), (d : Int)]) := by
                show _ = _
                rw [← H2b.out, H3.out, ho]
                rfl
              rw [e1] at Hc
              have HC := Lib.hid Hc
              dsimp only at e2
              clear Hc e1 ho hM
              go_wp2_with fail
              refine (HC.out _).mono ?_
              rintro e w1 ⟨rfl, b1⟩
              have hb1 := hbel.trans (b1.mono hs)
              have hs1 := hb1.size
              have Ho4 := Lib.hid (own_four (w1.alloc (.cells #[.int .i64 (c : Int), .int .i64 (d : Int)] 55)) w.heap.size (Nat.le_trans hs1 ((Below.refl w1.heap.size w1).alloc (Nat.le_refl _) _).size) (a : Int) (b : Int) (c : Int) (d : Int))
              rw [World.size_alloc] at Ho4
              go_wp2
              all_goals go_ret2
              all_goals first | exact ⟨⟨_, by rw [HF.out]; rfl, by rw [HF.out]; exact Ho4.out⟩, (hb1.alloc hs1 _).alloc (Nat.le_trans hs1 ((Below.refl w1.heap.size w1).alloc (Nat.le_refl _) _).size) _⟩ | (rename_i hc0 hd0; subst hc0; exact ⟨⟨_, by rw [HF.out]; rfl, by rw [HF.out]; exact Ho4.out⟩, (hb1.alloc hs1 _).alloc (Nat.le_trans hs1 ((Below.refl w1.heap.size w1).alloc (Nat.le_refl _) _).size) _⟩)
            | none =>
              have HF : Hid ((q2 N a (100 - (b + 1)) (b + 1)).or (q1 N (100 - (a + 1)) (a + 1)) = T) := by
                show _ = _
                rw [← H2b.out, H3.out, ho]
                rfl
              rw [ho] at Hc
              have HC := Lib.hid (show ∀ W, Calls Try.prog 89 #[.int .i64 (M : Int), .int .i64 (b : Int)] W fun en w' => en = .returned (.agg #[.int .i64 0, .int .i64 0]) ∧ Below W.heap.size W w' from Hc)
              clear Hc ho hM
              go_wp2_with fail
              refine (HC.out _).mono ?_
              rintro e w1 ⟨rfl, b1⟩
              have hb1 := hbel.trans (b1.mono hs)
              have hs1 := hb1.size
              go_wp2
              go_roundw
              case rel => exact ⟨b + 1, by go_num, by omega, by omega, HF.out, hb1.alloc hs1 _⟩
              case measure => simp [intOf]; omega
          · have HF := Lib.hid (show q1 N (100 - (a + 1)) (a + 1) = T by
              have h := H2.out
              rw [q2_stop hb (by rw [HA.out, HB.out]; exact l2)] at h
              exact h)
            go_wp2_with fail
            go_roundw
            case rel => exact ⟨a + 1, by go_num, by omega, HF.out, hbel⟩
            case measure => simp [intOf]; omega

end Go.Proofs.Ytlchgdkmelkhaaa
