import Derived.Test.YtkpililllihgcabU6
namespace Go.Proofs.Ytkpililllihgcab
open Go.RowKit
set_option linter.unusedVariables false
set_option linter.unusedSimpArgs false

/- Each number up to 5000 is a sum of four squares: found by a search. -/
def sqN : Nat := 111424002156834359845606741850405379993828169659456975800344779315940329271631431514754230904722530855815761542486404893584772392148279272063843668178984420215224722533107360481701395308179857225884424794094735552659009520935830047317001686637447694752969429988115426947868402524809693673885404438684852815570696530334881460755557681580993278730731415611638033376965718811964265605276096005265939078773165734814510516382691487264302319997792390960362459855611150068183204958284523037073575228092550263229799695203271190822868527626202439736743038480103871645185335159227540645972573140365552729272495116155086444908633163997970667434939505749790832224870708776265751692622156106090599475578320408130630517682720223771232325231370491843430400858026878806225370046707044383189987709459061510934241473830091859226508608632863535117651652340884124682364797551387986499864237103467926454250143865733381054671653586693685549674151561257249468243141332977118848975522101072126729603042596487712441634256115772681576986470553866934442858926493582724781788532301741658825399289718362430924919735782013084666072245543552441063269138048599733059878101089181049567496068373367717503272427304624870314598516047646351202517423128400400230365677761890828249564046416600854444976557473555871503239375039501376706672131631518605919372395331744462799735598827357704331234437613892315861652558631762752136609998481120557611482447994074767518758761313894592787525858993458956478316355349500723731
def sqT (m : Nat) : Bool := Nat.beq (Nat.land (Nat.shiftRight sqN m) 1) 1
def c3T : Nat → Nat → Nat → Bool
  | 0, _, _ => false
  | f + 1, r, c => cond (Nat.ble (2 * (c * c)) r) (cond (sqT (r - c * c)) true (c3T f r (c + 1))) false
def b2T : Nat → Nat → Nat → Bool
  | 0, _, _ => false
  | f + 1, m, b => cond (Nat.ble (3 * (b * b)) m) (cond (c3T 80 (m - b * b) b) true (b2T f m (b + 1))) false
def a1T : Nat → Nat → Nat → Bool
  | 0, _, _ => false
  | f + 1, n, a => cond (Nat.ble (4 * (a * a)) n) (cond (b2T 80 (n - a * a) a) true (a1T f n (a + 1))) false
def all4 : Nat → Nat → Bool
  | 0, _ => true
  | k + 1, s => cond (a1T 80 (s + k) 0) (all4 k s) false
def alls : Nat → Bool
  | 0 => true
  | j + 1 => cond (all4 100 (100 * j + 1)) (alls j) false
theorem alls_50 : alls 50 = true := by decide +kernel
theorem sqT_all : ((List.range 5001).all fun m => !sqT m || (List.range 71).any fun d => Nat.beq (d * d) m) = true := by decide +kernel
theorem sqT_is {m : Nat} (hm : m ≤ 5000) (h : sqT m = true) : ∃ d, d * d = m := by
  have h1 := List.all_eq_true.1 sqT_all m (List.mem_range.2 (by omega))
  rw [h] at h1
  simp only [Bool.not_true, Bool.false_or, List.any_eq_true] at h1
  obtain ⟨d, _, h2⟩ := h1
  exact ⟨d, Nat.eq_of_beq_eq_true h2⟩
theorem cond_true {b c : Bool} (h : cond b c false = true) : b = true ∧ c = true := by
  cases b <;> simp_all
theorem cond_or {b c : Bool} (h : cond b true c = true) : b = true ∨ c = true := by
  cases b <;> simp_all
theorem c3T_is : ∀ (f r c : Nat), r ≤ 5000 → c3T f r c = true → ∃ c' d, c ≤ c' ∧ c' ≤ d ∧ c' * c' + d * d = r
  | 0, r, c, _, h => by cases h
  | f + 1, r, c, hr, h => by
    obtain ⟨h1, h2⟩ := cond_true h
    have h1 := Nat.le_of_ble_eq_true h1
    rcases cond_or h2 with h3 | h3
    · obtain ⟨d, hd⟩ := sqT_is (by omega) h3
      refine ⟨c, d, Nat.le_refl _, ?_, by omega⟩
      rcases Nat.lt_or_ge d c with h4 | h4
      · have := Nat.mul_lt_mul_of_lt_of_le h4 (Nat.le_of_lt h4) (by omega)
        omega
      · exact h4
    · obtain ⟨c', d, a, b, e⟩ := c3T_is f r (c + 1) hr h3
      exact ⟨c', d, by omega, b, e⟩
theorem b2T_is : ∀ (f m b : Nat), m ≤ 5000 → b2T f m b = true → ∃ b' c d, b ≤ b' ∧ b' ≤ c ∧ c ≤ d ∧ b' * b' + (c * c + d * d) = m
  | 0, m, b, _, h => by cases h
  | f + 1, m, b, hm, h => by
    obtain ⟨h1, h2⟩ := cond_true h
    have h1 := Nat.le_of_ble_eq_true h1
    rcases cond_or h2 with h3 | h3
    · obtain ⟨c, d, h4, h5, h6⟩ := c3T_is _ _ _ (by omega) h3
      exact ⟨b, c, d, Nat.le_refl _, h4, h5, by omega⟩
    · obtain ⟨b', c, d, h4, h5⟩ := b2T_is f m (b + 1) hm h3
      exact ⟨b', c, d, by omega, h5⟩
theorem a1T_is : ∀ (f n a : Nat), n ≤ 5000 → a1T f n a = true → ∃ a' b c d, a' ≤ b ∧ b ≤ c ∧ c ≤ d ∧ a' * a' + (b * b + (c * c + d * d)) = n
  | 0, n, a, _, h => by cases h
  | f + 1, n, a, hn, h => by
    obtain ⟨h1, h2⟩ := cond_true h
    have h1 := Nat.le_of_ble_eq_true h1
    rcases cond_or h2 with h3 | h3
    · obtain ⟨b, c, d, h4, h5, h6, h7⟩ := b2T_is _ _ _ (by omega) h3
      exact ⟨a, b, c, d, h4, h5, h6, by omega⟩
    · exact a1T_is f n (a + 1) hn h3
theorem all4_is : ∀ (k s i : Nat), all4 k s = true → i < k → a1T 80 (s + i) 0 = true
  | 0, s, i, _, h => by omega
  | k + 1, s, i, h, hi => by
    obtain ⟨h1, h2⟩ := cond_true h
    rcases Nat.lt_succ_iff_lt_or_eq.1 hi with h3 | h3
    · exact all4_is k s i h2 h3
    · subst h3; exact h1
theorem alls_is : ∀ (k j : Nat), alls k = true → j < k → all4 100 (100 * j + 1) = true
  | 0, j, _, h => by omega
  | k + 1, j, h, hj => by
    obtain ⟨h1, h2⟩ := cond_true h
    rcases Nat.lt_succ_iff_lt_or_eq.1 hj with h3 | h3
    · exact alls_is k j h2 h3
    · subst h3; exact h1
theorem four_ex {n : Nat} (h1 : 1 ≤ n) (h9 : n ≤ 5000) : ∃ a b c d, a ≤ b ∧ b ≤ c ∧ c ≤ d ∧ a * a + (b * b + (c * c + d * d)) = n := by
  have h := all4_is 100 _ ((n - 1) % 100) (alls_is 50 ((n - 1) / 100) alls_50 (by omega)) (Nat.mod_lt _ (by omega))
  rw [show 100 * ((n - 1) / 100) + 1 + (n - 1) % 100 = n by omega] at h
  exact a1T_is _ _ _ h9 h
theorem sq_le71 {c n : Nat} (h : 2 * (c * c) ≤ n) (h9 : n ≤ 5000) : c ≤ 71 := by
  rcases Nat.lt_or_ge 71 c with h1 | h1
  · have := Nat.mul_le_mul h1 h1; omega
  · exact h1
theorem q3_none {n a b : Nat} (h9 : n ≤ 5000) : ∀ (e c0 : Nat), c0 + e = 72 → q3 n a b (100 - c0) c0 = none → ∀ c d, c0 ≤ c → c ≤ d → a * a + (b * b + (c * c + d * d)) = n → False
  | 0, c0, he, _, c, d, hc, hd, hs => by
    have := Nat.mul_le_mul hd hd
    have := sq_le71 (c := c) (n := n) (by omega) h9
    omega
  | e + 1, c0, he, h, c, d, hc, hd, hs => by
    have hdd := Nat.mul_le_mul hd hd
    have hcc := Nat.mul_le_mul hc hc
    by_cases h1 : a * a + b * b + 2 * (c0 * c0) ≤ n
    · by_cases h2 : rtF (q3R n a b c0) * rtF (q3R n a b c0) = q3R n a b c0
      · rw [q3_hit (by omega) h1 h2] at h
        cases h
      · rw [q3_miss (by omega) h1 h2] at h
        rcases Nat.eq_or_lt_of_le hc with e1 | e1
        · subst e1
          refine h2 ?_
          have hq : q3R n a b c0 = d * d := by rw [q3R]; omega
          have hr : rtF (d * d) = d := rtF_is (Nat.le_refl _) (Nat.mul_lt_mul_of_lt_of_le (by omega) (by omega) (by omega))
          rw [hq, hr]
        · exact q3_none h9 e (c0 + 1) (by omega) h c d e1 hd hs
    · omega
theorem q2_none {n a : Nat} (h9 : n ≤ 5000) : ∀ (e b0 : Nat), b0 + e = 72 → q2 n a (100 - b0) b0 = none → ∀ b c d, b0 ≤ b → b ≤ c → c ≤ d → a * a + (b * b + (c * c + d * d)) = n → False
  | 0, b0, he, _, b, c, d, hb, hc, hd, hs => by
    have := Nat.mul_le_mul hc hc
    have := Nat.mul_le_mul hd hd
    have := sq_le71 (c := b) (n := n) (by omega) h9
    omega
  | e + 1, b0, he, h, b, c, d, hb, hc, hd, hs => by
    have hbb := Nat.mul_le_mul hb hb
    have hcc := Nat.mul_le_mul hc hc
    have hdd := Nat.mul_le_mul hd hd
    by_cases h1 : a * a + 3 * (b0 * b0) ≤ n
    · rw [q2_more (by omega) h1] at h
      cases h3 : q3 n a b0 (100 - b0) b0 with
      | some x => rw [h3] at h; cases h
      | none =>
        rw [h3] at h
        rcases Nat.eq_or_lt_of_le hb with e1 | e1
        · subst e1
          exact q3_none h9 (72 - b0) b0 (by omega) h3 c d hc hd hs
        · exact q2_none h9 e (b0 + 1) (by omega) h b c d e1 hc hd hs
    · omega
theorem q1_none {n : Nat} (h9 : n ≤ 5000) : ∀ (e a0 : Nat), a0 + e = 72 → q1 n (100 - a0) a0 = none → ∀ a b c d, a0 ≤ a → a ≤ b → b ≤ c → c ≤ d → a * a + (b * b + (c * c + d * d)) = n → False
  | 0, a0, he, _, a, b, c, d, ha, hb, hc, hd, hs => by
    have := Nat.mul_le_mul hb hb
    have := Nat.mul_le_mul hc hc
    have := sq_le71 (c := a) (n := n) (by omega) h9
    omega
  | e + 1, a0, he, h, a, b, c, d, ha, hb, hc, hd, hs => by
    have haa := Nat.mul_le_mul ha ha
    have hbb := Nat.mul_le_mul hb hb
    have hcc := Nat.mul_le_mul hc hc
    have hdd := Nat.mul_le_mul hd hd
    by_cases h1 : 4 * (a0 * a0) ≤ n
    · rw [q1_more (by omega) h1] at h
      cases h3 : q2 n a0 (100 - a0) a0 with
      | some x => rw [h3] at h; cases h
      | none =>
        rw [h3] at h
        rcases Nat.eq_or_lt_of_le ha with e1 | e1
        · subst e1
          exact q2_none h9 (72 - a0) a0 (by omega) h3 b c d hb hc hd hs
        · exact q1_none h9 e (a0 + 1) (by omega) h a b c d e1 hb hc hd hs
    · omega
theorem q1_some {n : Nat} (h1 : 1 ≤ n) (h9 : n ≤ 5000) : (q1 n 100 0).isSome = true := by
  cases h : q1 n 100 0 with
  | some x => rfl
  | none =>
    obtain ⟨a, b, c, d, e1, e2, e3, e4⟩ := four_ex h1 h9
    exact (q1_none h9 72 0 rfl h a b c d (Nat.zero_le _) e1 e2 e3 e4).elim

end Go.Proofs.Ytkpililllihgcab
