import Derived.Test.YtfhaeplamahcpaaDoorSP0
namespace Go.Proofs.YtfhaeplamahcpaaDoor
open Go.RowKit
set_option linter.unusedVariables false
set_option linter.unusedSimpArgs false

/-! Which texts tell rules, and which rules. -/
def prB (s : ByteArray) : Bool := decide (s = ⟨#[45]⟩) || (decide (s.size ≤ 72) && (goodL (scL s) && decide (textF (scL s) = s)))
def prL (s : ByteArray) : List (Int × Int) := if s = ⟨#[45]⟩ then [] else if prB s = true then scL s else []
theorem scL_dash : scL ⟨#[45]⟩ = [(0, 0)] := rfl
theorem textF_nil : textF [] = ⟨#[45]⟩ := rfl
theorem textF_dash {rs : List (Int × Int)} (hg : goodL rs = true) (ht : textF rs = ⟨#[45]⟩) : rs = [] := by
  rcases Nat.eq_zero_or_pos rs.length with h | h
  · exact List.length_eq_zero_iff.1 h
  · have h1 := textF_inj hg h
    rw [ht, scL_dash] at h1
    subst h1
    obtain ⟨e1, _⟩ := okR_at hg (show 0 < [((0 : Int), (0 : Int))].length by decide)
    exact absurd e1 (by decide)
/-- The text of good rules tells them. -/
theorem pr_of {rs : List (Int × Int)} {s : ByteArray} (hg : goodL rs = true) (ht : textF rs = s) : prB s = true ∧ prL s = rs := by
  by_cases hd : s = ⟨#[45]⟩
  · have hr := textF_dash hg (ht.trans hd)
    refine ⟨by rw [prB, decide_eq_true hd]; rfl, by rw [prL, if_pos hd, hr]⟩
  · have h0 : 0 < rs.length := by
      rcases Nat.eq_zero_or_pos rs.length with h | h
      · rw [List.length_eq_zero_iff.1 h, textF_nil] at ht
        exact absurd ht.symm hd
      · exact h
    have h1 := textF_inj hg h0
    rw [ht] at h1
    have h2 := textF_size hg
    rw [ht] at h2
    have h3 : prB s = true := by rw [prB, decide_eq_true h2, h1, hg, decide_eq_true ht]; simp
    exact ⟨h3, by rw [prL, if_neg hd, if_pos h3, h1]⟩
/-- A text that is no text of good rules tells none. -/
theorem pr_not {s : ByteArray} (h : ∀ rs, goodL rs = true → textF rs ≠ s) : prB s = false ∧ prL s = [] := by
  have hd : s ≠ ⟨#[45]⟩ := fun e => h [] rfl (by rw [textF_nil, e])
  have h1 : prB s = false := by
    cases hb : prB s with
    | false => rfl
    | true =>
      rw [prB, decide_eq_false hd, Bool.false_or, Bool.and_eq_true, Bool.and_eq_true] at hb
      exact absurd (of_decide_eq_true hb.2.2) (h _ hb.2.1)
  exact ⟨h1, by rw [prL, if_neg hd, h1]; rfl⟩
/-- What spec reads, whether it is the answer or not. -/
def rwL (s : ByteArray) : List (Int × Int) := if s = ⟨#[45]⟩ ∨ 72 < s.size then [] else scL s
theorem prB_dash {s : ByteArray} (h : s = ⟨#[45]⟩) : prB s = true := by rw [prB, decide_eq_true h]; rfl
theorem prB_long {s : ByteArray} (h : 72 < s.size) : prB s = false := by
  have hd : s ≠ ⟨#[45]⟩ := fun e => by rw [e] at h; exact absurd h (by decide)
  rw [prB, decide_eq_false hd, decide_eq_false (by omega)]; rfl
theorem prB_read {s : ByteArray} (hd : s ≠ ⟨#[45]⟩) (h : s.size ≤ 72) : prB s = (goodL (scL s) && decide (textF (scL s) = s)) := by
  rw [prB, decide_eq_false hd, decide_eq_true h]; simp
theorem prL_eq (s : ByteArray) : prL s = if prB s = true then rwL s else [] := by
  by_cases hd : s = ⟨#[45]⟩
  · have e1 : prL s = [] := by rw [prL, if_pos hd]
    have e2 : rwL s = [] := by rw [rwL, if_pos (Or.inl hd)]
    rw [e1, e2, ite_self]
  · have e1 : prL s = if prB s = true then scL s else [] := by rw [prL, if_neg hd]
    by_cases h : 72 < s.size
    · rw [e1, prB_long h]; rfl
    · have e2 : rwL s = scL s := by rw [rwL, if_neg (by intro e; rcases e with e | e; exact hd e; exact h e)]
      rw [e1, e2]
theorem scG_len (t : ScS) (s : ByteArray) : ∀ k, (scG t s k).1.length ≤ t.1.length + k
  | 0 => Nat.le_refl _
  | k + 1 => by
    have h := scG_len t s k
    rw [scG, scB]
    split
    · rw [List.length_append]; show _ + 1 ≤ _; omega
    · split
      · show (scG t s k).1.length ≤ _; omega
      · split
        · show (scG t s k).1.length ≤ _; omega
        · omega
theorem scG_num_le (s : ByteArray) : ∀ k, (scG scI s k).2.1 ≤ 1000 ∧ (scG scI s k).2.2 ≤ 1000
  | 0 => ⟨Nat.zero_le _, Nat.zero_le _⟩
  | k + 1 => by
    have h := scG_num_le s k
    rw [scG, scB]
    split
    · exact ⟨Nat.zero_le _, Nat.zero_le _⟩
    · split
      · exact ⟨Nat.zero_le _, h.1⟩
      · split
        · exact ⟨Nat.min_le_left _ _, h.2⟩
        · exact h
end Go.Proofs.YtfhaeplamahcpaaDoor
