import Derived.Test.YtjoklbkbggdlgaaM0
import Derived.Deep.SlicePairs
namespace Go.Proofs.Ytjoklbkbggdlgaa
open Go.RowKit
set_option linter.unusedVariables false
set_option linter.unusedSimpArgs false

/-- append(v, s...) at a step of a region that draws its order, v a row of rules that the call owns, s read elsewhere. -/
theorem step_app_rules {ops : Array Oper} {o : Oper} {a : Act} {K : Act → World → Prop} {Q : Exit → Act → World → Prop} {E : Prop} (w : World) (hgd : o.guard = none) (s x : Operand)
    (ho : o.op = .call { callee := .builtin .append, args := #[s, x], argTypes := #[24, 24] }) (B : Nat) (v : Value) (rs : List (Int × Int)) (hs : a.eval s = v) (hown : OwnR w B v rs) (ad : Addr) (m c : Nat) (ss : List (Int × Int))
    (hx : a.eval x = .slice (some ad) m c) (hm : m = ss.length) (hnews : ∀ j u, (cellsR ss)[j]? = some u → w.cell? (ad.add j) = some u) (hl : rs.length + ss.length ≤ 1048576) (hB : B ≤ w.heap.size)
    (h : ∀ v' w', OwnR w' B v' (rs ++ ss) → w.grownBy w' v.ownBlock → K (a.put o.dst v') w') :
    if Region.wanted o (yielded ops a.tmps) = true then Oper.wp Try.prog o a w K Q else E := by
  have hw : Region.wanted o (yielded ops a.tmps) = true := by simp [Region.wanted, hgd]
  rw [if_pos hw]
  subst hm
  obtain ⟨i0, hi, hz0, hz1, hz2⟩ := info_parts info_R
  refine wp_append_own w s x 24 ho B 39 i0 _ 2 16 Try.underlying24 hi hz0 hz1 hz2 rfl (by decide) v _ _ hs hown ad _ c (cellsR ss) hx (cellsR_length ss) hnews ?_ (by unfold maxLen; omega) (by omega) hB ?_
  · intro u hu
    simp only [cellsR, List.mem_flatMap] at hu
    obtain ⟨r, _, hr⟩ := hu
    simp at hr
    rcases hr with rfl | rfl <;> rfl
  · intro v' w' hown' hg _
    refine h v' w' ?_ hg
    simpa [OwnR, cellsR, List.flatMap_append] using hown'

/-- The cells of a part of the rules that a slice holds. -/
theorem cells_of_rules {w : World} {b off : Nat} {rs : List (Int × Int)} (hr : RulesAt w b off rs) (s t : Nat) {j : Nat} {u : Value} (h : (cellsR ((rs.drop s).take t))[j]? = some u) : w.cell? ⟨b, off + s * 2 + j, none⟩ = some u := by
  have hl : j < (cellsR ((rs.drop s).take t)).length := (List.getElem?_eq_some_iff.1 h).1
  rw [cellsR_length] at hl
  have hk : j / 2 < ((rs.drop s).take t).length := by omega
  have hks : s + j / 2 < rs.length := by simp only [List.length_take, List.length_drop] at hk; omega
  have hkt : j / 2 < t := by simp only [List.length_take, List.length_drop] at hk; omega
  have hc := cellsR_get ((rs.drop s).take t) (j / 2) hk
  have e1 : evL ((rs.drop s).take t) (j / 2) = evL rs (s + j / 2) := by simp [evL, List.getElem?_take, hkt]
  have e2 : reL ((rs.drop s).take t) (j / 2) = reL rs (s + j / 2) := by simp [reL, List.getElem?_take, hkt]
  have hx := hr (s + j / 2) hks
  rcases Nat.mod_two_eq_zero_or_one j with he | he
  · have ej : j = j / 2 * 2 := by omega
    rw [ej, hc.1, e1] at h
    rw [show off + s * 2 + j = off + (s + j / 2) * 2 by omega, hx.1]
    exact h
  · have ej : j = j / 2 * 2 + 1 := by omega
    rw [ej, hc.2, e2] at h
    rw [show off + s * 2 + j = off + (s + j / 2) * 2 + 1 by omega, hx.2]
    exact h
theorem RulesAt.below {w w' : World} {b off : Nat} {rs : List (Int × Int)} (h : RulesAt w b off rs) (hlt : b < w.heap.size) (hb : Below w.heap.size w w') : RulesAt w' b off rs :=
  fun k hk => ⟨(hb.cell (p := ⟨b, off + k * 2, none⟩) hlt).trans (h k hk).1, (hb.cell (p := ⟨b, off + k * 2 + 1, none⟩) hlt).trans (h k hk).2⟩
theorem own_empty (w : World) : OwnR ((w.alloc (.cells #[] 39)).drew) w.heap.size (.slice (some ⟨w.heap.size, 0, none⟩) 0 0) [] :=
  World.ownsRow.drew (World.ownsRow_made w #[] 0 (Nat.le_refl _) (by simp [maxLen]) (by simp))
theorem run_app_noneR (w : World) (ty : TypeId) (B : Nat) (v : Value) (rs : List (Int × Int)) (c : Nat) (hown : OwnR w B v rs) :
    (Builtin.append_ #[24, 24] ty #[v, .slice none 0 c]).run Try.prog w = .ok v w := by
  obtain ⟨i, hi, hz0, hz1, hz2⟩ := info_parts info_R
  rcases hown.2 with ⟨rfl, h0⟩ | ⟨g, cap, cur, rfl, _, _, hnc, _⟩
  · simp [Builtin.append_, run_underlying Try.underlying24, sizeOf, typeInfo, hi, Builtin.lenOf, Builtin.firstCells]
  · simp [Builtin.append_, run_underlying Try.underlying24, sizeOf, typeInfo, hi, Builtin.lenOf, Builtin.firstCells, hnc, storeCells]

/-- append(v, s...), v a row of rules that the call owns, s read elsewhere, nil too. -/
theorem wp_app_rules {ops : Array Oper} {rest : List Oper} {o : Oper} {a : Act} {Q : Exit → Act → World → Prop} (w : World) (hgd : o.guard = none) (s x : Operand)
    (ho : o.op = .call { callee := .builtin .append, args := #[s, x], argTypes := #[24, 24] }) (B : Nat) (v : Value) (rs : List (Int × Int)) (hs : a.eval s = v) (hown : OwnR w B v rs) (A : Option Addr) (m c : Nat) (ss : List (Int × Int))
    (hx : a.eval x = .slice A m c) (hA : Rl w A ss) (hm : m = ss.length) (hl : rs.length + ss.length ≤ 1048576) (hB : B ≤ w.heap.size)
    (h : ∀ v' w', OwnR w' B v' (rs ++ ss) → Below B w w' → wpList Try.prog ops Q rest (a.put o.dst v') w') : wpList Try.prog ops Q (o :: rest) a w := by
  subst hm
  cases A with
  | none =>
    have hs0 : ss = [] := by
      by_cases h0 : 0 < ss.length
      · obtain ⟨b, off, e, _⟩ := hA h0
        cases e
      · exact List.eq_nil_of_length_eq_zero (by omega)
    subst hs0
    refine wpList_plain hgd fun K hK => ?_
    have hrun := run_app_noneR w o.type B v rs c hown
    unfold Oper.wp
    simp [execOp, ho, resolve, invoke, builtin, hs, hx, hrun, Result.andThen]
    exact hK _ _ (h v w (by simpa using hown) (Below.refl _ _))
  | some ad =>
    have hnews : ∀ j u, (cellsR ss)[j]? = some u → w.cell? (ad.add j) = some u := fun j u hj => by
      have hl : j < (cellsR ss).length := (List.getElem?_eq_some_iff.1 hj).1
      rw [cellsR_length] at hl
      obtain ⟨b, off, e, _, hr⟩ := hA (by omega)
      cases e
      rw [Go.WideShapes.add_plain]
      have := cells_of_rules hr 0 ss.length (j := j) (u := u) (by simpa using hj)
      simpa using this
    obtain ⟨i0, hi, hz0, hz1, hz2⟩ := info_parts info_R
    refine wpList_append_own _ hgd s x 24 ho B 39 i0 _ 2 16 Try.underlying24 hi hz0 hz1 hz2 rfl (by decide) v _ _ hs hown ad _ c (cellsR ss) hx (cellsR_length ss) hnews ?_ (by unfold maxLen; omega) (by omega) hB ?_
    · intro u hu
      simp only [cellsR, List.mem_flatMap] at hu
      obtain ⟨r, _, hr⟩ := hu
      simp at hr
      rcases hr with rfl | rfl <;> rfl
    · intro v' w' hown' hg _
      refine h v' w' ?_ (below_of_grown hg hB fun q hq => (World.ownsRow.lt hown q hq).1)
      simpa [OwnR, cellsR, List.flatMap_append] using hown'

theorem own_empty0 (w : World) : OwnR (w.alloc (.cells #[] 39)) w.heap.size (.slice (some ⟨w.heap.size, 0, none⟩) 0 0) [] :=
  World.ownsRow_made w #[] 0 (Nat.le_refl _) (by simp [maxLen]) (by simp)
theorem OwnR.form {w : World} {B : Nat} {v : Value} {rs : List (Int × Int)} (h : OwnR w B v rs) : ∃ A n c, v = .slice A n c ∧ n = rs.length ∧ n ≤ c := by
  rcases h.2 with ⟨e, h0⟩ | ⟨g, cap, cur, e, _, _, hnc, _⟩
  · exact ⟨none, 0, 0, e, h0.symm, Nat.le_refl _⟩
  · exact ⟨_, _, _, e, rfl, hnc⟩


end Go.Proofs.Ytjoklbkbggdlgaa
