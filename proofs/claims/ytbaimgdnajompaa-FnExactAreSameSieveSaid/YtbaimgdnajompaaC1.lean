import Derived.Test.YtbaimgdnajompaaB9
import Derived.Lib.SliceRun
import Derived.Laws.CopyOwn
import Derived.Deep.RegionLaw
namespace Go.Proofs.Ytbaimgdnajompaa
open Go.RowKit
set_option linter.unusedVariables false
set_option linter.unusedSimpArgs false

/-- Cells of an owned row, set one behind the other. -/
theorem own_setCells {B : Nat} {e : TypeId} {size g n cap : Nat} : ∀ (vs : List Value) (o : Nat) (w : World) (xs : List Value), w.ownsRow B e size (.slice (some ⟨g, 0, none⟩) n cap) n xs →
    ∃ ys, (w.setCells g o vs).ownsRow B e size (.slice (some ⟨g, 0, none⟩) n cap) n ys ∧ w.grownBy (w.setCells g o vs) (some g) ∧ (∀ i, i < o → ys[i]? = xs[i]?) ∧ (∀ j, j < vs.length → o + j < n * size → ys[o + j]? = vs[j]?)
  | [], o, w, xs, h => ⟨xs, h, World.grownBy.refl _ _, fun _ _ => rfl, fun j hj => by simp at hj⟩
  | v :: r, o, w, xs, h => by
    have h1 := h.stored o v
    obtain ⟨ys, h2, g2, k2, m2⟩ := own_setCells r (o + 1) _ _ h1.1
    refine ⟨ys, h2, grown_trans h1.2 g2, fun i hi => ?_, fun j hj hb => ?_⟩
    · rw [k2 i (by omega), List.getElem?_set_ne (by omega)]
    · cases j with
      | zero =>
        rw [Nat.add_zero, k2 o (by omega), List.getElem?_set_self (by rw [h.1]; omega)]
        rfl
      | succ j =>
        have := m2 j (by simpa using hj) (by omega)
        rw [show o + 1 + j = o + (j + 1) by omega] at this
        rw [this]
        rfl
/-- A shorter part of an owned row, from its beginning on. -/
theorem own_cut {w : World} {B : Nat} {e : TypeId} {size g n n' cap : Nat} {xs : List Value} (h : w.ownsRow B e size (.slice (some ⟨g, 0, none⟩) n cap) n xs) (hn : n' ≤ n) : w.ownsRow B e size (.slice (some ⟨g, 0, none⟩) n' cap) n' (xs.take (n' * size)) := by
  have hm : n' * size ≤ n * size := Nat.mul_le_mul_right _ hn
  rcases h.2 with ⟨h', _⟩ | ⟨g', cap', cur, h', hb, hg, hnc, hcm, hcs, htake⟩
  · simp at h'
  · simp only [Value.slice.injEq, Option.some.injEq, Addr.mk.injEq, and_true, true_and] at h'
    obtain ⟨rfl, rfl⟩ := h'
    refine ⟨by rw [List.length_take, h.1]; omega, .inr ⟨g, cap, cur, rfl, hb, hg, by omega, hcm, hcs, ?_⟩⟩
    rw [← htake, List.take_take, Nat.min_eq_left hm]
theorem own_some {w : World} {B : Nat} {e : TypeId} {size g n cap : Nat} {xs : List Value} (h : w.ownsRow B e size (.slice (some ⟨g, 0, none⟩) n cap) n xs) (j : Nat) (hj : j < n * size) : (w.cell? ⟨g, j, none⟩).isSome = true ∧ w.frozen? ⟨g, j, none⟩ = false := by
  obtain ⟨u, h1, h2⟩ := own_get h j hj
  exact ⟨by rw [h1]; rfl, h2⟩
theorem own_cap {w : World} {B : Nat} {e : TypeId} {size g n cap : Nat} {xs : List Value} (h : w.ownsRow B e size (.slice (some ⟨g, 0, none⟩) n cap) n xs) : n ≤ cap ∧ cap ≤ maxLen := by
  rcases h.2 with ⟨h', _⟩ | ⟨g', cap', cur, h', hb, hg, hnc, hcm, hcs, htake⟩
  · simp at h'
  · simp only [Value.slice.injEq, Option.some.injEq, Addr.mk.injEq, and_true, true_and] at h'
    obtain ⟨rfl, rfl⟩ := h'
    exact ⟨hnc, hcm⟩

/-- copy(kept, rules): kept a row of as many rules that the call owns. -/
theorem run_copyR (w : World) (ty : TypeId) (B g m c : Nat) (A : Option Addr) (rs : List (Int × Int)) (xs : List Value) (hA : Rl w A rs) (hm : m = rs.length) (hown : w.ownsRow B 25 2 (.slice (some ⟨g, 0, none⟩) m m) m xs) :
    ∃ w', (Builtin.copy_ #[31, 31] ty #[.slice (some ⟨g, 0, none⟩) m m, .slice A m c]).run Try.prog w = .ok (goInt m) w' ∧ OwnR w' B (.slice (some ⟨g, 0, none⟩) m m) rs ∧ w.grownBy w' (some g) := by
  obtain ⟨i, hi, hz0, hz1, hz2⟩ := info_parts info_R
  by_cases h0 : m = 0
  · subst h0
    have hl : ∀ (x : Addr), (loadCells x 0).run Try.prog w = .ok #[] w := fun x => by simpa using run_loadCells_list (P := Try.prog) w x [] (by simp)
    refine ⟨w, ?_, ?_, World.grownBy.refl _ _⟩
    · cases A <;> simp [Builtin.copy_, run_underlying Try.underlying31, Builtin.lenOf, Builtin.firstCells, sizeOf, typeInfo, hi, hz1, storeCells, hl]
    · obtain rfl : rs = [] := List.eq_nil_of_length_eq_zero hm.symm
      have : xs = [] := List.eq_nil_of_length_eq_zero (by have := hown.1; omega)
      subst this
      exact hown
  · obtain ⟨b, off, rfl, hb, hr⟩ := hA (by omega)
    have hsrc : ∀ j v, (cellsR rs)[j]? = some v → w.cell? ((⟨b, off, none⟩ : Addr).add j) = some v := fun j u h => by
      rw [Go.WideShapes.add_plain]
      have := cells_of_rules hr 0 rs.length (j := j) (u := u) (by simpa using h)
      simpa using this
    have hcl : (cellsR rs).length = m * 2 := by rw [cellsR_length, hm]
    have hl := run_loadCells_list (P := Try.prog) w _ _ hsrc
    have hst := run_storeCells_cells (P := Try.prog) g 0 (cellsR rs) 0 w (fun j hj => by simpa using (own_some hown j (by omega)).1) (fun j hj => by simpa using (own_some hown j (by omega)).2) (by
      intro u hu
      simp only [cellsR, List.mem_flatMap] at hu
      obtain ⟨r, _, hr⟩ := hu
      simp at hr
      rcases hr with rfl | rfl <;> rfl)
    obtain ⟨ys, o1, g1, _, k1⟩ := own_setCells (cellsR rs) 0 w xs hown
    rw [hcl] at hl
    refine ⟨w.setCells g 0 (cellsR rs), ?_, ?_, g1⟩
    · simp [Builtin.copy_, run_underlying Try.underlying31, Builtin.lenOf, Builtin.firstCells, sizeOf, typeInfo, hi, hz1, hl, hst]
    · have : ys = cellsR rs := by
        apply List.ext_getElem?
        intro i
        by_cases hi : i < m * 2
        · have := k1 i (by omega) (by omega)
          rwa [Nat.zero_add] at this
        · rw [List.getElem?_eq_none (by rw [o1.1]; omega), List.getElem?_eq_none (by omega)]
      subst this
      subst hm
      exact o1

theorem wp_copyR {w : World} {ops : Array Oper} {rest : List Oper} {o : Oper} {a : Act} {Q : Exit → Act → World → Prop} (hgd : o.guard = none) (d s : Operand)
    (ho : o.op = .call { callee := .builtin .copy, args := #[d, s], argTypes := #[31, 31] }) (B g m c : Nat) (A : Option Addr) (rs : List (Int × Int)) (xs : List Value)
    (hd : a.eval d = .slice (some ⟨g, 0, none⟩) m m) (hs : a.eval s = .slice A m c) (hA : Rl w A rs) (hm : m = rs.length) (hown : w.ownsRow B 25 2 (.slice (some ⟨g, 0, none⟩) m m) m xs)
    (h : ∀ w', OwnR w' B (.slice (some ⟨g, 0, none⟩) m m) rs → w.grownBy w' (some g) → wpList Try.prog ops Q rest (a.put o.dst (goInt m)) w') : wpList Try.prog ops Q (o :: rest) a w := by
  refine wpList_plain hgd fun K hK => ?_
  obtain ⟨w', hrun, o1, g1⟩ := run_copyR w o.type B g m c A rs xs hA hm hown
  unfold Oper.wp
  simp [execOp, ho, resolve, invoke, builtin, hd, hs, hrun, Result.andThen]
  exact hK _ _ (h w' o1 g1)

theorem zeroR (w : World) : (zeroValue 25).run Try.prog w = .ok (.agg #[.int .i64 0, .int .i64 0]) w := by kernel_rfl
/-- clear(s), s the rest of a row of rules. -/
theorem run_clearR (w : World) (ty : TypeId) (g o n c : Nat) (hn : 0 < n) (hc : ∀ j, j < n * 2 → (w.cell? ⟨g, o + j, none⟩).isSome = true ∧ w.frozen? ⟨g, o + j, none⟩ = false) :
    ∃ zs, (Builtin.clear_ #[31] ty #[.slice (some ⟨g, o, none⟩) n c]).run Try.prog w = .ok (.tuple #[]) (w.setCells g o zs) := by
  refine ⟨(Builtin.zeroCells #[.int .i64 0, .int .i64 0] n).toList, ?_⟩
  have hl : (Builtin.zeroCells #[.int .i64 0, .int .i64 0] n).toList.length = n * 2 := by simp [size_zeroCells]
  have hst := run_storeCells_cells (P := Try.prog) g o (Builtin.zeroCells #[.int .i64 0, .int .i64 0] n).toList 0 w (fun j hj => by simpa using (hc j (by omega)).1) (fun j hj => by simpa using (hc j (by omega)).2) (by
    intro v hv
    rw [Array.mem_toList_iff, Builtin.zeroCells, Array.mem_map] at hv
    obtain ⟨i, _, rfl⟩ := hv
    have h2 : #[Value.int .i64 0, Value.int .i64 0].size = 2 := rfl
    rw [h2]
    rcases Nat.mod_two_eq_zero_or_one i with he | he <;> rw [he] <;> rfl)
  obtain ⟨m, rfl⟩ : ∃ m, n = m + 1 := ⟨n - 1, by omega⟩
  simp [Builtin.clear_, run_underlying Try.underlying31, zeroR, Value.cells, hst]

end Go.Proofs.Ytbaimgdnajompaa
