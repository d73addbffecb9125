import Derived.Test.YtapjbppkekigaabE0
namespace Go.Proofs.Ytapjbppkekigaab
open Go.RowKit
set_option linter.unusedVariables false
set_option linter.unusedSimpArgs false

/-! Slices of slices of ints. -/
def psL (ps : List (List Int)) (i : Nat) : List Int := ps.getD i []
theorem psL_get {ps : List (List Int)} {i : Nat} (h : i < ps.length) : ps[i] = psL ps i := by simp [psL, h]
theorem psL_app_lt {ps : List (List Int)} {x : List Int} {i : Nat} (h : i < ps.length) : psL (ps ++ [x]) i = psL ps i := by
  simp [psL, List.getD_eq_getElem?_getD, List.getElem?_append_left h]
theorem psL_app_eq {ps : List (List Int)} {x : List Int} : psL (ps ++ [x]) ps.length = x := by
  simp [psL, List.getD_eq_getElem?_getD]
/-- How many numbers the first i lists have. -/
def sumL (ps : List (List Int)) (i : Nat) : Nat := ((ps.take i).map List.length).sum
theorem sumL_zero (ps : List (List Int)) : sumL ps 0 = 0 := rfl
theorem sumL_succ {ps : List (List Int)} {i : Nat} (h : i < ps.length) : sumL ps (i + 1) = sumL ps i + (psL ps i).length := by
  rw [sumL, sumL, List.take_succ_eq_append_getElem h, psL_get h]
  simp
theorem sumL_le (ps : List (List Int)) : ∀ (d i : Nat), i + d = ps.length → sumL ps i ≤ sumL ps ps.length
  | 0, i, h => by rw [show i = ps.length by omega]; exact Nat.le_refl _
  | d + 1, i, h => by
    have := sumL_le ps d (i + 1) (by omega)
    have := sumL_succ (ps := ps) (i := i) (by omega)
    omega
theorem sumL_len {ps : List (List Int)} {i : Nat} (h : i < ps.length) : sumL ps i + (psL ps i).length ≤ sumL ps ps.length := by
  have h1 := sumL_succ h
  have h2 := sumL_le ps (ps.length - (i + 1)) (i + 1) (by omega)
  omega

theorem info_LI : (Try.prog.info? 25).map (fun i => (i.zero, i.size, i.bytes)) = some (some (.slice none 0 0), 1, 24) := by kernel_rfl
/-- Rows of two types lie in two blocks. -/
theorem own_ne {w : World} {B B' : Nat} {e e' : TypeId} {s s' : Nat} {v v' : Value} {n n' : Nat} {xs xs' : List Value} (h : w.ownsRow B e s v n xs) (h' : w.ownsRow B' e' s' v' n' xs') (hne : e ≠ e') :
    ∀ q, v.ownBlock = some q → v'.ownBlock ≠ some q := by
  intro q hq hq'
  rcases h.2 with ⟨e1, _⟩ | ⟨g, cap, cur, e1, _, hg, _⟩
  · rw [e1] at hq; simp [Value.ownBlock] at hq
  · rcases h'.2 with ⟨e2, _⟩ | ⟨g', cap', cur', e2, _, hg', _⟩
    · rw [e2] at hq'; simp [Value.ownBlock] at hq'
    · rw [e1] at hq
      rw [e2] at hq'
      simp only [Value.ownBlock, Option.some.injEq] at hq hq'
      subst hq
      subst hq'
      rw [hg] at hg'
      simp only [Option.some.injEq, Obj.cells.injEq] at hg'
      exact hne hg'.2.1
theorem kept_if {w w' : World} {B : Nat} {e : TypeId} {size : Nat} {v : Value} {n : Nat} {xs : List Value} {row : Option Nat} (h : w.ownsRow B e size v n xs) (hg : w.grownBy w' row) (hne : ∀ q, v.ownBlock = some q → row ≠ some q) : w'.ownsRow B e size v n xs :=
  World.ownsRow.kept h hg (by
    cases hv : v.ownBlock with
    | none => exact .inl rfl
    | some k => exact .inr fun e => hne k hv e.symm)

/-- A slice of slices of ints that the call owns, each in a block of its own. -/
def OwnLL (w : World) (B : Nat) (v : Value) (ps : List (List Int)) : Prop :=
  ∃ vs : List Value, w.ownsRow B 25 1 v ps.length vs ∧ (∀ i, i < ps.length → ∃ u, vs[i]? = some u ∧ OwnI w B u (psL ps i)) ∧
    ∀ (i j : Nat) (u u' : Value), i < j → vs[i]? = some u → vs[j]? = some u' → ∀ q, u.ownBlock = some q → u'.ownBlock ≠ some q
theorem OwnLL.nil (w : World) (B : Nat) : OwnLL w B (.slice none 0 0) [] := ⟨[], World.ownsRow_nil _ _ _ _, fun i h => by simp at h, fun i j u u' _ h => by simp at h⟩
theorem OwnLL.below {w w' : World} {B : Nat} {v : Value} {ps : List (List Int)} (h : OwnLL w B v ps) (hb : Below w.heap.size w w') : OwnLL w' B v ps := by
  obtain ⟨vs, h1, h2, h3⟩ := h
  exact ⟨vs, own_below h1 hb, fun i hi => by obtain ⟨u, a, b⟩ := h2 i hi; exact ⟨u, a, b.below hb⟩, h3⟩
theorem own_mono {w : World} {B B' : Nat} {e : TypeId} {size : Nat} {v : Value} {n : Nat} {xs : List Value} (h : w.ownsRow B e size v n xs) (hB : B' ≤ B) : w.ownsRow B' e size v n xs := by
  refine ⟨h.1, ?_⟩
  rcases h.2 with h2 | ⟨g, cap, cur, e, hg, r⟩
  · exact .inl h2
  · exact .inr ⟨g, cap, cur, e, Nat.le_trans hB hg, r⟩
theorem OwnLL.mono {w : World} {B B' : Nat} {v : Value} {ps : List (List Int)} (h : OwnLL w B v ps) (hB : B' ≤ B) : OwnLL w B' v ps := by
  obtain ⟨vs, h1, h2, h3⟩ := h
  exact ⟨vs, own_mono h1 hB, fun i hi => by obtain ⟨u, a, b⟩ := h2 i hi; exact ⟨u, a, OwnI.mono b hB⟩, h3⟩
theorem OwnLL.shape {w : World} {B : Nat} {v : Value} {ps : List (List Int)} (h : OwnLL w B v ps) : ∃ A c, v = .slice A ps.length c := by
  obtain ⟨vs, h1, _⟩ := h
  rcases h1.2 with ⟨e, h0⟩ | ⟨g, cap, cur, e, _⟩
  · exact ⟨none, 0, by rw [e, h0]⟩
  · exact ⟨_, _, e⟩
theorem OwnLL.lt {w : World} {B : Nat} {v : Value} {ps : List (List Int)} (h : OwnLL w B v ps) : ∀ q, v.ownBlock = some q → B ≤ q ∧ q < w.heap.size := by
  obtain ⟨vs, h1, _⟩ := h
  exact fun q hq => World.ownsRow.lt h1 q hq

/-- A slice of slices of ints, read. -/
def Lr (w : World) (A : Option Addr) (ps : List (List Int)) : Prop :=
  0 < ps.length → ∃ b off, A = some ⟨b, off, none⟩ ∧ b < w.heap.size ∧ ∀ i, i < ps.length → ∃ A' c', w.cell? ⟨b, off + i, none⟩ = some (.slice A' (psL ps i).length c') ∧ Il w A' (psL ps i)
theorem Lr.below {w w' : World} {A : Option Addr} {ps : List (List Int)} (h : Lr w A ps) (hb : Below w.heap.size w w') : Lr w' A ps := by
  intro hp
  obtain ⟨b, off, e, hlt, hr⟩ := h hp
  refine ⟨b, off, e, Nat.lt_of_lt_of_le hlt hb.size, fun i hi => ?_⟩
  obtain ⟨A', c', h1, h2⟩ := hr i hi
  exact ⟨A', c', (hb.cell (p := ⟨b, off + i, none⟩) hlt).trans h1, h2.below hb⟩
theorem Lr_of_own {w : World} {B n c : Nat} {A : Option Addr} {ps : List (List Int)} (h : OwnLL w B (.slice A n c) ps) : Lr w A ps := by
  intro hp
  obtain ⟨vs, h1, h2, _⟩ := h
  have hn : n = ps.length := by
    rcases h1.2 with ⟨e, h0⟩ | ⟨g, cap, cur, e, _⟩
    · omega
    · simp only [Value.slice.injEq] at e; exact e.2.1
  subst hn
  obtain ⟨g, rfl, _, hg⟩ := own_form h1 hp
  refine ⟨g, 0, rfl, hg, fun i hi => ?_⟩
  obtain ⟨u, hu, ho⟩ := h2 i hi
  obtain ⟨A', c', rfl⟩ := ho.shape
  exact ⟨A', c', by rw [Nat.zero_add]; exact (World.ownsRow.cellAt h1 i (by omega)).trans hu, Il_of_own ho⟩

/-- append(out, u) for a slice of slices that the call owns, u new since w0. -/
theorem wp_app_ll {ops : Array Oper} {rest : List Oper} {o : Oper} {a : Act} {Q : Exit → Act → World → Prop} (w : World) (u : Value) (hgd : o.guard = none) (s x : Operand)
    (ho : o.op = .call { callee := .builtin .append, args := #[s, x], argTypes := #[55, 55] }) (B : Nat) (v : Value) (ps : List (List Int)) (hs : a.eval s = v)
    (w0 : World) (hown : OwnLL w0 B v ps) (hb : Below w0.heap.size w0 w) (y : List Int) (hu : OwnI w B u y) (hnew : ∀ q, u.ownBlock = some q → w0.heap.size ≤ q)
    (bx : Nat) (hx : a.eval x = .slice (some ⟨bx, 0, none⟩) 1 1) (hbx : bx = w.heap.size) (hl : ps.length ≤ 1048576) (hB : B ≤ w.heap.size)
    (h : ∀ v' w', OwnLL w' B v' (ps ++ [y]) → Below B w w' → wpList Try.prog ops Q rest (a.put o.dst v') w') : wpList Try.prog ops Q (o :: rest) a (w.alloc (.cells #[u] 25)) := by
  subst hbx
  obtain ⟨i0, hi, hz0, hz1, hz2⟩ := info_parts info_LI
  have hdist : ∀ (vs : List Value) (i : Nat) (u' : Value) (q : Nat), w0.ownsRow B 25 1 v ps.length vs → (∀ i, i < ps.length → ∃ u, vs[i]? = some u ∧ OwnI w0 B u (psL ps i)) → vs[i]? = some u' → u'.ownBlock = some q → q < w0.heap.size := by
    intro vs i u' q h1 h2 hi' hq
    have hlen : i < ps.length := by
      have := (List.getElem?_eq_some_iff.1 hi').1
      rw [h1.1] at this
      omega
    obtain ⟨u2, e2, o2⟩ := h2 i hlen
    rw [hi'] at e2
    injection e2 with e2
    subst e2
    exact (World.ownsRow.lt o2 q hq).2
  obtain ⟨vs, h1, h2, h3⟩ := hown
  have h1w := own_below h1 hb
  refine wpList_append_own _ hgd s x 55 ho B 25 i0 _ 1 24 Try.underlying55 hi hz0 hz1 hz2 rfl (by decide) v _ _ hs (World.ownsRow.alloc h1w _) ⟨w.heap.size, 0, none⟩ 1 1 [u] hx rfl ?_ ?_ (by unfold maxLen; omega) (by omega) (by simp; omega) ?_
  · intro j u' hj
    cases j with
    | zero => simp at hj; subst hj; simp [Addr.add]
    | succ j => simp at hj
  · intro u' hu'
    simp at hu'
    subst hu'
    obtain ⟨A', c', rfl⟩ := hu.shape
    rfl
  · intro v' w' hown' hg _
    refine h v' w' ⟨vs ++ [u], ?_, ?_, ?_⟩ (((Below.refl B w).alloc hB _).grown hg (by simp; omega) fun k hk => (World.ownsRow.lt h1w k hk).1)
    · simpa using hown'
    · intro i hi'
      rw [List.length_append, List.length_singleton] at hi'
      by_cases hlt : i < ps.length
      · obtain ⟨u2, e2, o2⟩ := h2 i hlt
        have o3 : OwnI w B u2 (psL ps i) := o2.below hb
        refine ⟨u2, ?_, ?_⟩
        · have hvl : i < vs.length := by rw [h1.1]; omega
          rw [List.getElem?_append_left hvl]
          exact e2
        · rw [psL_app_lt hlt]
          exact kept_if (World.ownsRow.alloc o3 _) hg fun q hq e => own_ne h1w o3 (by decide) q e hq
      · have hie : i = ps.length := by omega
        subst hie
        refine ⟨u, ?_, ?_⟩
        · rw [List.getElem?_append_right (by rw [h1.1]; omega), h1.1]
          simp
        · rw [psL_app_eq]
          exact kept_if (World.ownsRow.alloc hu _) hg fun q hq e => own_ne h1w hu (by decide) q e hq
    · intro i j u1 u2 hij e1 e2 q hq
      have hj : j < vs.length + 1 := by
        have := (List.getElem?_eq_some_iff.1 e2).1
        simpa using this
      rw [List.getElem?_append_left (by omega)] at e1
      by_cases hjl : j < vs.length
      · rw [List.getElem?_append_left hjl] at e2
        exact h3 i j u1 u2 hij e1 e2 q hq
      · rw [List.getElem?_append_right (by omega), show j - vs.length = 0 by omega] at e2
        simp at e2
        subst e2
        intro hq2
        have := hdist vs i u1 q h1 h2 e1 hq
        have := hnew q hq2
        omega


/-- The row that v owns holds k, k + 1, k + 2, .. . -/
def MarkedK (w : World) (B : Nat) (e : TypeId) (v : Value) (n : Nat) (k : Int) : Prop :=
  ∃ cells, w.ownsRow B e 1 v n cells ∧ ∀ j, j < n → cells[j]? = some (.int .i64 (k + (j : Int)))
theorem MarkedK.below {w w' : World} {B : Nat} {e : TypeId} {v : Value} {n : Nat} {k : Int} (h : MarkedK w B e v n k) (hb : Below w.heap.size w w') : MarkedK w' B e v n k := by
  obtain ⟨cells, h1, h2⟩ := h
  exact ⟨cells, own_below h1 hb, h2⟩

end Go.Proofs.Ytapjbppkekigaab
