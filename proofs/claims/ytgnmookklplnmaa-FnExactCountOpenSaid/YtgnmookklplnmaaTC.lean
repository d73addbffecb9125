import Derived.Test.YtgnmookklplnmaaT3
import Derived.Deep.AppendLies
import Derived.IntWalk
import Derived.Test.YtgnmookklplnmaaK1
import Derived.Test.YtgnmookklplnmaaH1
namespace Go.Proofs.Ytgnmookklplnmaa
open Go.RowKit
set_option linter.unusedVariables false
set_option linter.unusedSimpArgs false

/-- The open patterns with the beginning bs and so many more offsets: those whose next one is from x on, f of them tried. -/
def lkX (g : List Int → List (List Int)) (bs : List Int) : Nat → Nat → List (List Int)
  | 0, _ => []
  | f + 1, x => (if clX (bs ++ [(x : Int)]) 0 = 0 then g (bs ++ [(x : Int)]) else []) ++ lkX g bs f (x + 1)
def lkS (W l : Nat) (bs : List Int) : Nat := if l = 0 then max ((ivL bs (bs.length - 1)).toNat + 1) W else (ivL bs (bs.length - 1)).toNat + 1
def lkN (W : Nat) : Nat → List Int → List (List Int)
  | 0, bs => if ivL bs (bs.length - 1) = (W : Int) then [bs] else []
  | l + 1, bs => lkX (lkN W l) bs (W + 1 - l - lkS W l bs) (lkS W l bs)
theorem lkX_len {g : List Int → List (List Int)} {M : Nat} (h : ∀ bs, (g bs).length ≤ M) (bs : List Int) : ∀ f x, (lkX g bs f x).length ≤ f * M
  | 0, _ => by simp [lkX]
  | f + 1, x => by
    have h1 := lkX_len h bs f (x + 1)
    have h2 := h (bs ++ [(x : Int)])
    rw [lkX, List.length_append, Nat.succ_mul]
    split
    · omega
    · simp; omega
theorem lkN_len {W : Nat} (hW : W ≤ 30) : ∀ l bs, (lkN W l bs).length ≤ 31 ^ (l - 1)
  | 0, bs => by rw [lkN]; split <;> simp
  | 1, bs => by
    have h1 := lkX_len (g := lkN W 0) (M := 1) (fun bs => by rw [lkN]; split <;> simp) bs (W + 1 - 0 - lkS W 0 bs) (lkS W 0 bs)
    have h2 : W + 1 - 0 - lkS W 0 bs ≤ 1 := by rw [lkS, if_pos rfl]; omega
    rw [lkN]
    simp only [Nat.sub_self, Nat.pow_zero]
    omega
  | l + 2, bs => by
    have ih := lkN_len hW (l + 1)
    have h1 := lkX_len (g := lkN W (l + 1)) (M := 31 ^ l) (fun bs => by simpa using ih bs) bs (W + 1 - (l + 1) - lkS W (l + 1) bs) (lkS W (l + 1) bs)
    have h2 : W + 1 - (l + 1) - lkS W (l + 1) bs ≤ 31 := by omega
    rw [lkN]
    have h3 := Nat.mul_le_mul h2 (Nat.le_refl (31 ^ l))
    have h4 : 31 ^ (l + 2 - 1) = 31 * 31 ^ l := by rw [show l + 2 - 1 = l + 1 by omega, Nat.pow_succ, Nat.mul_comm]
    omega

/-- What was there is as it was, but for the cell o and the block of the row that lies in it. -/
structure Kept2 (w w' : World) (o : Nat) (v v' : Value) : Prop where
  os : w'.os = w.os
  tape : w'.tape = w.tape
  output : w'.output = w.output
  size : w.heap.size ≤ w'.heap.size
  block : ∀ k, k < w.heap.size → k ≠ o → v.ownBlock ≠ some k → w'.heap[k]? = w.heap[k]?
  own : v'.ownBlock = v.ownBlock ∨ ∀ q, v'.ownBlock = some q → w.heap.size ≤ q
theorem Kept2.of_below {w w' : World} {o : Nat} {v : Value} (h : Below w.heap.size w w') : Kept2 w w' o v v := ⟨h.os, h.tape, h.output, h.size, fun k hk _ _ => h.block k hk, .inl rfl⟩
theorem Kept2.trans {a b c : World} {o : Nat} {v v' v'' : Value} (h : Kept2 a b o v v') (k : Kept2 b c o v' v'') : Kept2 a c o v v'' := by
  refine ⟨k.os.trans h.os, k.tape.trans h.tape, k.output.trans h.output, Nat.le_trans h.size k.size, fun i hi h1 h2 => ?_, ?_⟩
  · have h3 : v'.ownBlock ≠ some i := by
      rcases h.own with e | e
      · rw [e]; exact h2
      · intro e2; have := e i e2; omega
    exact (k.block i (Nat.lt_of_lt_of_le hi h.size) h1 h3).trans (h.block i hi h1 h2)
  · rcases k.own with e | e
    · rcases h.own with e2 | e2
      · exact .inl (e.trans e2)
      · exact .inr fun q hq => e2 q (by rw [← e]; exact hq)
    · exact .inr fun q hq => Nat.le_trans h.size (e q hq)
theorem Kept2.at {w w' : World} {o : Nat} {v v' : Value} (h : Kept2 w w' o v v') {b off : Nat} {xs : List Int} (hx : IsAt w b off xs) (hb : b < w.heap.size) (h1 : b ≠ o) (h2 : v.ownBlock ≠ some b) : IsAt w' b off xs := fun k hk =>
  (World.cell?_of_block (a := ⟨b, off + k, none⟩) (h.block b hb h1 h2)).trans (hx k hk)
theorem OwnLL.setB {w : World} {B : Nat} {v : Value} {ps : List (List Int)} (h : OwnLL w B v ps) {a : Addr} (ha : a.block < B) (u : Value) : OwnLL (w.setCell a u) B v ps := by
  obtain ⟨vs, h1, h2, h3⟩ := h
  exact ⟨vs, ownsRow_setCell_below h1 ha u, fun i hi => by obtain ⟨x, e, o⟩ := h2 i hi; exact ⟨x, e, OwnI.setB o ha u⟩, h3⟩

/-- append(out, u) at a step of a region that draws, out a slice of slices that the call owns, u new since w0. -/
theorem step_app_ll {ops : Array Oper} {o : Oper} {a : Act} {K : Act → World → Prop} {Q : Exit → Act → World → Prop} {E : Prop} (w : World) (u : Value) (hgd : o.guard = none) (s x : Operand)
    (ho : o.op = .call { callee := .builtin .append, args := #[s, x], argTypes := #[38, 38] }) (B : Nat) (v : Value) (ps : List (List Int)) (hs : a.eval s = v)
    (w0 : World) (hown : OwnLL w0 B v ps) (hb : Below w0.heap.size w0 w) (y : List Int) (hu : OwnI w B u y) (hnew : ∀ q, u.ownBlock = some q → w0.heap.size ≤ q)
    (hx : a.eval x = .slice (some ⟨w.heap.size, 0, none⟩) 1 1) (hl : ps.length ≤ 1048576) (hB : B ≤ w.heap.size)
    (h : ∀ v' w', OwnLL w' B v' (ps ++ [y]) → w.grownBy w' v.ownBlock → (v'.ownBlock = v.ownBlock ∨ ∀ q, v'.ownBlock = some q → w.heap.size ≤ q) → K (a.put o.dst v') w') :
    if Region.wanted o (yielded ops a.tmps) = true then Oper.wp Try.prog o a ((w.alloc (.cells #[u] 22)).drew) K Q else E := by
  obtain ⟨i0, hi, hz0, hz1, hz2⟩ := info_parts info_LI
  have hdist : ∀ (vs : List Value) (i : Nat) (u' : Value) (q : Nat), w0.ownsRow B 22 1 v ps.length vs → (∀ i, i < ps.length → ∃ u, vs[i]? = some u ∧ OwnI w0 B u (psL ps i)) → vs[i]? = some u' → u'.ownBlock = some q → q < w0.heap.size := by
    intro vs i u' q h1 h2 hi' hq
    have hlen : i < ps.length := by
      have := (List.getElem?_eq_some_iff.1 hi').1
      rw [h1.1] at this
      omega
    obtain ⟨u2, e2, o2⟩ := h2 i hlen
    rw [hi'] at e2
    injection e2 with e2
    subst e2
    exact (World.ownsRow.lt o2 q hq).2
  obtain ⟨vs, h1, h2, h3⟩ := hown
  have h1w := own_below h1 hb
  refine step_append_lies _ hgd s x 38 ho B 22 i0 _ 1 24 Try.underlying38 hi hz0 hz1 hz2 rfl (by decide) v _ _ hs (World.ownsRow.drew (World.ownsRow.alloc h1w _)) ⟨w.heap.size, 0, none⟩ 1 1 [u] hx rfl ?_ ?_ (by decide) (by unfold maxLen; omega) (by omega) (by simp; omega) _ rfl ?_
  · intro j u' hj
    cases j with
    | zero => simp at hj; subst hj; simp [Addr.add]
    | succ j => simp at hj
  · intro u' hu'
    simp at hu'
    subst hu'
    obtain ⟨A', c', rfl⟩ := hu.shape
    rfl
  · intro g cap w' hown' hg hgo _
    refine h _ w' ⟨vs ++ [u], ?_, ?_, ?_⟩ ⟨hg.os, hg.tape, hg.output, Nat.le_trans (by simp) hg.size, fun i hi hn => (hg.block i (by simp; omega) hn).trans (Below.heap_alloc w _ i hi)⟩ ?_
    · simpa using hown'
    · intro i hi'
      rw [List.length_append, List.length_singleton] at hi'
      by_cases hlt : i < ps.length
      · obtain ⟨u2, e2, o2⟩ := h2 i hlt
        have o3 : OwnI w B u2 (psL ps i) := o2.below hb
        refine ⟨u2, ?_, ?_⟩
        · have hvl : i < vs.length := by rw [h1.1]; omega
          rw [List.getElem?_append_left hvl]
          exact e2
        · rw [psL_app_lt hlt]
          exact kept_if (World.ownsRow.drew (World.ownsRow.alloc o3 _)) hg fun q hq e => own_ne h1w o3 (by decide) q e hq
      · have hie : i = ps.length := by omega
        subst hie
        refine ⟨u, ?_, ?_⟩
        · rw [List.getElem?_append_right (by rw [h1.1]; omega), h1.1]
          simp
        · rw [psL_app_eq]
          exact kept_if (World.ownsRow.drew (World.ownsRow.alloc hu _)) hg fun q hq e => own_ne h1w hu (by decide) q e hq
    · intro i j u1 u2 hij e1 e2 q hq
      have hj : j < vs.length + 1 := by
        have := (List.getElem?_eq_some_iff.1 e2).1
        simpa using this
      rw [List.getElem?_append_left (by omega)] at e1
      by_cases hjl : j < vs.length
      · rw [List.getElem?_append_left hjl] at e2
        exact h3 i j u1 u2 hij e1 e2 q hq
      · rw [List.getElem?_append_right (by omega), show j - vs.length = 0 by omega] at e2
        simp at e2
        subst e2
        intro hq2
        have := hdist vs i u1 q h1 h2 e1 hq
        have := hnew q hq2
        omega
    · rcases hgo with e | e
      · exact .inl (by rw [e]; rfl)
      · refine .inr fun q hq => ?_
        have : g = q := by simpa [Value.ownBlock] using hq
        rw [← this, e]
        simp

/-- The same where the call of the region has made the draw: append(out, u) at a step of a region that draws, out a slice of slices that the call owns, u new since w0. -/
theorem step_app_ll0 {ops : Array Oper} {o : Oper} {a : Act} {K : Act → World → Prop} {Q : Exit → Act → World → Prop} {E : Prop} (w : World) (u : Value) (hgd : o.guard = none) (s x : Operand)
    (ho : o.op = .call { callee := .builtin .append, args := #[s, x], argTypes := #[38, 38] }) (B : Nat) (v : Value) (ps : List (List Int)) (hs : a.eval s = v)
    (w0 : World) (hown : OwnLL w0 B v ps) (hb : Below w0.heap.size w0 w) (y : List Int) (hu : OwnI w B u y) (hnew : ∀ q, u.ownBlock = some q → w0.heap.size ≤ q)
    (hx : a.eval x = .slice (some ⟨w.heap.size, 0, none⟩) 1 1) (hl : ps.length ≤ 1048576) (hB : B ≤ w.heap.size)
    (h : ∀ v' w', OwnLL w' B v' (ps ++ [y]) → w.grownBy w' v.ownBlock → (v'.ownBlock = v.ownBlock ∨ ∀ q, v'.ownBlock = some q → w.heap.size ≤ q) → K (a.put o.dst v') w') :
    if Region.wanted o (yielded ops a.tmps) = true then Oper.wp Try.prog o a (w.alloc (.cells #[u] 22)) K Q else E := by
  obtain ⟨i0, hi, hz0, hz1, hz2⟩ := info_parts info_LI
  have hdist : ∀ (vs : List Value) (i : Nat) (u' : Value) (q : Nat), w0.ownsRow B 22 1 v ps.length vs → (∀ i, i < ps.length → ∃ u, vs[i]? = some u ∧ OwnI w0 B u (psL ps i)) → vs[i]? = some u' → u'.ownBlock = some q → q < w0.heap.size := by
    intro vs i u' q h1 h2 hi' hq
    have hlen : i < ps.length := by
      have := (List.getElem?_eq_some_iff.1 hi').1
      rw [h1.1] at this
      omega
    obtain ⟨u2, e2, o2⟩ := h2 i hlen
    rw [hi'] at e2
    injection e2 with e2
    subst e2
    exact (World.ownsRow.lt o2 q hq).2
  obtain ⟨vs, h1, h2, h3⟩ := hown
  have h1w := own_below h1 hb
  refine step_append_lies _ hgd s x 38 ho B 22 i0 _ 1 24 Try.underlying38 hi hz0 hz1 hz2 rfl (by decide) v _ _ hs (World.ownsRow.alloc h1w _) ⟨w.heap.size, 0, none⟩ 1 1 [u] hx rfl ?_ ?_ (by decide) (by unfold maxLen; omega) (by omega) (by simp; omega) _ rfl ?_
  · intro j u' hj
    cases j with
    | zero => simp at hj; subst hj; simp [Addr.add]
    | succ j => simp at hj
  · intro u' hu'
    simp at hu'
    subst hu'
    obtain ⟨A', c', rfl⟩ := hu.shape
    rfl
  · intro g cap w' hown' hg hgo _
    refine h _ w' ⟨vs ++ [u], ?_, ?_, ?_⟩ ⟨hg.os, hg.tape, hg.output, Nat.le_trans (by simp) hg.size, fun i hi hn => (hg.block i (by simp; omega) hn).trans (Below.heap_alloc w _ i hi)⟩ ?_
    · simpa using hown'
    · intro i hi'
      rw [List.length_append, List.length_singleton] at hi'
      by_cases hlt : i < ps.length
      · obtain ⟨u2, e2, o2⟩ := h2 i hlt
        have o3 : OwnI w B u2 (psL ps i) := o2.below hb
        refine ⟨u2, ?_, ?_⟩
        · have hvl : i < vs.length := by rw [h1.1]; omega
          rw [List.getElem?_append_left hvl]
          exact e2
        · rw [psL_app_lt hlt]
          exact kept_if (World.ownsRow.alloc o3 _) hg fun q hq e => own_ne h1w o3 (by decide) q e hq
      · have hie : i = ps.length := by omega
        subst hie
        refine ⟨u, ?_, ?_⟩
        · rw [List.getElem?_append_right (by rw [h1.1]; omega), h1.1]
          simp
        · rw [psL_app_eq]
          exact kept_if (World.ownsRow.alloc hu _) hg fun q hq e => own_ne h1w hu (by decide) q e hq
    · intro i j u1 u2 hij e1 e2 q hq
      have hj : j < vs.length + 1 := by
        have := (List.getElem?_eq_some_iff.1 e2).1
        simpa using this
      rw [List.getElem?_append_left (by omega)] at e1
      by_cases hjl : j < vs.length
      · rw [List.getElem?_append_left hjl] at e2
        exact h3 i j u1 u2 hij e1 e2 q hq
      · rw [List.getElem?_append_right (by omega), show j - vs.length = 0 by omega] at e2
        simp at e2
        subst e2
        intro hq2
        have := hdist vs i u1 q h1 h2 e1 hq
        have := hnew q hq2
        omega
    · rcases hgo with e | e
      · exact .inl (by rw [e]; rfl)
      · refine .inr fun q hq => ?_
        have : g = q := by simpa [Value.ownBlock] using hq
        rw [← this, e]
        simp

end Go.Proofs.Ytgnmookklplnmaa
