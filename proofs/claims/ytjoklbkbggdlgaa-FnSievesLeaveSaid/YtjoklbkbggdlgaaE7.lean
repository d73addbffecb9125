import Derived.Test.YtjoklbkbggdlgaaE4
import Derived.Deep.RegionLaw
import Derived.Deep.RegionHeld3
namespace Go.Proofs.Ytjoklbkbggdlgaa
open Go.RowKit
set_option linter.unusedVariables false
set_option linter.unusedSimpArgs false

/-- The numbers f, f + b, .. (c of them). -/
def upL (f b : Int) (c : Nat) : List Int := (List.range c).map fun i : Nat => f + (i : Int) * b
theorem upL_succ (f b : Int) (c : Nat) : upL f b (c + 1) = upL f b c ++ [f + (c : Int) * b] := by
  simp [upL, List.range_succ]
theorem upL_len (f b : Int) (c : Nat) : (upL f b c).length = c := by simp [upL]
/-- How many there are up to M. -/
def upC (f b M : Int) : Nat := ((M - f) / b + 1).toNat
theorem upC_lt {f b M : Int} {k : Nat} (hb : 1 ≤ b) : k < upC f b M ↔ f + (k : Int) * b ≤ M := by
  have h : (k : Int) ≤ (M - f) / b ↔ (k : Int) * b ≤ M - f := Int.le_ediv_iff_mul_le (by omega)
  unfold upC
  omega
theorem upC_le {f b M : Int} (hb : 1 ≤ b) (hf : 0 ≤ f) (hM : 0 ≤ M) : (upC f b M : Int) ≤ M + 1 := by
  have h0 : 1 ≤ (M - f) / b ↔ 1 * b ≤ M - f := Int.le_ediv_iff_mul_le (by omega)
  have h1 : (M - f) / b ≤ M := by
    rcases Int.le_total 0 (M - f) with h | h
    · have := Int.ediv_le_self b h
      omega
    · omega
  unfold upC
  omega
def upA (f b M : Int) : List Int := upL f b (upC f b M)
theorem upA_len {f b M : Int} (hb : 1 ≤ b) (hf : 0 ≤ f) (hM : 0 ≤ M) : ((upA f b M).length : Int) ≤ M + 1 := by
  rw [upA, upL_len]
  exact upC_le hb hf hM


/-- The cells from off on hold the numbers. -/
def IsAt (w : World) (b off : Nat) (xs : List Int) : Prop := ∀ k, k < xs.length → w.cell? ⟨b, off + k, none⟩ = some (.int .i64 (ivL xs k))
theorem IsAt.below {w w' : World} {b off : Nat} {xs : List Int} (h : IsAt w b off xs) (hlt : b < w.heap.size) (hb : Below w.heap.size w w') : IsAt w' b off xs :=
  fun k hk => (hb.cell (p := ⟨b, off + k, none⟩) hlt).trans (h k hk)
theorem IsAt.take {w : World} {b off : Nat} {xs : List Int} (h : IsAt w b off xs) (n : Nat) : IsAt w b off (xs.take n) := fun k hk => by
  rw [List.length_take] at hk
  rw [h k (by omega)]
  have : k < n := by omega
  simp [ivL, List.getElem?_take, this]
theorem IsAt.drop {w : World} {b off : Nat} {xs : List Int} (h : IsAt w b off xs) (n : Nat) : IsAt w b (off + n) (xs.drop n) := fun k hk => by
  rw [List.length_drop] at hk
  have := h (n + k) (by omega)
  rw [← Nat.add_assoc] at this
  rw [this]
  simp [ivL]
theorem IsAt.news {w : World} {b off : Nat} {xs : List Int} (h : IsAt w b off xs) : ∀ j u, (xs.map (Value.int .i64))[j]? = some u → w.cell? ((⟨b, off, none⟩ : Addr).add j) = some u := fun j u hu => by
  have hj : j < xs.length := by have := (List.getElem?_eq_some_iff.1 hu).1; simpa using this
  rw [Go.WideShapes.add_plain, h j hj]
  rw [ivL_get xs j hj] at hu
  exact hu
theorem IsAt_of_own {w : World} {B g n c : Nat} {xs : List Int} (h : OwnI w B (.slice (some ⟨g, 0, none⟩) n c) xs) : IsAt w g 0 xs := fun k hk => by
  obtain ⟨g', e, _, _, hc⟩ := h.cell hk
  injection e with e
  injection e with e
  subst e
  simpa [ivL] using hc
theorem one_ints (xs : List Int) : ∀ u ∈ xs.map (Value.int .i64), u.oneCell' = true := fun u hu => by
  obtain ⟨x, _, rfl⟩ := List.mem_map.1 hu
  rfl

/-- append(v, s...), v a row of ints that the call owns, s read elsewhere. -/
theorem wpo_app_ints {o : Oper} {a : Act} {K : Act → World → Prop} {Q : Exit → Act → World → Prop} (w : World) (s x : Operand)
    (ho : o.op = .call { callee := .builtin .append, args := #[s, x], argTypes := #[27, 27] }) (B : Nat) (v : Value) (xs : List Int) (hs : a.eval s = v) (hown : OwnI w B v xs) (b off m c : Nat) (ys : List Int)
    (hx : a.eval x = .slice (some ⟨b, off, none⟩) m c) (hm : m = ys.length) (hnews : IsAt w b off ys) (hl : xs.length + ys.length ≤ 1048576) (hB : B ≤ w.heap.size)
    (h : ∀ v' w', OwnI w' B v' (xs ++ ys) → w.grownBy w' v.ownBlock → K (a.put o.dst v') w') : Oper.wp Try.prog o a w K Q := by
  subst hm
  obtain ⟨i0, hi, hz0, hz1, hz2⟩ := info_parts info_I
  refine wp_append_own w s x 27 ho B 3 i0 _ 1 8 Try.underlying27 hi hz0 hz1 hz2 rfl (by decide) v _ _ hs hown ⟨b, off, none⟩ _ c (ys.map (Value.int .i64)) hx (by simp) hnews.news (one_ints ys) (by unfold maxLen; omega) (by omega) hB ?_
  intro v' w' hown' hg _
  refine h v' w' ?_ hg
  simpa [OwnI, List.map_append] using hown'
theorem wp_app_ints {ops : Array Oper} {rest : List Oper} {o : Oper} {a : Act} {Q : Exit → Act → World → Prop} (w : World) (hgd : o.guard = none) (s x : Operand)
    (ho : o.op = .call { callee := .builtin .append, args := #[s, x], argTypes := #[27, 27] }) (B : Nat) (v : Value) (xs : List Int) (hs : a.eval s = v) (hown : OwnI w B v xs) (b off m c : Nat) (ys : List Int)
    (hx : a.eval x = .slice (some ⟨b, off, none⟩) m c) (hm : m = ys.length) (hnews : IsAt w b off ys) (hl : xs.length + ys.length ≤ 1048576) (hB : B ≤ w.heap.size)
    (h : ∀ v' w', OwnI w' B v' (xs ++ ys) → w.grownBy w' v.ownBlock → wpList Try.prog ops Q rest (a.put o.dst v') w') : wpList Try.prog ops Q (o :: rest) a w :=
  wpList_plain hgd fun _ hK => wpo_app_ints w s x ho B v xs hs hown b off m c ys hx hm hnews hl hB fun v' w' h1 h2 => hK _ _ (h v' w' h1 h2)
/-- The same at a step of a region that draws its order. -/
theorem step_app_ints {ops : Array Oper} {o : Oper} {a : Act} {K : Act → World → Prop} {Q : Exit → Act → World → Prop} {E : Prop} (w : World) (hgd : o.guard = none) (s x : Operand)
    (ho : o.op = .call { callee := .builtin .append, args := #[s, x], argTypes := #[27, 27] }) (B : Nat) (v : Value) (xs : List Int) (hs : a.eval s = v) (hown : OwnI w B v xs) (b off m c : Nat) (ys : List Int)
    (hx : a.eval x = .slice (some ⟨b, off, none⟩) m c) (hm : m = ys.length) (hnews : IsAt w b off ys) (hl : xs.length + ys.length ≤ 1048576) (hB : B ≤ w.heap.size)
    (h : ∀ v' w', OwnI w' B v' (xs ++ ys) → w.grownBy w' v.ownBlock → K (a.put o.dst v') w') :
    if Region.wanted o (yielded ops a.tmps) = true then Oper.wp Try.prog o a w K Q else E := by
  have hw : Region.wanted o (yielded ops a.tmps) = true := by simp [Region.wanted, hgd]
  rw [if_pos hw]
  exact wpo_app_ints w s x ho B v xs hs hown b off m c ys hx hm hnews hl hB h
theorem ownI_empty (w : World) : OwnI (w.alloc (.cells #[] 3)) w.heap.size (.slice (some ⟨w.heap.size, 0, none⟩) 0 0) [] :=
  World.ownsRow_made w #[] 0 (Nat.le_refl _) (by simp [maxLen]) (by simp)


end Go.Proofs.Ytjoklbkbggdlgaa
