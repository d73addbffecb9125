import Derived.Test.YtgkciiklgadgkaaE1
import Derived.IntWalk
import Derived.Deep.RegionLaw
import Derived.Deep.RegionHeld3
import Derived.Test.YtgkciiklgadgkaaG1
import Derived.Deep.SlicePairs
namespace Go.Proofs.Ytgkciiklgadgkaa
open Go.RowKit
set_option linter.unusedVariables false
set_option linter.unusedSimpArgs false

/-- The steps k + 1, k, .., 2, backwards. -/
def riseF : Nat → Int → Int
  | 0, p => p
  | k + 1, p => riseF k (p + (p - 1) / ((k : Int) + 1))
theorem rise_step (p x : Int) (h1 : 1 ≤ p) (h2 : 1 ≤ x) : 0 ≤ (p - 1) / x ∧ (p - 1) / x ≤ p - 1 :=
  ⟨Int.ediv_nonneg (by omega) (by omega), Int.ediv_le_self _ (by omega)⟩
theorem rise_ge : ∀ (k : Nat) (p : Int), 1 ≤ p → p ≤ riseF k p
  | 0, p, _ => Int.le_refl _
  | k + 1, p, h => by
    have h1 := rise_step p ((k : Int) + 1) h (by omega)
    have := rise_ge k (p + (p - 1) / ((k : Int) + 1)) (by omega)
    rw [riseF]
    omega
theorem rise_max : ∀ r : Nat, r < 31 → riseF r ((r : Int) + 1) ≤ 1000 := by decide
theorem rise_one (r : Nat) : riseF (r + 1) ((r : Int) + 1) = riseF r ((r : Int) + 1) := by
  rw [riseF, Int.add_sub_cancel, Int.ediv_eq_zero_of_lt (by omega) (by omega), Int.add_zero]

def riseOk (r : Int) : Bool := inB r 0 30
def riseV (r : Int) : Int := if riseOk r then riseF r.toNat (r + 1) else 0
theorem riseV_no {r : Int} (h : riseOk r = false) : riseV r = 0 := by rw [riseV, h]; rfl
theorem riseV_yes {r : Nat} (h : riseOk (r : Int) = true) : riseV (r : Int) = riseF r ((r : Int) + 1) := by rw [riseV, h, Int.toNat_natCast]; rfl



/-- The last one of a circle, counted from 0. -/
def lastF (k : Int) : Nat → Int
  | 0 => 0
  | m + 1 => (lastF k m + k) % ((m : Int) + 1)
theorem last_lo (k : Int) : ∀ m, 0 ≤ lastF k m
  | 0 => Int.le_refl _
  | m + 1 => Int.emod_nonneg _ (by omega)
theorem last_hi (k : Int) (m : Nat) : lastF k (m + 1) ≤ m := by
  have := Int.emod_lt_of_pos (lastF k m + k) (b := (m : Int) + 1) (by omega)
  rw [lastF]
  omega
theorem last_one (k : Int) : lastF k 1 = 0 := by simp [lastF]
def lastOk (n k : Int) : Bool := inB n 1 100 && inB k 1 1000
def lastV (n k : Int) : Int := if lastOk n k then lastF k n.toNat + 1 else 0
theorem lastV_no {n k : Int} (h : lastOk n k = false) : lastV n k = 0 := by rw [lastV, h]; rfl
theorem lastV_yes {n : Nat} {k : Int} (h : lastOk (n : Int) k = true) : lastV (n : Int) k = lastF k n + 1 := by rw [lastV, h, Int.toNat_natCast]; rfl



end Go.Proofs.Ytgkciiklgadgkaa

namespace Go.Proofs.Ytgkciiklgadgkaa
open Go.RowKit
set_option linter.unusedVariables false
set_option linter.unusedSimpArgs false

/-- The numbers f, f + b, .. (c of them). -/
def upL (f b : Int) (c : Nat) : List Int := (List.range c).map fun i : Nat => f + (i : Int) * b
theorem upL_succ (f b : Int) (c : Nat) : upL f b (c + 1) = upL f b c ++ [f + (c : Int) * b] := by
  simp [upL, List.range_succ]
theorem upL_len (f b : Int) (c : Nat) : (upL f b c).length = c := by simp [upL]
/-- How many there are up to M. -/
def upC (f b M : Int) : Nat := ((M - f) / b + 1).toNat
theorem upC_lt {f b M : Int} {k : Nat} (hb : 1 ≤ b) : k < upC f b M ↔ f + (k : Int) * b ≤ M := by
  have h : (k : Int) ≤ (M - f) / b ↔ (k : Int) * b ≤ M - f := Int.le_ediv_iff_mul_le (by omega)
  unfold upC
  omega
theorem upC_le {f b M : Int} (hb : 1 ≤ b) (hf : 0 ≤ f) (hM : 0 ≤ M) : (upC f b M : Int) ≤ M + 1 := by
  have h0 : 1 ≤ (M - f) / b ↔ 1 * b ≤ M - f := Int.le_ediv_iff_mul_le (by omega)
  have h1 : (M - f) / b ≤ M := by
    rcases Int.le_total 0 (M - f) with h | h
    · have := Int.ediv_le_self b h
      omega
    · omega
  unfold upC
  omega
def upA (f b M : Int) : List Int := upL f b (upC f b M)
theorem upA_len {f b M : Int} (hb : 1 ≤ b) (hf : 0 ≤ f) (hM : 0 ≤ M) : ((upA f b M).length : Int) ≤ M + 1 := by
  rw [upA, upL_len]
  exact upC_le hb hf hM


/-- The cells from off on hold the numbers. -/
def IsAt (w : World) (b off : Nat) (xs : List Int) : Prop := ∀ k, k < xs.length → w.cell? ⟨b, off + k, none⟩ = some (.int .i64 (ivL xs k))
theorem IsAt.below {w w' : World} {b off : Nat} {xs : List Int} (h : IsAt w b off xs) (hlt : b < w.heap.size) (hb : Below w.heap.size w w') : IsAt w' b off xs :=
  fun k hk => (hb.cell (p := ⟨b, off + k, none⟩) hlt).trans (h k hk)
theorem IsAt.take {w : World} {b off : Nat} {xs : List Int} (h : IsAt w b off xs) (n : Nat) : IsAt w b off (xs.take n) := fun k hk => by
  rw [List.length_take] at hk
  rw [h k (by omega)]
  have : k < n := by omega
  simp [ivL, List.getElem?_take, this]
theorem IsAt.drop {w : World} {b off : Nat} {xs : List Int} (h : IsAt w b off xs) (n : Nat) : IsAt w b (off + n) (xs.drop n) := fun k hk => by
  rw [List.length_drop] at hk
  have := h (n + k) (by omega)
  rw [← Nat.add_assoc] at this
  rw [this]
  simp [ivL]
theorem IsAt.news {w : World} {b off : Nat} {xs : List Int} (h : IsAt w b off xs) : ∀ j u, (xs.map (Value.int .i64))[j]? = some u → w.cell? ((⟨b, off, none⟩ : Addr).add j) = some u := fun j u hu => by
  have hj : j < xs.length := by have := (List.getElem?_eq_some_iff.1 hu).1; simpa using this
  rw [Go.WideShapes.add_plain, h j hj]
  rw [ivL_get xs j hj] at hu
  exact hu
theorem IsAt_of_own {w : World} {B g n c : Nat} {xs : List Int} (h : OwnI w B (.slice (some ⟨g, 0, none⟩) n c) xs) : IsAt w g 0 xs := fun k hk => by
  obtain ⟨g', e, _, _, hc⟩ := h.cell hk
  injection e with e
  injection e with e
  subst e
  simpa [ivL] using hc
theorem one_ints (xs : List Int) : ∀ u ∈ xs.map (Value.int .i64), u.oneCell' = true := fun u hu => by
  obtain ⟨x, _, rfl⟩ := List.mem_map.1 hu
  rfl

/-- append(v, s...), v a row of ints that the call owns, s read elsewhere. -/
theorem wpo_app_ints {o : Oper} {a : Act} {K : Act → World → Prop} {Q : Exit → Act → World → Prop} (w : World) (s x : Operand)
    (ho : o.op = .call { callee := .builtin .append, args := #[s, x], argTypes := #[24, 24] }) (B : Nat) (v : Value) (xs : List Int) (hs : a.eval s = v) (hown : OwnI w B v xs) (b off m c : Nat) (ys : List Int)
    (hx : a.eval x = .slice (some ⟨b, off, none⟩) m c) (hm : m = ys.length) (hnews : IsAt w b off ys) (hl : xs.length + ys.length ≤ 1048576) (hB : B ≤ w.heap.size)
    (h : ∀ v' w', OwnI w' B v' (xs ++ ys) → w.grownBy w' v.ownBlock → K (a.put o.dst v') w') : Oper.wp Try.prog o a w K Q := by
  subst hm
  obtain ⟨i0, hi, hz0, hz1, hz2⟩ := info_parts info_I
  refine wp_append_own w s x 24 ho B 3 i0 _ 1 8 Try.underlying24 hi hz0 hz1 hz2 rfl (by decide) v _ _ hs hown ⟨b, off, none⟩ _ c (ys.map (Value.int .i64)) hx (by simp) hnews.news (one_ints ys) (by unfold maxLen; omega) (by omega) hB ?_
  intro v' w' hown' hg _
  refine h v' w' ?_ hg
  simpa [OwnI, List.map_append] using hown'
theorem wp_app_ints {ops : Array Oper} {rest : List Oper} {o : Oper} {a : Act} {Q : Exit → Act → World → Prop} (w : World) (hgd : o.guard = none) (s x : Operand)
    (ho : o.op = .call { callee := .builtin .append, args := #[s, x], argTypes := #[24, 24] }) (B : Nat) (v : Value) (xs : List Int) (hs : a.eval s = v) (hown : OwnI w B v xs) (b off m c : Nat) (ys : List Int)
    (hx : a.eval x = .slice (some ⟨b, off, none⟩) m c) (hm : m = ys.length) (hnews : IsAt w b off ys) (hl : xs.length + ys.length ≤ 1048576) (hB : B ≤ w.heap.size)
    (h : ∀ v' w', OwnI w' B v' (xs ++ ys) → w.grownBy w' v.ownBlock → wpList Try.prog ops Q rest (a.put o.dst v') w') : wpList Try.prog ops Q (o :: rest) a w :=
  wpList_plain hgd fun _ hK => wpo_app_ints w s x ho B v xs hs hown b off m c ys hx hm hnews hl hB fun v' w' h1 h2 => hK _ _ (h v' w' h1 h2)
/-- The same at a step of a region that draws its order. -/
theorem step_app_ints {ops : Array Oper} {o : Oper} {a : Act} {K : Act → World → Prop} {Q : Exit → Act → World → Prop} {E : Prop} (w : World) (hgd : o.guard = none) (s x : Operand)
    (ho : o.op = .call { callee := .builtin .append, args := #[s, x], argTypes := #[24, 24] }) (B : Nat) (v : Value) (xs : List Int) (hs : a.eval s = v) (hown : OwnI w B v xs) (b off m c : Nat) (ys : List Int)
    (hx : a.eval x = .slice (some ⟨b, off, none⟩) m c) (hm : m = ys.length) (hnews : IsAt w b off ys) (hl : xs.length + ys.length ≤ 1048576) (hB : B ≤ w.heap.size)
    (h : ∀ v' w', OwnI w' B v' (xs ++ ys) → w.grownBy w' v.ownBlock → K (a.put o.dst v') w') :
    if Region.wanted o (yielded ops a.tmps) = true then Oper.wp Try.prog o a w K Q else E := by
  have hw : Region.wanted o (yielded ops a.tmps) = true := by simp [Region.wanted, hgd]
  rw [if_pos hw]
  exact wpo_app_ints w s x ho B v xs hs hown b off m c ys hx hm hnews hl hB h
theorem ownI_empty (w : World) : OwnI (w.alloc (.cells #[] 3)) w.heap.size (.slice (some ⟨w.heap.size, 0, none⟩) 0 0) [] :=
  World.ownsRow_made w #[] 0 (Nat.le_refl _) (by simp [maxLen]) (by simp)


end Go.Proofs.Ytgkciiklgadgkaa

namespace Go.Proofs.Ytgkciiklgadgkaa
open Go.RowKit
set_option linter.unusedVariables false
set_option linter.unusedSimpArgs false

/-- Whether a number is among numbers. -/
def hasF (xs : List Int) (s : Int) : Bool := decide (∃ k, k < xs.length ∧ ivL xs k = s)
theorem hasF_yes {xs : List Int} {s : Int} {k : Nat} (h : k < xs.length) (h2 : ivL xs k = s) : hasF xs s = true := decide_eq_true ⟨k, h, h2⟩
theorem hasF_no {xs : List Int} {s : Int} (h : ∀ k, k < xs.length → ivL xs k ≠ s) : hasF xs s = false := decide_eq_false fun ⟨k, h1, h2⟩ => h k h1 h2
theorem hasF_mem {xs : List Int} {s : Int} : hasF xs s = true ↔ s ∈ xs := by
  rw [hasF, decide_eq_true_eq, List.mem_iff_getElem]
  constructor
  · rintro ⟨k, h, e⟩; exact ⟨k, h, by simpa [ivL, h] using e⟩
  · rintro ⟨k, h, e⟩; exact ⟨k, h, by simpa [ivL, h] using e⟩
/-- How many at the front are less than s. -/
def posF (xs : List Int) (s : Int) : Nat := xs.findIdx fun x => decide (s ≤ x)
theorem posF_le (xs : List Int) (s : Int) : posF xs s ≤ xs.length := List.findIdx_le_length
theorem posF_end {xs : List Int} {s : Int} (h : ∀ j, j < xs.length → ivL xs j < s) : posF xs s = xs.length := by
  rw [posF, List.findIdx_eq_length]
  intro x hx
  obtain ⟨j, hj, e⟩ := List.mem_iff_getElem.1 hx
  have := h j hj
  rw [show ivL xs j = xs[j] by simp [ivL, hj], e] at this
  exact decide_eq_false (by omega)
theorem posF_at {xs : List Int} {s : Int} {k : Nat} (hk : k < xs.length) (h : ∀ j, j < k → ivL xs j < s) (h2 : s ≤ ivL xs k) : posF xs s = k := by
  rw [posF, List.findIdx_eq hk]
  refine ⟨decide_eq_true ?_, fun j hj => decide_eq_false ?_⟩
  · rwa [show ivL xs k = xs[k] by simp [ivL, hk]] at h2
  · have := h j hj
    rw [show ivL xs j = xs[j] by simp [ivL, Nat.lt_trans hj hk]] at this
    omega
/-- s put among numbers in their order, if it is not there. -/
def insF (xs : List Int) (s : Int) : List Int := xs.take (posF xs s) ++ [s] ++ xs.drop (posF xs s)
def putF (xs : List Int) (s : Int) : List Int := if posF xs s < xs.length ∧ ivL xs (posF xs s) = s then xs else insF xs s
theorem putF_same {xs : List Int} {s : Int} {k : Nat} (h : posF xs s = k) (hk : k < xs.length) (h2 : ivL xs k = s) : putF xs s = xs := by
  rw [putF, h, if_pos ⟨hk, h2⟩]
theorem putF_new {xs : List Int} {s : Int} {k : Nat} (h : posF xs s = k) (h2 : ¬ (k < xs.length ∧ ivL xs k = s)) : putF xs s = xs.take k ++ [s] ++ xs.drop k := by
  rw [putF, h, if_neg h2, insF, h]
theorem putF_len (xs : List Int) (s : Int) : (putF xs s).length ≤ xs.length + 1 := by
  rw [putF]
  have := posF_le xs s
  split
  · omega
  · simp [insF]; omega

theorem OwnI.form {w : World} {B : Nat} {v : Value} {xs : List Int} (h : OwnI w B v xs) : (v = .slice none 0 0 ∧ xs = []) ∨ ∃ g c, v = .slice (some ⟨g, 0, none⟩) xs.length c ∧ B ≤ g ∧ g < w.heap.size ∧ xs.length ≤ c := by
  rcases h.2 with ⟨e, h0⟩ | ⟨g, cap, cur, e, h1, h2, hnc, _⟩
  · exact .inl ⟨e, List.eq_nil_of_length_eq_zero h0⟩
  · exact .inr ⟨g, cap, e, h1, (World.ownsRow.lt h g (by rw [e]; rfl)).2, hnc⟩

set_option maxRecDepth 100000 in
set_option maxHeartbeats 400000 in
theorem l1Has_c (w : World) (A : Option Addr) (m c : Nat) (xs : List Int) (hA : Il w A xs) (hm : m = xs.length) (hn : m ≤ 1048576) (s : Int) :
    Calls Try.prog 66 #[.slice A m c, .int .i64 s] w fun en w' => en = .returned (.bool (hasF xs s)) ∧ w = w' := by
  have Hm := Lib.hid hm
  clear hm
  go_enter Try.func66, Try.ntmps66
  go_wp2
  go_loop [9] (fun i => ∃ k : Nat, k ≤ m ∧ i = .int .i64 k ∧ (∀ j, j < k → ivL xs j ≠ s)) (fun i => m - (intOf i).toNat)
  case atStart => exact ⟨0, Nat.zero_le _, rfl, by omega⟩
  case round =>
    obtain ⟨k, hk, rfl, hall⟩ := hrel
    have Hall := Lib.hid hall
    clear hall
    by_cases hlt : k < m
    · have hlt1 : k < xs.length := by have := Hm.out; omega
      obtain ⟨b, off, rfl, hb, hr⟩ := hA (by omega)
      have hc0 := hr k hlt1
      clear hlt1
      obtain ⟨x, hx⟩ : ∃ x, ivL xs k = x := ⟨_, rfl⟩
      rw [hx] at hc0
      by_cases hs : x = s
      · have Hy := Lib.hid (hasF_yes (s := s) (by have := Hm.out; omega) (hx.trans hs))
        have hsb : (x == s) = true := beq_iff_eq.2 hs
        clear hs hx
        go_wp2
        go_ret
        exact ⟨by rw [Hy.out]; rfl, rfl⟩
      · have Hall2 := Lib.hid (fun j (hj : j < k + 1) => show ivL xs j ≠ s by
          rcases Nat.lt_succ_iff_lt_or_eq.1 hj with h | h
          · exact Hall.out j h
          · rw [h, hx]; exact hs)
        have hsb : (x == s) = false := beq_eq_false_iff_ne.2 hs
        clear hs hx
        go_wp2
        go_round
        case rel => exact ⟨k + 1, by omega, by go_num, Hall2.out⟩
        case measure => simp [intOf]; omega
    · have Hy := Lib.hid (hasF_no (xs := xs) (s := s) fun j hj => Hall.out j (by have := Hm.out; omega))
      go_wp2
      go_ret
      exact ⟨by rw [Hy.out]; rfl, rfl⟩

end Go.Proofs.Ytgkciiklgadgkaa

namespace Go.Proofs.Ytgkciiklgadgkaa
open Go.RowKit
set_option linter.unusedVariables false
set_option linter.unusedSimpArgs false

theorem run_app_noneI (w : World) (ty : TypeId) (B : Nat) (v : Value) (xs : List Int) (c : Nat) (hown : OwnI w B v xs) :
    (Builtin.append_ #[24, 24] ty #[v, .slice none 0 c]).run Try.prog w = .ok v w := by
  obtain ⟨i, hi, hz0, hz1, hz2⟩ := info_parts info_I
  rcases hown.2 with ⟨rfl, h0⟩ | ⟨g, cap, cur, rfl, _, _, hnc, _⟩
  · simp [Builtin.append_, run_underlying Try.underlying24, sizeOf, typeInfo, hi, Builtin.lenOf, Builtin.firstCells]
  · simp [Builtin.append_, run_underlying Try.underlying24, sizeOf, typeInfo, hi, Builtin.lenOf, Builtin.firstCells, hnc, storeCells]
/-- append(v, nil...), v a row of ints that the call owns. -/
theorem wp_app_noneI {ops : Array Oper} {rest : List Oper} {o : Oper} {a : Act} {Q : Exit → Act → World → Prop} (w : World) (hgd : o.guard = none) (s x : Operand)
    (ho : o.op = .call { callee := .builtin .append, args := #[s, x], argTypes := #[24, 24] }) (B : Nat) (v : Value) (xs : List Int) (hs : a.eval s = v) (hown : OwnI w B v xs) (c : Nat) (hx : a.eval x = .slice none 0 c)
    (h : wpList Try.prog ops Q rest (a.put o.dst v) w) : wpList Try.prog ops Q (o :: rest) a w := by
  refine wpList_plain hgd fun K hK => ?_
  have hrun := run_app_noneI w o.type B v xs c hown
  unfold Oper.wp
  simp [execOp, ho, resolve, invoke, builtin, hs, hx, hrun, Result.andThen]
  exact hK _ _ h
/-- append(v, y), y and the world first. -/
theorem wp_app_intY {ops : Array Oper} {rest : List Oper} {o : Oper} {a : Act} {Q : Exit → Act → World → Prop} (y : Int) (w : World) (hgd : o.guard = none) (s x : Operand)
    (ho : o.op = .call { callee := .builtin .append, args := #[s, x], argTypes := #[24, 24] }) (B : Nat) (v : Value) (xs : List Int) (hs : a.eval s = v) (hown : OwnI w B v xs)
    (g : Nat) (hx : a.eval x = .slice (some ⟨g, 0, none⟩) 1 1) (hg : g = w.heap.size) (hl : xs.length ≤ 1048576) (hB : B ≤ w.heap.size)
    (h : ∀ v' w', OwnI w' B v' (xs ++ [y]) → Below B w w' → wpList Try.prog ops Q rest (a.put o.dst v') w') : wpList Try.prog ops Q (o :: rest) a (w.alloc (.cells #[.int .i64 y] 3)) := by
  subst hg
  exact wp_app_int w hgd s x ho B v xs hs hown y hx hl hB h


end Go.Proofs.Ytgkciiklgadgkaa
