import Derived.Test.YtihnlacajfakgaaF0
import Derived.Test.YtihnlacajfakgaaE7
import Derived.RangeFuncNested
import Derived.RangeFuncBound
import Derived.RangeFuncCalls
import Derived.RangeFuncLeaves
import Derived.RangeFuncBox
import Derived.Shelf.Abstract
import Derived.OwnWalkIn
import Derived.TacticsInMore
import Derived.LoopNIn
import Derived.LoopIn
namespace Go.Proofs.Ytihnlacajfakgaa
open Go.RowKit Go.Shelf
attribute [local go_sem] Oper.semAt_some
set_option linter.unusedVariables false
set_option linter.unusedSimpArgs false

/-- A step, as a type. -/
abbrev SV := { x : Int // 2 ≤ x ∧ x ≤ 400 }
def svOf (x : Int) : SV := ⟨max 2 (min x 400), by omega⟩
theorem svOf_val {x : Int} (h1 : 2 ≤ x) (h2 : x ≤ 400) : (svOf x).1 = x := by simp only [svOf]; omega
/-- What has come of xs, backwards, when j rounds are over. -/
def backL (xs : List Int) (j : Nat) : List (Nat × SV) := (List.range j).map fun i => (xs.length - 1 - i, svOf (ivL xs (xs.length - 1 - i)))
theorem backL_succ (xs : List Int) (j : Nat) : backL xs (j + 1) = backL xs j ++ [(xs.length - 1 - j, svOf (ivL xs (xs.length - 1 - j)))] := by simp [backL, List.range_succ]
theorem backL_length (xs : List Int) (j : Nat) : (backL xs j).length = j := by simp [backL]

/-- What a round keeps: what lay below n₀, and the box of the slice. -/
def KB (n₀ Bs : Nat) (W W' : World) : Prop := Below n₀ W W' ∧ ∀ v, W.cell? ⟨Bs, 0, none⟩ = some v → W'.cell? ⟨Bs, 0, none⟩ = some v
theorem KB.trans {n₀ Bs : Nat} {A B C : World} (h : KB n₀ Bs A B) (k : KB n₀ Bs B C) : KB n₀ Bs A C := ⟨h.1.trans k.1, fun v hv => k.2 v (h.2 v hv)⟩

set_option maxRecDepth 100000 in
set_option maxHeartbeats 2000000 in
/-- slices.Backward's closure, for every loop body that keeps what lay below n₀. -/
theorem back1_in (F : Fence) (n : Nat) (h8 : F.fn 79) (hro : F.round = none) (hn : 1 ≤ n) (l Bs n₀ m cap : Nat) (A : Option Addr) (xs : List Int) (hm : m = xs.length) (hm12 : m ≤ 12)
    (hA : 0 < xs.length → ∃ b off, A = some ⟨b, off, none⟩ ∧ b < n₀) (hg : goodS xs = true) (J Jx : List (Nat × SV) → World → Prop)
    (hY : ∀ pre x W, J pre W → pre.length < m → YieldAt F (n - 1) Try.prog l #[.int .i64 (x.1 : Int), .int .i64 x.2.1] W fun e W' =>
      (e = .returned (.bool true) ∧ J (pre ++ [x]) W' ∧ KB n₀ Bs W W') ∨ (e = .returned (.bool false) ∧ Jx (pre ++ [x]) W'))
    (W : World) (hBs : W.cell? ⟨Bs, 0, none⟩ = some (.slice A m cap)) (hc : ∀ b off, A = some ⟨b, off, none⟩ → ∀ j, j < m → W.cell? ⟨b, off + j, none⟩ = some (.int .i64 (ivL xs j))) (h0 : J [] W) :
    CallsIn F n Try.prog 79 #[.func (.yield l) #[] #[], .pointer (some ⟨Bs, 0, none⟩)] W fun e W' => (∃ v, e = .returned v) ∧
      ((∃ ys, ys = backL xs m ∧ J ys W') ∨ (∃ pre, (∃ k, k ≤ m ∧ pre = backL xs k) ∧ Jx pre W')) := by
  have Hm := Lib.hid hm
  have Hg := Lib.hid hg
  clear hm hg
  refine callsIn_of_wp Try.func79 rfl h8 ?_ hro
  simp only [Try.ntmps79, List.size_toArray, List.length_cons, List.length_nil, Nat.reduceAdd, Nat.reduceSub, Array.replicate_succ, Array.replicate_zero, List.push_toArray, List.append_toArray, List.nil_append, List.cons_append]
  gi_wp2
  gi_loopw [3] (fun i wr => ∃ k : Nat, k ≤ m ∧ i = .int .i64 ((k : Int) - 1) ∧ J (backL xs (m - k)) wr ∧ KB n₀ Bs W wr)
    (fun i _ => (intOf i + 1).toNat)
  case atStart => exact ⟨m, Nat.le_refl _, rfl, by rw [Nat.sub_self]; exact h0, Below.refl _ _, fun _ h => h⟩
  case round =>
    obtain ⟨k, hk, rfl, hJs, hnx⟩ := hrel
    cases k with
    | zero =>
      rw [Nat.sub_zero] at hJs
      gi_wp2
      go_end0
      exact ⟨⟨_, rfl⟩, .inl ⟨_, rfl, hJs⟩⟩
    | succ k =>
      have hlt1 : k < xs.length := by have := Hm.out; omega
      obtain ⟨b, off, rfl, hb⟩ := hA (by omega)
      have hcx : wr.cell? ⟨b, off + k, none⟩ = some (.int .i64 (ivL xs k)) := (hnx.1.cell (p := ⟨b, off + k, none⟩) hb).trans (hc b off rfl k (by omega))
      have hsx : wr.cell? ⟨Bs, 0, none⟩ = some (.slice (some ⟨b, off, none⟩) m cap) := hnx.2 _ hBs
      obtain ⟨x1, x2⟩ := goodS_at Hg.out hlt1
      obtain ⟨fn, tmps, assign, body, hy, hR⟩ := hY _ (k, svOf (ivL xs k)) wr hJs (by rw [backL_length]; omega)
      dsimp only at hy
      rw [svOf_val x1 x2] at hy
      have e1 : (((k + 1 : Nat) : Int) - 1) = (k : Int) := by omega
      have hkm : (k : Int) < (m : Int) := by omega
      have Hb := Lib.hid (show backL xs (m - (k + 1)) ++ [(k, svOf (ivL xs k))] = backL xs (m - k) by
        have h1 : m - k = m - (k + 1) + 1 := by omega
        have h2 : xs.length - 1 - (m - (k + 1)) = k := by have := Hm.out; omega
        rw [h1, backL_succ, h2])
      gi_wp2
      refine hR.mono ?_
      rintro e W3 (⟨rfl, hJ3, hk3⟩ | ⟨rfl, hJx3⟩)
      · gi_wp2
        go_roundw
        case rel => exact ⟨k, by omega, by simp, by rw [← Hb.out]; exact hJ3, hnx.trans hk3⟩
        case measure => simp [intOf]
      · gi_wp2
        refine bodyPost_ret (results_none rfl _ _ _) rfl ?_
        exact ⟨⟨_, rfl⟩, .inr ⟨_, ⟨m - k, by omega, Hb.out⟩, hJx3⟩⟩

set_option maxHeartbeats 1000000 in
/-- slices.Backward(s): the slice value is boxed; the function value captures the box. -/
theorem backward_in (F : Fence) (n : Nat) (h6 : F.fn 63) (hro : F.round = none) (A : Option Addr) (len cap : Nat) (w : World) :
    CallsIn F n Try.prog 63 #[.slice A len cap] w fun e w' => e = .returned (.func (.func 79) #[] #[.pointer (some ⟨w.heap.size, 0, none⟩)]) ∧ w' = w.alloc (.cells #[.slice A len cap] 22) := by
  refine callsIn_of_wp Try.func63 rfl h6 ?_ hro
  simp only [Try.ntmps63, List.size_toArray, List.length_cons, List.length_nil, Nat.reduceAdd, Nat.reduceSub, Array.replicate_succ, Array.replicate_zero, List.push_toArray, List.append_toArray, List.nil_append, List.cons_append]
  gi_wp2
  go_ret
  exact ⟨rfl, rfl⟩

/-- What it hands back stops as a sequence does: (m - 1, xs[m - 1]), .., (0, xs[0]); or the first k of them. -/
theorem back_stops (F : Fence) (n : Nat) (h8 : F.fn 79) (hro : F.round = none) (hn : 1 ≤ n) (n₀ Bs m cap : Nat) (A : Option Addr) (xs : List Int) (w : World) (hm : m = xs.length) (hm12 : m ≤ 12) (hg : goodS xs = true)
    (hn₀ : n₀ ≤ w.heap.size) (hBs : Bs < w.heap.size) (hc : w.cell? ⟨Bs, 0, none⟩ = some (.slice A m cap)) (hI : 0 < xs.length → ∃ b off, A = some ⟨b, off, none⟩ ∧ b < n₀ ∧ IsAt w b off xs) :
    SeqStopsK F n Try.prog 79 #[.pointer (some ⟨Bs, 0, none⟩)] (fun x : Nat × SV => #[Value.int .i64 (x.1 : Int), Value.int .i64 x.2.1]) (KB n₀ Bs) (fun ys => ys = backL xs m)
      (fun pre => ∃ k, k ≤ m ∧ pre = backL xs k) m w := fun l J Jx W hW _ _ hY h0 => by
  have hc' := (hW.cell (p := ⟨Bs, 0, none⟩) hBs).trans hc
  have hA : 0 < xs.length → ∃ b off, A = some ⟨b, off, none⟩ ∧ b < n₀ := fun h => by
    obtain ⟨b, off, e, hb, _⟩ := hI h
    exact ⟨b, off, e, hb⟩
  refine back1_in F n h8 hro hn l Bs n₀ m cap A xs hm hm12 hA hg J Jx hY W hc' ?_ h0
  intro b off e j hj
  obtain ⟨b', off', e', hb', hr'⟩ := hI (by omega)
  rw [e] at e'
  injection e' with e'
  injection e' with e1 e2 _
  subst e1 e2
  exact (hW.cell (p := ⟨b, off + j, none⟩) (Nat.lt_of_lt_of_le hb' hn₀)).trans (hr' j (by omega))

/-- The place behind the steps that have come. -/
def placeF (r : Int) (pre : List (Nat × SV)) : Int := pre.foldl (fun q x => q + (q - 1) / (x.2.1 - 1)) (r + 1)
theorem placeF_snoc (r : Int) (pre : List (Nat × SV)) (x : Nat × SV) : placeF r (pre ++ [x]) = placeF r pre + (placeF r pre - 1) / (x.2.1 - 1) := by simp [placeF]
theorem placeF_bound (r : Int) (h1 : 0 ≤ r) (pre : List (Nat × SV)) : 1 ≤ placeF r pre ∧ placeF r pre ≤ (r + 1) * (2 ^ pre.length : Nat) := by
  generalize hl : pre.length = d
  induction d generalizing pre with
  | zero =>
    rw [List.length_eq_zero_iff.1 hl]
    simp [placeF]
    omega
  | succ d ih =>
    obtain ⟨ini, last, rfl⟩ : ∃ ini last, pre = ini ++ [last] := ⟨pre.dropLast, pre.getLast (by intro e; rw [e] at hl; simp at hl), (List.dropLast_concat_getLast _).symm⟩
    have hl2 : ini.length = d := by simpa using hl
    obtain ⟨a, b⟩ := ih ini hl2
    have hx := last.2.2
    have hs := rise_step (placeF r ini) (last.2.1 - 1) a (by omega)
    rw [placeF_snoc]
    have e : (r + 1) * ((2 ^ (d + 1) : Nat) : Int) = (r + 1) * ((2 ^ d : Nat) : Int) * 2 := by rw [Nat.pow_succ, Int.natCast_mul, ← Int.mul_assoc]; rfl
    rw [e]
    omega
theorem placeF_le (r : Int) (h1 : 0 ≤ r) (h2 : r ≤ 1000) (pre : List (Nat × SV)) (hl : pre.length ≤ 12) : 1 ≤ placeF r pre ∧ placeF r pre ≤ 4100096 := by
  obtain ⟨a, b⟩ := placeF_bound r h1 pre
  have hp : (2 ^ pre.length : Nat) ≤ 2 ^ 12 := Nat.pow_le_pow_right (by omega) hl
  have hp2 : ((2 ^ pre.length : Nat) : Int) ≤ 4096 := by omega
  have h3 : (r + 1) * ((2 ^ pre.length : Nat) : Int) ≤ 1001 * 4096 := Int.mul_le_mul (by omega) hp2 (Int.natCast_nonneg _) (by omega)
  omega
theorem placeF_back (xs : List Int) (hg : goodS xs = true) (r : Int) : ∀ j, j ≤ xs.length → placeF r (backL xs j) = rankI (xs.drop (xs.length - j)) (r + 1)
  | 0, _ => by rw [Nat.sub_zero, rank_end]; rfl
  | j + 1, h => by
    have hk : xs.length - (j + 1) < xs.length := by omega
    have e1 : xs.length - 1 - j = xs.length - (j + 1) := by omega
    have e2 : xs.length - (j + 1) + 1 = xs.length - j := by omega
    obtain ⟨x1, x2⟩ := goodS_at hg hk
    rw [backL_succ, placeF_snoc, placeF_back xs hg r j (by omega), rank_step hk, e1, e2]
    simp only [svOf_val x1 x2]
theorem placeF_all {xs : List Int} (hg : goodS xs = true) (r : Int) : placeF r (backL xs xs.length) = rankI xs (r + 1) := by
  rw [placeF_back xs hg r _ (Nat.le_refl _), Nat.sub_self, List.drop_zero]

end Go.Proofs.Ytihnlacajfakgaa
