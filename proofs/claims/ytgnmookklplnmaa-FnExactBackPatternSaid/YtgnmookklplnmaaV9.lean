import Derived.Test.YtgnmookklplnmaaV2
import Derived.Test.YtgnmookklplnmaaT9
import Derived.Maps.AppendAt
import Derived.RangeFuncNested
import Derived.RangeFuncBound
import Derived.RangeFuncCalls
import Derived.RangeFuncLeaves
import Derived.RangeFuncBox
import Derived.Shelf.Abstract
import Derived.OwnWalkIn
import Derived.TacticsInMore
import Derived.LoopNIn
import Derived.LoopIn
namespace Go.Proofs.Ytgnmookklplnmaa
open Go.RowKit Go.Shelf
attribute [local go_sem] Oper.semAt_some
set_option linter.unusedVariables false
set_option linter.unusedSimpArgs false

/-- An offset, as a type. -/
abbrev OV := { x : Int // 0 ≤ x ∧ x ≤ 60 }
def ovOf (x : Int) : OV := ⟨max 0 (min x 60), by omega⟩
theorem ovOf_val {x : Int} (h1 : 0 ≤ x) (h2 : x ≤ 60) : (ovOf x).1 = x := by simp only [ovOf]; omega
/-- What has come of xs, backwards, when j rounds are over. -/
def backO (xs : List Int) (j : Nat) : List (Nat × OV) := (List.range j).map fun i => (xs.length - 1 - i, ovOf (ivL xs (xs.length - 1 - i)))
theorem backO_succ (xs : List Int) (j : Nat) : backO xs (j + 1) = backO xs j ++ [(xs.length - 1 - j, ovOf (ivL xs (xs.length - 1 - j)))] := by simp [backO, List.range_succ]
theorem backO_length (xs : List Int) (j : Nat) : (backO xs j).length = j := by simp [backO]

/-- What a round keeps: what lay below n₀, and the box of the slice. -/
def KB (n₀ Bs : Nat) (W W' : World) : Prop := Below n₀ W W' ∧ ∀ v, W.cell? ⟨Bs, 0, none⟩ = some v → W'.cell? ⟨Bs, 0, none⟩ = some v
theorem KB.trans {n₀ Bs : Nat} {A B C : World} (h : KB n₀ Bs A B) (k : KB n₀ Bs B C) : KB n₀ Bs A C := ⟨h.1.trans k.1, fun v hv => k.2 v (h.2 v hv)⟩

set_option maxRecDepth 100000 in
set_option maxHeartbeats 2000000 in
/-- slices.Backward's closure, for every loop body that keeps what lay below n₀. -/
theorem obk1_in (F : Fence) (n : Nat) (h8 : F.fn 111) (hro : F.round = none) (hn : 1 ≤ n) (l Bs n₀ m cap : Nat) (A : Option Addr) (xs : List Int) (hm : m = xs.length) (hm12 : m ≤ 12)
    (hA : 0 < xs.length → ∃ b off, A = some ⟨b, off, none⟩ ∧ b < n₀) (hg : goodP xs = true) (J Jx : List (Nat × OV) → World → Prop)
    (hY : ∀ pre x W, J pre W → pre.length < m → YieldAt F (n - 1) Try.prog l #[.int .i64 (x.1 : Int), .int .i64 x.2.1] W fun e W' =>
      (e = .returned (.bool true) ∧ J (pre ++ [x]) W' ∧ KB n₀ Bs W W') ∨ (e = .returned (.bool false) ∧ Jx (pre ++ [x]) W'))
    (W : World) (hBs : W.cell? ⟨Bs, 0, none⟩ = some (.slice A m cap)) (hc : ∀ b off, A = some ⟨b, off, none⟩ → ∀ j, j < m → W.cell? ⟨b, off + j, none⟩ = some (.int .i64 (ivL xs j))) (h0 : J [] W) :
    CallsIn F n Try.prog 111 #[.func (.yield l) #[] #[], .pointer (some ⟨Bs, 0, none⟩)] W fun e W' => (∃ v, e = .returned v) ∧
      ((∃ ys, ys = backO xs m ∧ J ys W') ∨ (∃ pre, (∃ k, k ≤ m ∧ pre = backO xs k) ∧ Jx pre W')) := by
  have Hm := Lib.hid hm
  have Hg := Lib.hid hg
  clear hm hg
  refine callsIn_of_wp Try.func111 rfl h8 ?_ hro
  simp only [Try.ntmps111, List.size_toArray, List.length_cons, List.length_nil, Nat.reduceAdd, Nat.reduceSub, Array.replicate_succ, Array.replicate_zero, List.push_toArray, List.append_toArray, List.nil_append, List.cons_append]
  gi_wp2
  gi_loopw [3] (fun i wr => ∃ k : Nat, k ≤ m ∧ i = .int .i64 ((k : Int) - 1) ∧ J (backO xs (m - k)) wr ∧ KB n₀ Bs W wr)
    (fun i _ => (intOf i + 1).toNat)
  case atStart => exact ⟨m, Nat.le_refl _, rfl, by rw [Nat.sub_self]; exact h0, Below.refl _ _, fun _ h => h⟩
  case round =>
    obtain ⟨k, hk, rfl, hJs, hnx⟩ := hrel
    cases k with
    | zero =>
      rw [Nat.sub_zero] at hJs
      gi_wp2
      go_end0
      exact ⟨⟨_, rfl⟩, .inl ⟨_, rfl, hJs⟩⟩
    | succ k =>
      have hlt1 : k < xs.length := by have := Hm.out; omega
      obtain ⟨b, off, rfl, hb⟩ := hA (by omega)
      have hcx : wr.cell? ⟨b, off + k, none⟩ = some (.int .i64 (ivL xs k)) := (hnx.1.cell (p := ⟨b, off + k, none⟩) hb).trans (hc b off rfl k (by omega))
      have hsx : wr.cell? ⟨Bs, 0, none⟩ = some (.slice (some ⟨b, off, none⟩) m cap) := hnx.2 _ hBs
      obtain ⟨x1, x2⟩ := goodP_at Hg.out hlt1
      obtain ⟨fn, tmps, assign, body, hy, hR⟩ := hY _ (k, ovOf (ivL xs k)) wr hJs (by rw [backO_length]; omega)
      dsimp only at hy
      rw [ovOf_val x1 x2] at hy
      have e1 : (((k + 1 : Nat) : Int) - 1) = (k : Int) := by omega
      have hkm : (k : Int) < (m : Int) := by omega
      have Hb := Lib.hid (show backO xs (m - (k + 1)) ++ [(k, ovOf (ivL xs k))] = backO xs (m - k) by
        have h1 : m - k = m - (k + 1) + 1 := by omega
        have h2 : xs.length - 1 - (m - (k + 1)) = k := by have := Hm.out; omega
        rw [h1, backO_succ, h2])
      gi_wp2
      refine hR.mono ?_
      rintro e W3 (⟨rfl, hJ3, hk3⟩ | ⟨rfl, hJx3⟩)
      · gi_wp2
        go_roundw
        case rel => exact ⟨k, by omega, by simp, by rw [← Hb.out]; exact hJ3, hnx.trans hk3⟩
        case measure => simp [intOf]
      · gi_wp2
        refine bodyPost_ret (results_none rfl _ _ _) rfl ?_
        exact ⟨⟨_, rfl⟩, .inr ⟨_, ⟨m - k, by omega, Hb.out⟩, hJx3⟩⟩

set_option maxHeartbeats 1000000 in
/-- slices.Backward(s): the slice value is boxed; the function value captures the box. -/
theorem obackward_in (F : Fence) (n : Nat) (h6 : F.fn 76) (hro : F.round = none) (A : Option Addr) (len cap : Nat) (w : World) :
    CallsIn F n Try.prog 76 #[.slice A len cap] w fun e w' => e = .returned (.func (.func 111) #[] #[.pointer (some ⟨w.heap.size, 0, none⟩)]) ∧ w' = w.alloc (.cells #[.slice A len cap] 22) := by
  refine callsIn_of_wp Try.func76 rfl h6 ?_ hro
  simp only [Try.ntmps76, List.size_toArray, List.length_cons, List.length_nil, Nat.reduceAdd, Nat.reduceSub, Array.replicate_succ, Array.replicate_zero, List.push_toArray, List.append_toArray, List.nil_append, List.cons_append]
  gi_wp2
  go_ret
  exact ⟨rfl, rfl⟩

/-- What it hands back stops as a sequence does: (m - 1, xs[m - 1]), .., (0, xs[0]); or the first k of them. -/
theorem oback_stops (F : Fence) (n : Nat) (h8 : F.fn 111) (hro : F.round = none) (hn : 1 ≤ n) (n₀ Bs m cap : Nat) (A : Option Addr) (xs : List Int) (w : World) (hm : m = xs.length) (hm12 : m ≤ 12) (hg : goodP xs = true)
    (hn₀ : n₀ ≤ w.heap.size) (hBs : Bs < w.heap.size) (hc : w.cell? ⟨Bs, 0, none⟩ = some (.slice A m cap)) (hI : 0 < xs.length → ∃ b off, A = some ⟨b, off, none⟩ ∧ b < n₀ ∧ IsAt w b off xs) :
    SeqStopsK F n Try.prog 111 #[.pointer (some ⟨Bs, 0, none⟩)] (fun x : Nat × OV => #[Value.int .i64 (x.1 : Int), Value.int .i64 x.2.1]) (KB n₀ Bs) (fun ys => ys = backO xs m)
      (fun pre => ∃ k, k ≤ m ∧ pre = backO xs k) m w := fun l J Jx W hW _ _ hY h0 => by
  have hc' := (hW.cell (p := ⟨Bs, 0, none⟩) hBs).trans hc
  have hA : 0 < xs.length → ∃ b off, A = some ⟨b, off, none⟩ ∧ b < n₀ := fun h => by
    obtain ⟨b, off, e, hb, _⟩ := hI h
    exact ⟨b, off, e, hb⟩
  refine obk1_in F n h8 hro hn l Bs n₀ m cap A xs hm hm12 hA hg J Jx hY W hc' ?_ h0
  intro b off e j hj
  obtain ⟨b', off', e', hb', hr'⟩ := hI (by omega)
  rw [e] at e'
  injection e' with e'
  injection e' with e1 e2 _
  subst e1 e2
  exact (hW.cell (p := ⟨b, off + j, none⟩) (Nat.lt_of_lt_of_le hb' hn₀)).trans (hr' j (by omega))


/-- A box that no loop touches is its own. -/
theorem boxed_own {β : Type} (B : Nat) (t : TypeId) (u : Value) : Own (fun (_ : β) W => Boxed W B t u) := by
  rintro s X Y row hv hg hrow
  refine hv.kept hg (fun e' => ?_)
  obtain ⟨o, ho, hc⟩ := hrow B e'.symm
  rw [show X.heap[B]? = _ from hv] at ho
  cases ho
  cases hc

/-- What has been told back. -/
def bkO (W : Int) (pre : List (Nat × OV)) : List Int := pre.map fun x => W - x.2.1
theorem bkO_snoc (W : Int) (pre : List (Nat × OV)) (x : Nat × OV) : bkO W (pre ++ [x]) = bkO W pre ++ [W - x.2.1] := by simp [bkO]
theorem bkO_len (W : Int) (pre : List (Nat × OV)) : (bkO W pre).length = pre.length := by simp [bkO]
theorem bkO_all {xs : List Int} (hg : goodP xs = true) : bkO (ivL xs (xs.length - 1)) (backO xs xs.length) = bkL xs xs.length := by
  rw [bkO, backO, bkL, List.map_map]
  apply List.map_congr_left
  intro i hi
  have hi2 := List.mem_range.1 hi
  obtain ⟨x1, x2⟩ := goodP_at hg (k := xs.length - 1 - i) (by omega)
  show _ - (ovOf _).1 = _
  rw [ovOf_val x1 x2]


/-- append onto a row of the call's own, as one operation of a drawn region, inside a fence. -/
theorem opIn_append_own {F : Fence} {n : Nat} {P : Program} (w : World) {o : Oper} {a : Act} {K : Act → World → Prop} {Q : Exit → Act → World → Prop}
    (s x : Operand) (t : TypeId) (hop : o.op = Op.call { callee := Callee.builtin Builtin.append, args := #[s, x], argTypes := #[t, t] })
    (base : Nat) (e : TypeId) (i : TypeInfo) (z : Value) (size bytes : Nat) (h1 : P.underlying t = some (.slice e)) (h2 : P.info? e = some i) (h3 : i.zero = some z) (h4 : i.size = size) (h5 : i.bytes = bytes) (h6 : z.cells.size = size) (h7 : 0 < size)
    (v : Value) (k : Nat) (xs : List Value) (hs : a.eval s = v) (hown : w.ownsRow base e size v k xs) (ad : Addr) (m c : Nat) (news : List Value) (hx : a.eval x = .slice (some ad) m c) (hn : news.length = m * size)
    (hc : ∀ j u, news[j]? = some u → w.cell? (ad.add j) = some u) (h1c : ∀ u ∈ news, u.oneCell' = true) (b1 : k + m ≤ maxLen) (b2 : (k + m) * bytes ≤ 140737488355328) (b3 : base ≤ w.heap.size)
    (hK : ∀ v' w', w'.ownsRow base e size v' (k + m) (xs ++ news) → w.grownBy w' v.ownBlock → K (a.put o.dst v') w') :
    o.wpIn F n P a w K Q := by
  obtain ⟨v', w', hrun, r1, r2, r3⟩ := run_append_own (P := P) w base t o.type e i z size bytes h1 h2 h3 h4 h5 h6 h7 v k xs hown ad m c news hn hc h1c b1 b2 b3
  unfold Oper.wpIn
  refine ⟨?_, ?_⟩
  · simp [Oper.about, hop, resolve, Target.leads, Sem.run_pure]
  · rw [Oper.semAt_plain F _ _ (by rw [hop]; intro c hc'; cases hc')]
    simp [execOp, hop, resolve, invoke, builtin, hs, hx, hrun, Result.andThen]
    exact hK v' w' r1 r2

theorem KeepsOthers.ofDrew {W W' : World} (h : KeepsOthers W.drew W') : KeepsOthers W W' := (KeepsOthers.drew W).trans h

set_option maxRecDepth 100000 in
set_option maxHeartbeats 4000000 in
theorem backPattern_in (w : World) (A : Option Addr) (m c : Nat) (xs : List Int) (hA : Il w A xs) (hm : m = xs.length) (hn : m ≤ 1048576) (hg : goodP xs = true) :
    CallsIn Fence.wide 3 Try.prog 41 #[.slice A m c] w fun en w' => (∃ v, en = .returned (.tuple #[v, .bool true]) ∧ OwnI w' w.heap.size v (bkL xs xs.length)) ∧ Below w.heap.size w w' := by
  have Hm := Lib.hid hm
  have Hg := Lib.hid hg
  clear hm
  obtain ⟨X, hX⟩ : ∃ X, ivL xs (xs.length - 1) = X := ⟨_, rfl⟩
  have HX := Lib.hid hX
  have hm8 : m ≤ 8 := by rw [Hm.out]; exact (goodP_parts hg).2.1
  have hm1 : 1 ≤ m := by rw [Hm.out]; exact (goodP_parts hg).1
  have hX6 : 0 ≤ X ∧ X ≤ 60 := by rw [← hX]; exact goodP_at hg (by have := Hm.out; omega)
  clear hX
  have hB1 : Below w.heap.size w (w.alloc (.cells #[.slice A m c] 22)) := (Below.refl _ w).alloc (Nat.le_refl _) _
  have HA1 := Lib.hid (hA.below hB1)
  refine callsIn_of_wp_marks Try.func41 rfl trivial ?_ rfl
  simp only [Try.ntmps41, List.size_toArray, List.length_cons, List.length_nil, Nat.reduceAdd, Nat.reduceSub, Array.replicate_succ, Array.replicate_zero, List.push_toArray, List.append_toArray, List.nil_append, List.cons_append]
  gi_wp2_with (first | (refine ⟨trivial, ?_⟩; gi_at_call 21; refine (callsIn_wide.2 (implIsPattern_c _ _ _ _ xs HA1.out Hm.out hn)).mono ?_; rw [hg]; rintro e w1 ⟨rfl, b1⟩; have hs1 : w.heap.size < w1.heap.size := Nat.lt_of_lt_of_le (by simp) b1.size; have hc1 : w1.cell? ⟨w.heap.size, 0, none⟩ = some (.slice A m c) := (b1.cell (p := ⟨w.heap.size, 0, none⟩) (by simp)).trans (Boxed.new w 22 (.slice A m c)).cell; have hc2 : (w1.alloc (.cells #[.slice none 0 0] 22)).cell? ⟨w.heap.size, 0, none⟩ = some (.slice A m c) := (World.cell?_alloc_past _ _ _ hs1).trans hc1) | (refine ⟨trivial, ?_⟩; gi_at_call 76; refine (obackward_in Fence.wide _ trivial rfl _ _ _ _).mono ?_; rintro e w' ⟨rfl, rfl⟩))
  have hb1 := hB1.trans (b1.mono hB1.size)
  have bR := Boxed.new w1 22 (.slice none 0 0)
  have bN := Boxed.new (w1.alloc (.cells #[.slice none 0 0] 22)) 22 (.slice A m c)
  rw [World.size_alloc] at bN
  have hB0 : Below w1.heap.size w1 ((w1.alloc (.cells #[.slice none 0 0] 22)).alloc (.cells #[.slice A m c] 22)) := ((Below.refl _ w1).alloc (Nat.le_refl _) _).alloc (by simp) _
  have hIs : 0 < xs.length → ∃ b off, A = some ⟨b, off, none⟩ ∧ b < w1.heap.size ∧ IsAt ((w1.alloc (.cells #[.slice none 0 0] 22)).alloc (.cells #[.slice A m c] 22)) b off xs := fun h => by
    obtain ⟨b, off, e, hb, hr⟩ := hA h
    exact ⟨b, off, e, Nat.lt_of_lt_of_le hb hb1.size, IsAt.below (IsAt.below hr hb hb1) (Nat.lt_of_lt_of_le hb hb1.size) hB0⟩
  have HAw := Lib.hid (fun W (hW : Below w1.heap.size w1 W) => Il.below (hA.below hb1) hW)
  obtain ⟨i0, hi, hz0, hz1, hz2⟩ := info_parts info_I
  refine wpIn_rangeFunc_ownG rfl (by omega) (gf := 111) (lb := #[.pointer (some ⟨w1.heap.size + 1, 0, none⟩)]) rfl trivial (_root_.Go.Proofs.enters_of Try.func111 (by kernel_rfl) rfl)
    (oback_stops Fence.wide _ trivial rfl (by omega) w1.heap.size (w1.heap.size + 1) m c A xs _ Hm.out (by omega) Hg.out (by simp; omega) (by simp) bN.cell hIs)
    KB.trans (fun W l o o' hl ho hc hw => ⟨belowK_b (by simp; omega) W l o o' hl ho hc hw, fun v hv => cell_kept hv (grownBy_putObj' _ l o') (fun q e => by cases e; exact ⟨_, ho, hc⟩)⟩) (Below.refl _ _) (fun _ => rfl)
    (fun pre W => ((∃ v, Boxed W w1.heap.size 22 v ∧ W.ownsRow w1.heap.size 3 1 v pre.length ((bkO X pre).map (Value.int .i64)) ∧ True) ∧ Boxed W (w1.heap.size + 1) 22 (.slice A m c)) ∧ Below w1.heap.size w1 W)
    (fun _ _ _ => False)
    (OwnFrom.and (OwnFrom.and (Own.from (holdsRow_own w1.heap.size w1.heap.size 22 3 1 (fun pre : List (Nat × OV) => pre.length) (fun pre => (bkO X pre).map (Value.int .i64)) (fun _ _ => True)) _) (Own.from (boxed_own (w1.heap.size + 1) 22 (.slice A m c)) _)) (ownFrom_below (Nat.le_refl _) (by simp; omega)))
    (fun _ _ _ _ _ hs _ _ => hs)
    ⟨⟨⟨_, bR.alloc _, World.ownsRow_nil _ _ _ _, trivial⟩, bN⟩, hB0⟩
    (fun x => { tmps := #[.slice A m c, .pointer (some ⟨w.heap.size, 0, none⟩), .slice none 0 0, .bool false, .pointer (some ⟨w1.heap.size, 0, none⟩), undef, .int .i64 x.2.1, .slice A m c, .bool true, .bool false, .slice A m c, .func (.func 111) #[] #[.pointer (some ⟨w1.heap.size + 1, 0, none⟩)], .int .i64 (x.1 : Int), .int .i64 x.2.1, undef, undef, undef, undef, undef, undef, undef, undef], defers := [] }) ?assign ?body ?done ?stop
  case assign =>
    intro l x W K hK
    gi_wp2
    exact hK
  case body =>
    rintro l pre x W ⟨⟨⟨v, hv, hrow, -⟩, hbx⟩, hB⟩ hlen
    obtain ⟨x1, x2⟩ := x.2.2
    have hcv := hv.cell
    have hct := (hB.cell (p := ⟨w.heap.size, 0, none⟩) hs1).trans hc1
    have hv0 : Boxed W.drew w1.heap.size 22 v := hv
    have hbd : Below w1.heap.size W W.drew := below_drewN (Below.refl _ W) 1
    have hB0 : Below w1.heap.size w1 W.drew := hB.trans hbd
    have hcv0 := hv0.cell
    have hct0 : W.drew.cell? ⟨w.heap.size, 0, none⟩ = some (.slice A m c) := hct
    have HW := Lib.hid (HAw.out W.drew hB0)
    have hlt0 : w1.heap.size < W.drew.heap.size := hv0.lt
    have hb63 : pre.length + 1 ≤ maxLen := by simp only [maxLen]; omega
    have hb47 : (pre.length + 1) * 8 ≤ 140737488355328 := by omega
    have hbz : w1.heap.size ≤ (W.alloc (.cells #[.int .i64 (X - x.2.1)] 3)).drew.heap.size := Nat.le_trans hB.size (by simp)
    have hwx : IntKind.i64.wrap (ivL xs (m - 1) - x.2.1) = X - x.2.1 := by
      rw [Hm.out, HX.out]
      exact IntWalk.i64_in _ (by omega)
    have hca : (W.alloc (.cells #[.int .i64 (X - x.2.1)] 3)).cell? ⟨w1.heap.size, 0, none⟩ = some v := (hv.alloc _).cell
    have hcad : (W.alloc (.cells #[.int .i64 (X - x.2.1)] 3)).drew.cell? ⟨w1.heap.size, 0, none⟩ = some v := (hv.alloc _).cell
    clear hcv hct
    gi_wp2
    refine wpIn_region_any (by kernel_rfl) ?_
    try (change wpAnyIn _ _ _ _ _ _ _ _ _ (World.drew _))
    refine wpAnyIn_ready (rs := [0, 1, 3]) (by kernel_rfl) (by simp) ?_
    refine AllReadyIn.cons rfl (fun K hK => ?_) ?_
    · go_simp
      refine hK _ _ ?_
      clear hK K
      refine wpAnyIn_ready (rs := [1, 3]) (by kernel_rfl) (by simp) ?_
      refine AllReadyIn.cons rfl (fun K hK => ?_) ?_
      · go_simp
        refine hK _ _ ?_
        clear hK K
        refine wpAnyIn_ready (rs := [2, 3]) (by kernel_rfl) (by simp) ?_
        refine AllReadyIn.cons rfl (fun K hK => ?_) ?_
        · go_simp
          refine ⟨trivial, ?_⟩
          gi_at_call 62
          refine (CallsIn.inRound l (callsIn_wide.2 (widthOf_c _ _ _ _ xs HW.out Hm.out hm1 hn))).mono ?_
          rintro e w3 ⟨rfl, rfl⟩
          go_simp
          refine hK _ _ ?_
          clear hK K
          refine wpAnyIn_ready (rs := [3]) (by kernel_rfl) (by simp) ?_
          refine AllReadyIn.cons rfl (fun K hK => ?_) ?_
          · go_simp
            refine hK _ _ ?_
            clear hK K
            refine wpAnyIn_ready (rs := [4]) (by kernel_rfl) (by simp) ?_
            refine AllReadyIn.cons rfl (fun K hK => ?_) ?_
            · go_simp
              refine hK _ _ ?_
              clear hK K
              refine wpAnyIn_ready (rs := [5]) (by kernel_rfl) (by simp) ?_
              refine AllReadyIn.cons rfl (fun K hK => ?_) ?_
              · go_simp
                refine hK _ _ ?_
                clear hK K
                refine wpAnyIn_ready (rs := [6]) (by kernel_rfl) (by simp) ?_
                refine AllReadyIn.cons rfl (fun K hK => ?_) ?_
                · rw [if_pos (show Region.wanted _ _ = true from rfl)]
                  refine opIn_append_own _ _ _ 22 rfl w1.heap.size 3 i0 (.int .i64 0) 1 8 Try.underlying22 hi hz0 hz1 hz2 rfl (by decide) _ _ _ rfl (hrow.alloc (.cells #[.int .i64 (X - x.2.1)] 3)) ⟨W.heap.size, 0, none⟩ 1 1 [.int .i64 (X - x.2.1)] rfl rfl (fun j u h => cell_one_new W (.int .i64 (X - x.2.1)) 3 j u h) (by simp [Value.oneCell']) hb63 hb47 hbz ?_
                  intro v' w4 hown' hgrow
                  obtain ⟨g', cap', rfl⟩ := ownsRow_succ hown'
                  obtain ⟨hv1, hv2, hr2, hk2, hb2⟩ := hv.appended (tmp := .cells #[.int .i64 (X - x.2.1)] 3) (by decide) hrow hB.size (Nat.le_refl _) hown' ⟨hgrow.os, hgrow.tape, hgrow.output, hgrow.size, hgrow.block⟩
                  have hc4 := hv1.cell
                  have hf4 := hv1.frozen
                  go_simp
                  refine hK _ _ ?_
                  clear hK K
                  refine wpAnyIn_ready (rs := [7]) (by kernel_rfl) (by simp) ?_
                  refine AllReadyIn.cons rfl (fun K hK => ?_) ?_
                  · go_simp
                    refine hK _ _ ?_
                    clear hK K
                    refine wpAnyIn_done (by kernel_rfl) ?_ _
                    have hr3 : (w4.setCell ⟨w1.heap.size, 0, none⟩ (.slice (some ⟨g', 0, none⟩) (pre.length + 1) cap')).ownsRow w1.heap.size 3 1 (.slice (some ⟨g', 0, none⟩) (pre.length + 1) cap') (pre ++ [x]).length ((bkO X (pre ++ [x])).map (Value.int .i64)) := by
                      rw [bkO_snoc, List.map_append, List.length_append]
                      exact hr2
                    have hbx2 : Boxed (w4.setCell ⟨w1.heap.size, 0, none⟩ (.slice (some ⟨g', 0, none⟩) (pre.length + 1) cap')) (w1.heap.size + 1) 22 (.slice A m c) := ((hbx.alloc (.cells #[.int .i64 (X - x.2.1)] 3)).kept (⟨hgrow.os, hgrow.tape, hgrow.output, hgrow.size, hgrow.block⟩ : (W.alloc (.cells #[.int .i64 (X - x.2.1)] 3)).grownBy w4 v.ownBlock) (hbx.not_row (by decide) hrow)).kept (grownBy_setCell' w4 w1.heap.size _) (by simp)
                    exact ⟨hk2.from _, ⟨hb2, fun u hu => hbx2.cell.trans (hbx.cell.symm.trans hu)⟩, ⟨⟨_, hv2, hr3, trivial⟩, hbx2⟩, hB.trans hb2⟩
                  exact AllReadyIn.nil
                exact AllReadyIn.nil
              exact AllReadyIn.nil
            exact AllReadyIn.nil
          exact AllReadyIn.nil
        refine AllReadyIn.cons rfl (fun K hK => ?_) ?_
        · go_simp
          refine hK _ _ ?_
          clear hK K
          refine wpAnyIn_ready (rs := [2]) (by kernel_rfl) (by simp) ?_
          refine AllReadyIn.cons rfl (fun K hK => ?_) ?_
          · go_simp
            refine ⟨trivial, ?_⟩
            gi_at_call 62
            refine (CallsIn.inRound l (callsIn_wide.2 (widthOf_c _ _ _ _ xs HW.out Hm.out hm1 hn))).mono ?_
            rintro e w3 ⟨rfl, rfl⟩
            go_simp
            refine hK _ _ ?_
            clear hK K
            refine wpAnyIn_ready (rs := [4]) (by kernel_rfl) (by simp) ?_
            refine AllReadyIn.cons rfl (fun K hK => ?_) ?_
            · go_simp
              refine hK _ _ ?_
              clear hK K
              refine wpAnyIn_ready (rs := [5]) (by kernel_rfl) (by simp) ?_
              refine AllReadyIn.cons rfl (fun K hK => ?_) ?_
              · go_simp
                refine hK _ _ ?_
                clear hK K
                refine wpAnyIn_ready (rs := [6]) (by kernel_rfl) (by simp) ?_
                refine AllReadyIn.cons rfl (fun K hK => ?_) ?_
                · rw [if_pos (show Region.wanted _ _ = true from rfl)]
                  refine opIn_append_own _ _ _ 22 rfl w1.heap.size 3 i0 (.int .i64 0) 1 8 Try.underlying22 hi hz0 hz1 hz2 rfl (by decide) _ _ _ rfl (hrow.alloc (.cells #[.int .i64 (X - x.2.1)] 3)) ⟨W.heap.size, 0, none⟩ 1 1 [.int .i64 (X - x.2.1)] rfl rfl (fun j u h => cell_one_new W (.int .i64 (X - x.2.1)) 3 j u h) (by simp [Value.oneCell']) hb63 hb47 hbz ?_
                  intro v' w4 hown' hgrow
                  obtain ⟨g', cap', rfl⟩ := ownsRow_succ hown'
                  obtain ⟨hv1, hv2, hr2, hk2, hb2⟩ := hv.appended (tmp := .cells #[.int .i64 (X - x.2.1)] 3) (by decide) hrow hB.size (Nat.le_refl _) hown' ⟨hgrow.os, hgrow.tape, hgrow.output, hgrow.size, hgrow.block⟩
                  have hc4 := hv1.cell
                  have hf4 := hv1.frozen
                  go_simp
                  refine hK _ _ ?_
                  clear hK K
                  refine wpAnyIn_ready (rs := [7]) (by kernel_rfl) (by simp) ?_
                  refine AllReadyIn.cons rfl (fun K hK => ?_) ?_
                  · go_simp
                    refine hK _ _ ?_
                    clear hK K
                    refine wpAnyIn_done (by kernel_rfl) ?_ _
                    have hr3 : (w4.setCell ⟨w1.heap.size, 0, none⟩ (.slice (some ⟨g', 0, none⟩) (pre.length + 1) cap')).ownsRow w1.heap.size 3 1 (.slice (some ⟨g', 0, none⟩) (pre.length + 1) cap') (pre ++ [x]).length ((bkO X (pre ++ [x])).map (Value.int .i64)) := by
                      rw [bkO_snoc, List.map_append, List.length_append]
                      exact hr2
                    have hbx2 : Boxed (w4.setCell ⟨w1.heap.size, 0, none⟩ (.slice (some ⟨g', 0, none⟩) (pre.length + 1) cap')) (w1.heap.size + 1) 22 (.slice A m c) := ((hbx.alloc (.cells #[.int .i64 (X - x.2.1)] 3)).kept (⟨hgrow.os, hgrow.tape, hgrow.output, hgrow.size, hgrow.block⟩ : (W.alloc (.cells #[.int .i64 (X - x.2.1)] 3)).grownBy w4 v.ownBlock) (hbx.not_row (by decide) hrow)).kept (grownBy_setCell' w4 w1.heap.size _) (by simp)
                    exact ⟨hk2.from _, ⟨hb2, fun u hu => hbx2.cell.trans (hbx.cell.symm.trans hu)⟩, ⟨⟨_, hv2, hr3, trivial⟩, hbx2⟩, hB.trans hb2⟩
                  exact AllReadyIn.nil
                exact AllReadyIn.nil
              exact AllReadyIn.nil
            exact AllReadyIn.nil
          exact AllReadyIn.nil
        exact AllReadyIn.nil
      refine AllReadyIn.cons rfl (fun K hK => ?_) ?_
      · go_simp
        refine hK _ _ ?_
        clear hK K
        refine wpAnyIn_ready (rs := [1]) (by kernel_rfl) (by simp) ?_
        refine AllReadyIn.cons rfl (fun K hK => ?_) ?_
        · go_simp
          refine hK _ _ ?_
          clear hK K
          refine wpAnyIn_ready (rs := [2]) (by kernel_rfl) (by simp) ?_
          refine AllReadyIn.cons rfl (fun K hK => ?_) ?_
          · go_simp
            refine ⟨trivial, ?_⟩
            gi_at_call 62
            refine (CallsIn.inRound l (callsIn_wide.2 (widthOf_c _ _ _ _ xs HW.out Hm.out hm1 hn))).mono ?_
            rintro e w3 ⟨rfl, rfl⟩
            go_simp
            refine hK _ _ ?_
            clear hK K
            refine wpAnyIn_ready (rs := [4]) (by kernel_rfl) (by simp) ?_
            refine AllReadyIn.cons rfl (fun K hK => ?_) ?_
            · go_simp
              refine hK _ _ ?_
              clear hK K
              refine wpAnyIn_ready (rs := [5]) (by kernel_rfl) (by simp) ?_
              refine AllReadyIn.cons rfl (fun K hK => ?_) ?_
              · go_simp
                refine hK _ _ ?_
                clear hK K
                refine wpAnyIn_ready (rs := [6]) (by kernel_rfl) (by simp) ?_
                refine AllReadyIn.cons rfl (fun K hK => ?_) ?_
                · rw [if_pos (show Region.wanted _ _ = true from rfl)]
                  refine opIn_append_own _ _ _ 22 rfl w1.heap.size 3 i0 (.int .i64 0) 1 8 Try.underlying22 hi hz0 hz1 hz2 rfl (by decide) _ _ _ rfl (hrow.alloc (.cells #[.int .i64 (X - x.2.1)] 3)) ⟨W.heap.size, 0, none⟩ 1 1 [.int .i64 (X - x.2.1)] rfl rfl (fun j u h => cell_one_new W (.int .i64 (X - x.2.1)) 3 j u h) (by simp [Value.oneCell']) hb63 hb47 hbz ?_
                  intro v' w4 hown' hgrow
                  obtain ⟨g', cap', rfl⟩ := ownsRow_succ hown'
                  obtain ⟨hv1, hv2, hr2, hk2, hb2⟩ := hv.appended (tmp := .cells #[.int .i64 (X - x.2.1)] 3) (by decide) hrow hB.size (Nat.le_refl _) hown' ⟨hgrow.os, hgrow.tape, hgrow.output, hgrow.size, hgrow.block⟩
                  have hc4 := hv1.cell
                  have hf4 := hv1.frozen
                  go_simp
                  refine hK _ _ ?_
                  clear hK K
                  refine wpAnyIn_ready (rs := [7]) (by kernel_rfl) (by simp) ?_
                  refine AllReadyIn.cons rfl (fun K hK => ?_) ?_
                  · go_simp
                    refine hK _ _ ?_
                    clear hK K
                    refine wpAnyIn_done (by kernel_rfl) ?_ _
                    have hr3 : (w4.setCell ⟨w1.heap.size, 0, none⟩ (.slice (some ⟨g', 0, none⟩) (pre.length + 1) cap')).ownsRow w1.heap.size 3 1 (.slice (some ⟨g', 0, none⟩) (pre.length + 1) cap') (pre ++ [x]).length ((bkO X (pre ++ [x])).map (Value.int .i64)) := by
                      rw [bkO_snoc, List.map_append, List.length_append]
                      exact hr2
                    have hbx2 : Boxed (w4.setCell ⟨w1.heap.size, 0, none⟩ (.slice (some ⟨g', 0, none⟩) (pre.length + 1) cap')) (w1.heap.size + 1) 22 (.slice A m c) := ((hbx.alloc (.cells #[.int .i64 (X - x.2.1)] 3)).kept (⟨hgrow.os, hgrow.tape, hgrow.output, hgrow.size, hgrow.block⟩ : (W.alloc (.cells #[.int .i64 (X - x.2.1)] 3)).grownBy w4 v.ownBlock) (hbx.not_row (by decide) hrow)).kept (grownBy_setCell' w4 w1.heap.size _) (by simp)
                    exact ⟨hk2.from _, ⟨hb2, fun u hu => hbx2.cell.trans (hbx.cell.symm.trans hu)⟩, ⟨⟨_, hv2, hr3, trivial⟩, hbx2⟩, hB.trans hb2⟩
                  exact AllReadyIn.nil
                exact AllReadyIn.nil
              exact AllReadyIn.nil
            exact AllReadyIn.nil
          exact AllReadyIn.nil
        exact AllReadyIn.nil
      exact AllReadyIn.nil
    refine AllReadyIn.cons rfl (fun K hK => ?_) ?_
    · go_simp
      refine hK _ _ ?_
      clear hK K
      refine wpAnyIn_ready (rs := [0, 2, 3]) (by kernel_rfl) (by simp) ?_
      refine AllReadyIn.cons rfl (fun K hK => ?_) ?_
      · go_simp
        refine hK _ _ ?_
        clear hK K
        refine wpAnyIn_ready (rs := [2, 3]) (by kernel_rfl) (by simp) ?_
        refine AllReadyIn.cons rfl (fun K hK => ?_) ?_
        · go_simp
          refine ⟨trivial, ?_⟩
          gi_at_call 62
          refine (CallsIn.inRound l (callsIn_wide.2 (widthOf_c _ _ _ _ xs HW.out Hm.out hm1 hn))).mono ?_
          rintro e w3 ⟨rfl, rfl⟩
          go_simp
          refine hK _ _ ?_
          clear hK K
          refine wpAnyIn_ready (rs := [3]) (by kernel_rfl) (by simp) ?_
          refine AllReadyIn.cons rfl (fun K hK => ?_) ?_
          · go_simp
            refine hK _ _ ?_
            clear hK K
            refine wpAnyIn_ready (rs := [4]) (by kernel_rfl) (by simp) ?_
            refine AllReadyIn.cons rfl (fun K hK => ?_) ?_
            · go_simp
              refine hK _ _ ?_
              clear hK K
              refine wpAnyIn_ready (rs := [5]) (by kernel_rfl) (by simp) ?_
              refine AllReadyIn.cons rfl (fun K hK => ?_) ?_
              · go_simp
                refine hK _ _ ?_
                clear hK K
                refine wpAnyIn_ready (rs := [6]) (by kernel_rfl) (by simp) ?_
                refine AllReadyIn.cons rfl (fun K hK => ?_) ?_
                · rw [if_pos (show Region.wanted _ _ = true from rfl)]
                  refine opIn_append_own _ _ _ 22 rfl w1.heap.size 3 i0 (.int .i64 0) 1 8 Try.underlying22 hi hz0 hz1 hz2 rfl (by decide) _ _ _ rfl (hrow.alloc (.cells #[.int .i64 (X - x.2.1)] 3)) ⟨W.heap.size, 0, none⟩ 1 1 [.int .i64 (X - x.2.1)] rfl rfl (fun j u h => cell_one_new W (.int .i64 (X - x.2.1)) 3 j u h) (by simp [Value.oneCell']) hb63 hb47 hbz ?_
                  intro v' w4 hown' hgrow
                  obtain ⟨g', cap', rfl⟩ := ownsRow_succ hown'
                  obtain ⟨hv1, hv2, hr2, hk2, hb2⟩ := hv.appended (tmp := .cells #[.int .i64 (X - x.2.1)] 3) (by decide) hrow hB.size (Nat.le_refl _) hown' ⟨hgrow.os, hgrow.tape, hgrow.output, hgrow.size, hgrow.block⟩
                  have hc4 := hv1.cell
                  have hf4 := hv1.frozen
                  go_simp
                  refine hK _ _ ?_
                  clear hK K
                  refine wpAnyIn_ready (rs := [7]) (by kernel_rfl) (by simp) ?_
                  refine AllReadyIn.cons rfl (fun K hK => ?_) ?_
                  · go_simp
                    refine hK _ _ ?_
                    clear hK K
                    refine wpAnyIn_done (by kernel_rfl) ?_ _
                    have hr3 : (w4.setCell ⟨w1.heap.size, 0, none⟩ (.slice (some ⟨g', 0, none⟩) (pre.length + 1) cap')).ownsRow w1.heap.size 3 1 (.slice (some ⟨g', 0, none⟩) (pre.length + 1) cap') (pre ++ [x]).length ((bkO X (pre ++ [x])).map (Value.int .i64)) := by
                      rw [bkO_snoc, List.map_append, List.length_append]
                      exact hr2
                    have hbx2 : Boxed (w4.setCell ⟨w1.heap.size, 0, none⟩ (.slice (some ⟨g', 0, none⟩) (pre.length + 1) cap')) (w1.heap.size + 1) 22 (.slice A m c) := ((hbx.alloc (.cells #[.int .i64 (X - x.2.1)] 3)).kept (⟨hgrow.os, hgrow.tape, hgrow.output, hgrow.size, hgrow.block⟩ : (W.alloc (.cells #[.int .i64 (X - x.2.1)] 3)).grownBy w4 v.ownBlock) (hbx.not_row (by decide) hrow)).kept (grownBy_setCell' w4 w1.heap.size _) (by simp)
                    exact ⟨hk2.from _, ⟨hb2, fun u hu => hbx2.cell.trans (hbx.cell.symm.trans hu)⟩, ⟨⟨_, hv2, hr3, trivial⟩, hbx2⟩, hB.trans hb2⟩
                  exact AllReadyIn.nil
                exact AllReadyIn.nil
              exact AllReadyIn.nil
            exact AllReadyIn.nil
          exact AllReadyIn.nil
        refine AllReadyIn.cons rfl (fun K hK => ?_) ?_
        · go_simp
          refine hK _ _ ?_
          clear hK K
          refine wpAnyIn_ready (rs := [2]) (by kernel_rfl) (by simp) ?_
          refine AllReadyIn.cons rfl (fun K hK => ?_) ?_
          · go_simp
            refine ⟨trivial, ?_⟩
            gi_at_call 62
            refine (CallsIn.inRound l (callsIn_wide.2 (widthOf_c _ _ _ _ xs HW.out Hm.out hm1 hn))).mono ?_
            rintro e w3 ⟨rfl, rfl⟩
            go_simp
            refine hK _ _ ?_
            clear hK K
            refine wpAnyIn_ready (rs := [4]) (by kernel_rfl) (by simp) ?_
            refine AllReadyIn.cons rfl (fun K hK => ?_) ?_
            · go_simp
              refine hK _ _ ?_
              clear hK K
              refine wpAnyIn_ready (rs := [5]) (by kernel_rfl) (by simp) ?_
              refine AllReadyIn.cons rfl (fun K hK => ?_) ?_
              · go_simp
                refine hK _ _ ?_
                clear hK K
                refine wpAnyIn_ready (rs := [6]) (by kernel_rfl) (by simp) ?_
                refine AllReadyIn.cons rfl (fun K hK => ?_) ?_
                · rw [if_pos (show Region.wanted _ _ = true from rfl)]
                  refine opIn_append_own _ _ _ 22 rfl w1.heap.size 3 i0 (.int .i64 0) 1 8 Try.underlying22 hi hz0 hz1 hz2 rfl (by decide) _ _ _ rfl (hrow.alloc (.cells #[.int .i64 (X - x.2.1)] 3)) ⟨W.heap.size, 0, none⟩ 1 1 [.int .i64 (X - x.2.1)] rfl rfl (fun j u h => cell_one_new W (.int .i64 (X - x.2.1)) 3 j u h) (by simp [Value.oneCell']) hb63 hb47 hbz ?_
                  intro v' w4 hown' hgrow
                  obtain ⟨g', cap', rfl⟩ := ownsRow_succ hown'
                  obtain ⟨hv1, hv2, hr2, hk2, hb2⟩ := hv.appended (tmp := .cells #[.int .i64 (X - x.2.1)] 3) (by decide) hrow hB.size (Nat.le_refl _) hown' ⟨hgrow.os, hgrow.tape, hgrow.output, hgrow.size, hgrow.block⟩
                  have hc4 := hv1.cell
                  have hf4 := hv1.frozen
                  go_simp
                  refine hK _ _ ?_
                  clear hK K
                  refine wpAnyIn_ready (rs := [7]) (by kernel_rfl) (by simp) ?_
                  refine AllReadyIn.cons rfl (fun K hK => ?_) ?_
                  · go_simp
                    refine hK _ _ ?_
                    clear hK K
                    refine wpAnyIn_done (by kernel_rfl) ?_ _
                    have hr3 : (w4.setCell ⟨w1.heap.size, 0, none⟩ (.slice (some ⟨g', 0, none⟩) (pre.length + 1) cap')).ownsRow w1.heap.size 3 1 (.slice (some ⟨g', 0, none⟩) (pre.length + 1) cap') (pre ++ [x]).length ((bkO X (pre ++ [x])).map (Value.int .i64)) := by
                      rw [bkO_snoc, List.map_append, List.length_append]
                      exact hr2
                    have hbx2 : Boxed (w4.setCell ⟨w1.heap.size, 0, none⟩ (.slice (some ⟨g', 0, none⟩) (pre.length + 1) cap')) (w1.heap.size + 1) 22 (.slice A m c) := ((hbx.alloc (.cells #[.int .i64 (X - x.2.1)] 3)).kept (⟨hgrow.os, hgrow.tape, hgrow.output, hgrow.size, hgrow.block⟩ : (W.alloc (.cells #[.int .i64 (X - x.2.1)] 3)).grownBy w4 v.ownBlock) (hbx.not_row (by decide) hrow)).kept (grownBy_setCell' w4 w1.heap.size _) (by simp)
                    exact ⟨hk2.from _, ⟨hb2, fun u hu => hbx2.cell.trans (hbx.cell.symm.trans hu)⟩, ⟨⟨_, hv2, hr3, trivial⟩, hbx2⟩, hB.trans hb2⟩
                  exact AllReadyIn.nil
                exact AllReadyIn.nil
              exact AllReadyIn.nil
            exact AllReadyIn.nil
          exact AllReadyIn.nil
        exact AllReadyIn.nil
      refine AllReadyIn.cons rfl (fun K hK => ?_) ?_
      · go_simp
        refine ⟨trivial, ?_⟩
        gi_at_call 62
        refine (CallsIn.inRound l (callsIn_wide.2 (widthOf_c _ _ _ _ xs HW.out Hm.out hm1 hn))).mono ?_
        rintro e w3 ⟨rfl, rfl⟩
        go_simp
        refine hK _ _ ?_
        clear hK K
        refine wpAnyIn_ready (rs := [0, 3]) (by kernel_rfl) (by simp) ?_
        refine AllReadyIn.cons rfl (fun K hK => ?_) ?_
        · go_simp
          refine hK _ _ ?_
          clear hK K
          refine wpAnyIn_ready (rs := [3]) (by kernel_rfl) (by simp) ?_
          refine AllReadyIn.cons rfl (fun K hK => ?_) ?_
          · go_simp
            refine hK _ _ ?_
            clear hK K
            refine wpAnyIn_ready (rs := [4]) (by kernel_rfl) (by simp) ?_
            refine AllReadyIn.cons rfl (fun K hK => ?_) ?_
            · go_simp
              refine hK _ _ ?_
              clear hK K
              refine wpAnyIn_ready (rs := [5]) (by kernel_rfl) (by simp) ?_
              refine AllReadyIn.cons rfl (fun K hK => ?_) ?_
              · go_simp
                refine hK _ _ ?_
                clear hK K
                refine wpAnyIn_ready (rs := [6]) (by kernel_rfl) (by simp) ?_
                refine AllReadyIn.cons rfl (fun K hK => ?_) ?_
                · rw [if_pos (show Region.wanted _ _ = true from rfl)]
                  refine opIn_append_own _ _ _ 22 rfl w1.heap.size 3 i0 (.int .i64 0) 1 8 Try.underlying22 hi hz0 hz1 hz2 rfl (by decide) _ _ _ rfl (hrow.alloc (.cells #[.int .i64 (X - x.2.1)] 3)) ⟨W.heap.size, 0, none⟩ 1 1 [.int .i64 (X - x.2.1)] rfl rfl (fun j u h => cell_one_new W (.int .i64 (X - x.2.1)) 3 j u h) (by simp [Value.oneCell']) hb63 hb47 hbz ?_
                  intro v' w4 hown' hgrow
                  obtain ⟨g', cap', rfl⟩ := ownsRow_succ hown'
                  obtain ⟨hv1, hv2, hr2, hk2, hb2⟩ := hv.appended (tmp := .cells #[.int .i64 (X - x.2.1)] 3) (by decide) hrow hB.size (Nat.le_refl _) hown' ⟨hgrow.os, hgrow.tape, hgrow.output, hgrow.size, hgrow.block⟩
                  have hc4 := hv1.cell
                  have hf4 := hv1.frozen
                  go_simp
                  refine hK _ _ ?_
                  clear hK K
                  refine wpAnyIn_ready (rs := [7]) (by kernel_rfl) (by simp) ?_
                  refine AllReadyIn.cons rfl (fun K hK => ?_) ?_
                  · go_simp
                    refine hK _ _ ?_
                    clear hK K
                    refine wpAnyIn_done (by kernel_rfl) ?_ _
                    have hr3 : (w4.setCell ⟨w1.heap.size, 0, none⟩ (.slice (some ⟨g', 0, none⟩) (pre.length + 1) cap')).ownsRow w1.heap.size 3 1 (.slice (some ⟨g', 0, none⟩) (pre.length + 1) cap') (pre ++ [x]).length ((bkO X (pre ++ [x])).map (Value.int .i64)) := by
                      rw [bkO_snoc, List.map_append, List.length_append]
                      exact hr2
                    have hbx2 : Boxed (w4.setCell ⟨w1.heap.size, 0, none⟩ (.slice (some ⟨g', 0, none⟩) (pre.length + 1) cap')) (w1.heap.size + 1) 22 (.slice A m c) := ((hbx.alloc (.cells #[.int .i64 (X - x.2.1)] 3)).kept (⟨hgrow.os, hgrow.tape, hgrow.output, hgrow.size, hgrow.block⟩ : (W.alloc (.cells #[.int .i64 (X - x.2.1)] 3)).grownBy w4 v.ownBlock) (hbx.not_row (by decide) hrow)).kept (grownBy_setCell' w4 w1.heap.size _) (by simp)
                    exact ⟨hk2.from _, ⟨hb2, fun u hu => hbx2.cell.trans (hbx.cell.symm.trans hu)⟩, ⟨⟨_, hv2, hr3, trivial⟩, hbx2⟩, hB.trans hb2⟩
                  exact AllReadyIn.nil
                exact AllReadyIn.nil
              exact AllReadyIn.nil
            exact AllReadyIn.nil
          exact AllReadyIn.nil
        refine AllReadyIn.cons rfl (fun K hK => ?_) ?_
        · go_simp
          refine hK _ _ ?_
          clear hK K
          refine wpAnyIn_ready (rs := [0, 4]) (by kernel_rfl) (by simp) ?_
          refine AllReadyIn.cons rfl (fun K hK => ?_) ?_
          · go_simp
            refine hK _ _ ?_
            clear hK K
            refine wpAnyIn_ready (rs := [4]) (by kernel_rfl) (by simp) ?_
            refine AllReadyIn.cons rfl (fun K hK => ?_) ?_
            · go_simp
              refine hK _ _ ?_
              clear hK K
              refine wpAnyIn_ready (rs := [5]) (by kernel_rfl) (by simp) ?_
              refine AllReadyIn.cons rfl (fun K hK => ?_) ?_
              · go_simp
                refine hK _ _ ?_
                clear hK K
                refine wpAnyIn_ready (rs := [6]) (by kernel_rfl) (by simp) ?_
                refine AllReadyIn.cons rfl (fun K hK => ?_) ?_
                · rw [if_pos (show Region.wanted _ _ = true from rfl)]
                  refine opIn_append_own _ _ _ 22 rfl w1.heap.size 3 i0 (.int .i64 0) 1 8 Try.underlying22 hi hz0 hz1 hz2 rfl (by decide) _ _ _ rfl (hrow.alloc (.cells #[.int .i64 (X - x.2.1)] 3)) ⟨W.heap.size, 0, none⟩ 1 1 [.int .i64 (X - x.2.1)] rfl rfl (fun j u h => cell_one_new W (.int .i64 (X - x.2.1)) 3 j u h) (by simp [Value.oneCell']) hb63 hb47 hbz ?_
                  intro v' w4 hown' hgrow
                  obtain ⟨g', cap', rfl⟩ := ownsRow_succ hown'
                  obtain ⟨hv1, hv2, hr2, hk2, hb2⟩ := hv.appended (tmp := .cells #[.int .i64 (X - x.2.1)] 3) (by decide) hrow hB.size (Nat.le_refl _) hown' ⟨hgrow.os, hgrow.tape, hgrow.output, hgrow.size, hgrow.block⟩
                  have hc4 := hv1.cell
                  have hf4 := hv1.frozen
                  go_simp
                  refine hK _ _ ?_
                  clear hK K
                  refine wpAnyIn_ready (rs := [7]) (by kernel_rfl) (by simp) ?_
                  refine AllReadyIn.cons rfl (fun K hK => ?_) ?_
                  · go_simp
                    refine hK _ _ ?_
                    clear hK K
                    refine wpAnyIn_done (by kernel_rfl) ?_ _
                    have hr3 : (w4.setCell ⟨w1.heap.size, 0, none⟩ (.slice (some ⟨g', 0, none⟩) (pre.length + 1) cap')).ownsRow w1.heap.size 3 1 (.slice (some ⟨g', 0, none⟩) (pre.length + 1) cap') (pre ++ [x]).length ((bkO X (pre ++ [x])).map (Value.int .i64)) := by
                      rw [bkO_snoc, List.map_append, List.length_append]
                      exact hr2
                    have hbx2 : Boxed (w4.setCell ⟨w1.heap.size, 0, none⟩ (.slice (some ⟨g', 0, none⟩) (pre.length + 1) cap')) (w1.heap.size + 1) 22 (.slice A m c) := ((hbx.alloc (.cells #[.int .i64 (X - x.2.1)] 3)).kept (⟨hgrow.os, hgrow.tape, hgrow.output, hgrow.size, hgrow.block⟩ : (W.alloc (.cells #[.int .i64 (X - x.2.1)] 3)).grownBy w4 v.ownBlock) (hbx.not_row (by decide) hrow)).kept (grownBy_setCell' w4 w1.heap.size _) (by simp)
                    exact ⟨hk2.from _, ⟨hb2, fun u hu => hbx2.cell.trans (hbx.cell.symm.trans hu)⟩, ⟨⟨_, hv2, hr3, trivial⟩, hbx2⟩, hB.trans hb2⟩
                  exact AllReadyIn.nil
                exact AllReadyIn.nil
              exact AllReadyIn.nil
            exact AllReadyIn.nil
          refine AllReadyIn.cons rfl (fun K hK => ?_) ?_
          · go_simp
            refine hK _ _ ?_
            clear hK K
            refine wpAnyIn_ready (rs := [0, 5]) (by kernel_rfl) (by simp) ?_
            refine AllReadyIn.cons rfl (fun K hK => ?_) ?_
            · go_simp
              refine hK _ _ ?_
              clear hK K
              refine wpAnyIn_ready (rs := [5]) (by kernel_rfl) (by simp) ?_
              refine AllReadyIn.cons rfl (fun K hK => ?_) ?_
              · go_simp
                refine hK _ _ ?_
                clear hK K
                refine wpAnyIn_ready (rs := [6]) (by kernel_rfl) (by simp) ?_
                refine AllReadyIn.cons rfl (fun K hK => ?_) ?_
                · rw [if_pos (show Region.wanted _ _ = true from rfl)]
                  refine opIn_append_own _ _ _ 22 rfl w1.heap.size 3 i0 (.int .i64 0) 1 8 Try.underlying22 hi hz0 hz1 hz2 rfl (by decide) _ _ _ rfl (hrow.alloc (.cells #[.int .i64 (X - x.2.1)] 3)) ⟨W.heap.size, 0, none⟩ 1 1 [.int .i64 (X - x.2.1)] rfl rfl (fun j u h => cell_one_new W (.int .i64 (X - x.2.1)) 3 j u h) (by simp [Value.oneCell']) hb63 hb47 hbz ?_
                  intro v' w4 hown' hgrow
                  obtain ⟨g', cap', rfl⟩ := ownsRow_succ hown'
                  obtain ⟨hv1, hv2, hr2, hk2, hb2⟩ := hv.appended (tmp := .cells #[.int .i64 (X - x.2.1)] 3) (by decide) hrow hB.size (Nat.le_refl _) hown' ⟨hgrow.os, hgrow.tape, hgrow.output, hgrow.size, hgrow.block⟩
                  have hc4 := hv1.cell
                  have hf4 := hv1.frozen
                  go_simp
                  refine hK _ _ ?_
                  clear hK K
                  refine wpAnyIn_ready (rs := [7]) (by kernel_rfl) (by simp) ?_
                  refine AllReadyIn.cons rfl (fun K hK => ?_) ?_
                  · go_simp
                    refine hK _ _ ?_
                    clear hK K
                    refine wpAnyIn_done (by kernel_rfl) ?_ _
                    have hr3 : (w4.setCell ⟨w1.heap.size, 0, none⟩ (.slice (some ⟨g', 0, none⟩) (pre.length + 1) cap')).ownsRow w1.heap.size 3 1 (.slice (some ⟨g', 0, none⟩) (pre.length + 1) cap') (pre ++ [x]).length ((bkO X (pre ++ [x])).map (Value.int .i64)) := by
                      rw [bkO_snoc, List.map_append, List.length_append]
                      exact hr2
                    have hbx2 : Boxed (w4.setCell ⟨w1.heap.size, 0, none⟩ (.slice (some ⟨g', 0, none⟩) (pre.length + 1) cap')) (w1.heap.size + 1) 22 (.slice A m c) := ((hbx.alloc (.cells #[.int .i64 (X - x.2.1)] 3)).kept (⟨hgrow.os, hgrow.tape, hgrow.output, hgrow.size, hgrow.block⟩ : (W.alloc (.cells #[.int .i64 (X - x.2.1)] 3)).grownBy w4 v.ownBlock) (hbx.not_row (by decide) hrow)).kept (grownBy_setCell' w4 w1.heap.size _) (by simp)
                    exact ⟨hk2.from _, ⟨hb2, fun u hu => hbx2.cell.trans (hbx.cell.symm.trans hu)⟩, ⟨⟨_, hv2, hr3, trivial⟩, hbx2⟩, hB.trans hb2⟩
                  exact AllReadyIn.nil
                exact AllReadyIn.nil
              exact AllReadyIn.nil
            refine AllReadyIn.cons rfl (fun K hK => ?_) ?_
            · go_simp
              refine hK _ _ ?_
              clear hK K
              refine wpAnyIn_ready (rs := [0]) (by kernel_rfl) (by simp) ?_
              refine AllReadyIn.cons rfl (fun K hK => ?_) ?_
              · go_simp
                refine hK _ _ ?_
                clear hK K
                refine wpAnyIn_ready (rs := [6]) (by kernel_rfl) (by simp) ?_
                refine AllReadyIn.cons rfl (fun K hK => ?_) ?_
                · rw [if_pos (show Region.wanted _ _ = true from rfl)]
                  refine opIn_append_own _ _ _ 22 rfl w1.heap.size 3 i0 (.int .i64 0) 1 8 Try.underlying22 hi hz0 hz1 hz2 rfl (by decide) _ _ _ rfl (hrow.alloc (.cells #[.int .i64 (X - x.2.1)] 3)) ⟨W.heap.size, 0, none⟩ 1 1 [.int .i64 (X - x.2.1)] rfl rfl (fun j u h => cell_one_new W (.int .i64 (X - x.2.1)) 3 j u h) (by simp [Value.oneCell']) hb63 hb47 hbz ?_
                  intro v' w4 hown' hgrow
                  obtain ⟨g', cap', rfl⟩ := ownsRow_succ hown'
                  obtain ⟨hv1, hv2, hr2, hk2, hb2⟩ := hv.appended (tmp := .cells #[.int .i64 (X - x.2.1)] 3) (by decide) hrow hB.size (Nat.le_refl _) hown' ⟨hgrow.os, hgrow.tape, hgrow.output, hgrow.size, hgrow.block⟩
                  have hc4 := hv1.cell
                  have hf4 := hv1.frozen
                  go_simp
                  refine hK _ _ ?_
                  clear hK K
                  refine wpAnyIn_ready (rs := [7]) (by kernel_rfl) (by simp) ?_
                  refine AllReadyIn.cons rfl (fun K hK => ?_) ?_
                  · go_simp
                    refine hK _ _ ?_
                    clear hK K
                    refine wpAnyIn_done (by kernel_rfl) ?_ _
                    have hr3 : (w4.setCell ⟨w1.heap.size, 0, none⟩ (.slice (some ⟨g', 0, none⟩) (pre.length + 1) cap')).ownsRow w1.heap.size 3 1 (.slice (some ⟨g', 0, none⟩) (pre.length + 1) cap') (pre ++ [x]).length ((bkO X (pre ++ [x])).map (Value.int .i64)) := by
                      rw [bkO_snoc, List.map_append, List.length_append]
                      exact hr2
                    have hbx2 : Boxed (w4.setCell ⟨w1.heap.size, 0, none⟩ (.slice (some ⟨g', 0, none⟩) (pre.length + 1) cap')) (w1.heap.size + 1) 22 (.slice A m c) := ((hbx.alloc (.cells #[.int .i64 (X - x.2.1)] 3)).kept (⟨hgrow.os, hgrow.tape, hgrow.output, hgrow.size, hgrow.block⟩ : (W.alloc (.cells #[.int .i64 (X - x.2.1)] 3)).grownBy w4 v.ownBlock) (hbx.not_row (by decide) hrow)).kept (grownBy_setCell' w4 w1.heap.size _) (by simp)
                    exact ⟨hk2.from _, ⟨hb2, fun u hu => hbx2.cell.trans (hbx.cell.symm.trans hu)⟩, ⟨⟨_, hv2, hr3, trivial⟩, hbx2⟩, hB.trans hb2⟩
                  exact AllReadyIn.nil
                exact AllReadyIn.nil
              exact AllReadyIn.nil
            exact AllReadyIn.nil
          exact AllReadyIn.nil
        exact AllReadyIn.nil
      refine AllReadyIn.cons rfl (fun K hK => ?_) ?_
      · go_simp
        refine hK _ _ ?_
        clear hK K
        refine wpAnyIn_ready (rs := [0, 2]) (by kernel_rfl) (by simp) ?_
        refine AllReadyIn.cons rfl (fun K hK => ?_) ?_
        · go_simp
          refine hK _ _ ?_
          clear hK K
          refine wpAnyIn_ready (rs := [2]) (by kernel_rfl) (by simp) ?_
          refine AllReadyIn.cons rfl (fun K hK => ?_) ?_
          · go_simp
            refine ⟨trivial, ?_⟩
            gi_at_call 62
            refine (CallsIn.inRound l (callsIn_wide.2 (widthOf_c _ _ _ _ xs HW.out Hm.out hm1 hn))).mono ?_
            rintro e w3 ⟨rfl, rfl⟩
            go_simp
            refine hK _ _ ?_
            clear hK K
            refine wpAnyIn_ready (rs := [4]) (by kernel_rfl) (by simp) ?_
            refine AllReadyIn.cons rfl (fun K hK => ?_) ?_
            · go_simp
              refine hK _ _ ?_
              clear hK K
              refine wpAnyIn_ready (rs := [5]) (by kernel_rfl) (by simp) ?_
              refine AllReadyIn.cons rfl (fun K hK => ?_) ?_
              · go_simp
                refine hK _ _ ?_
                clear hK K
                refine wpAnyIn_ready (rs := [6]) (by kernel_rfl) (by simp) ?_
                refine AllReadyIn.cons rfl (fun K hK => ?_) ?_
                · rw [if_pos (show Region.wanted _ _ = true from rfl)]
                  refine opIn_append_own _ _ _ 22 rfl w1.heap.size 3 i0 (.int .i64 0) 1 8 Try.underlying22 hi hz0 hz1 hz2 rfl (by decide) _ _ _ rfl (hrow.alloc (.cells #[.int .i64 (X - x.2.1)] 3)) ⟨W.heap.size, 0, none⟩ 1 1 [.int .i64 (X - x.2.1)] rfl rfl (fun j u h => cell_one_new W (.int .i64 (X - x.2.1)) 3 j u h) (by simp [Value.oneCell']) hb63 hb47 hbz ?_
                  intro v' w4 hown' hgrow
                  obtain ⟨g', cap', rfl⟩ := ownsRow_succ hown'
                  obtain ⟨hv1, hv2, hr2, hk2, hb2⟩ := hv.appended (tmp := .cells #[.int .i64 (X - x.2.1)] 3) (by decide) hrow hB.size (Nat.le_refl _) hown' ⟨hgrow.os, hgrow.tape, hgrow.output, hgrow.size, hgrow.block⟩
                  have hc4 := hv1.cell
                  have hf4 := hv1.frozen
                  go_simp
                  refine hK _ _ ?_
                  clear hK K
                  refine wpAnyIn_ready (rs := [7]) (by kernel_rfl) (by simp) ?_
                  refine AllReadyIn.cons rfl (fun K hK => ?_) ?_
                  · go_simp
                    refine hK _ _ ?_
                    clear hK K
                    refine wpAnyIn_done (by kernel_rfl) ?_ _
                    have hr3 : (w4.setCell ⟨w1.heap.size, 0, none⟩ (.slice (some ⟨g', 0, none⟩) (pre.length + 1) cap')).ownsRow w1.heap.size 3 1 (.slice (some ⟨g', 0, none⟩) (pre.length + 1) cap') (pre ++ [x]).length ((bkO X (pre ++ [x])).map (Value.int .i64)) := by
                      rw [bkO_snoc, List.map_append, List.length_append]
                      exact hr2
                    have hbx2 : Boxed (w4.setCell ⟨w1.heap.size, 0, none⟩ (.slice (some ⟨g', 0, none⟩) (pre.length + 1) cap')) (w1.heap.size + 1) 22 (.slice A m c) := ((hbx.alloc (.cells #[.int .i64 (X - x.2.1)] 3)).kept (⟨hgrow.os, hgrow.tape, hgrow.output, hgrow.size, hgrow.block⟩ : (W.alloc (.cells #[.int .i64 (X - x.2.1)] 3)).grownBy w4 v.ownBlock) (hbx.not_row (by decide) hrow)).kept (grownBy_setCell' w4 w1.heap.size _) (by simp)
                    exact ⟨hk2.from _, ⟨hb2, fun u hu => hbx2.cell.trans (hbx.cell.symm.trans hu)⟩, ⟨⟨_, hv2, hr3, trivial⟩, hbx2⟩, hB.trans hb2⟩
                  exact AllReadyIn.nil
                exact AllReadyIn.nil
              exact AllReadyIn.nil
            exact AllReadyIn.nil
          exact AllReadyIn.nil
        refine AllReadyIn.cons rfl (fun K hK => ?_) ?_
        · go_simp
          refine ⟨trivial, ?_⟩
          gi_at_call 62
          refine (CallsIn.inRound l (callsIn_wide.2 (widthOf_c _ _ _ _ xs HW.out Hm.out hm1 hn))).mono ?_
          rintro e w3 ⟨rfl, rfl⟩
          go_simp
          refine hK _ _ ?_
          clear hK K
          refine wpAnyIn_ready (rs := [0, 4]) (by kernel_rfl) (by simp) ?_
          refine AllReadyIn.cons rfl (fun K hK => ?_) ?_
          · go_simp
            refine hK _ _ ?_
            clear hK K
            refine wpAnyIn_ready (rs := [4]) (by kernel_rfl) (by simp) ?_
            refine AllReadyIn.cons rfl (fun K hK => ?_) ?_
            · go_simp
              refine hK _ _ ?_
              clear hK K
              refine wpAnyIn_ready (rs := [5]) (by kernel_rfl) (by simp) ?_
              refine AllReadyIn.cons rfl (fun K hK => ?_) ?_
              · go_simp
                refine hK _ _ ?_
                clear hK K
                refine wpAnyIn_ready (rs := [6]) (by kernel_rfl) (by simp) ?_
                refine AllReadyIn.cons rfl (fun K hK => ?_) ?_
                · rw [if_pos (show Region.wanted _ _ = true from rfl)]
                  refine opIn_append_own _ _ _ 22 rfl w1.heap.size 3 i0 (.int .i64 0) 1 8 Try.underlying22 hi hz0 hz1 hz2 rfl (by decide) _ _ _ rfl (hrow.alloc (.cells #[.int .i64 (X - x.2.1)] 3)) ⟨W.heap.size, 0, none⟩ 1 1 [.int .i64 (X - x.2.1)] rfl rfl (fun j u h => cell_one_new W (.int .i64 (X - x.2.1)) 3 j u h) (by simp [Value.oneCell']) hb63 hb47 hbz ?_
                  intro v' w4 hown' hgrow
                  obtain ⟨g', cap', rfl⟩ := ownsRow_succ hown'
                  obtain ⟨hv1, hv2, hr2, hk2, hb2⟩ := hv.appended (tmp := .cells #[.int .i64 (X - x.2.1)] 3) (by decide) hrow hB.size (Nat.le_refl _) hown' ⟨hgrow.os, hgrow.tape, hgrow.output, hgrow.size, hgrow.block⟩
                  have hc4 := hv1.cell
                  have hf4 := hv1.frozen
                  go_simp
                  refine hK _ _ ?_
                  clear hK K
                  refine wpAnyIn_ready (rs := [7]) (by kernel_rfl) (by simp) ?_
                  refine AllReadyIn.cons rfl (fun K hK => ?_) ?_
                  · go_simp
                    refine hK _ _ ?_
                    clear hK K
                    refine wpAnyIn_done (by kernel_rfl) ?_ _
                    have hr3 : (w4.setCell ⟨w1.heap.size, 0, none⟩ (.slice (some ⟨g', 0, none⟩) (pre.length + 1) cap')).ownsRow w1.heap.size 3 1 (.slice (some ⟨g', 0, none⟩) (pre.length + 1) cap') (pre ++ [x]).length ((bkO X (pre ++ [x])).map (Value.int .i64)) := by
                      rw [bkO_snoc, List.map_append, List.length_append]
                      exact hr2
                    have hbx2 : Boxed (w4.setCell ⟨w1.heap.size, 0, none⟩ (.slice (some ⟨g', 0, none⟩) (pre.length + 1) cap')) (w1.heap.size + 1) 22 (.slice A m c) := ((hbx.alloc (.cells #[.int .i64 (X - x.2.1)] 3)).kept (⟨hgrow.os, hgrow.tape, hgrow.output, hgrow.size, hgrow.block⟩ : (W.alloc (.cells #[.int .i64 (X - x.2.1)] 3)).grownBy w4 v.ownBlock) (hbx.not_row (by decide) hrow)).kept (grownBy_setCell' w4 w1.heap.size _) (by simp)
                    exact ⟨hk2.from _, ⟨hb2, fun u hu => hbx2.cell.trans (hbx.cell.symm.trans hu)⟩, ⟨⟨_, hv2, hr3, trivial⟩, hbx2⟩, hB.trans hb2⟩
                  exact AllReadyIn.nil
                exact AllReadyIn.nil
              exact AllReadyIn.nil
            exact AllReadyIn.nil
          refine AllReadyIn.cons rfl (fun K hK => ?_) ?_
          · go_simp
            refine hK _ _ ?_
            clear hK K
            refine wpAnyIn_ready (rs := [0, 5]) (by kernel_rfl) (by simp) ?_
            refine AllReadyIn.cons rfl (fun K hK => ?_) ?_
            · go_simp
              refine hK _ _ ?_
              clear hK K
              refine wpAnyIn_ready (rs := [5]) (by kernel_rfl) (by simp) ?_
              refine AllReadyIn.cons rfl (fun K hK => ?_) ?_
              · go_simp
                refine hK _ _ ?_
                clear hK K
                refine wpAnyIn_ready (rs := [6]) (by kernel_rfl) (by simp) ?_
                refine AllReadyIn.cons rfl (fun K hK => ?_) ?_
                · rw [if_pos (show Region.wanted _ _ = true from rfl)]
                  refine opIn_append_own _ _ _ 22 rfl w1.heap.size 3 i0 (.int .i64 0) 1 8 Try.underlying22 hi hz0 hz1 hz2 rfl (by decide) _ _ _ rfl (hrow.alloc (.cells #[.int .i64 (X - x.2.1)] 3)) ⟨W.heap.size, 0, none⟩ 1 1 [.int .i64 (X - x.2.1)] rfl rfl (fun j u h => cell_one_new W (.int .i64 (X - x.2.1)) 3 j u h) (by simp [Value.oneCell']) hb63 hb47 hbz ?_
                  intro v' w4 hown' hgrow
                  obtain ⟨g', cap', rfl⟩ := ownsRow_succ hown'
                  obtain ⟨hv1, hv2, hr2, hk2, hb2⟩ := hv.appended (tmp := .cells #[.int .i64 (X - x.2.1)] 3) (by decide) hrow hB.size (Nat.le_refl _) hown' ⟨hgrow.os, hgrow.tape, hgrow.output, hgrow.size, hgrow.block⟩
                  have hc4 := hv1.cell
                  have hf4 := hv1.frozen
                  go_simp
                  refine hK _ _ ?_
                  clear hK K
                  refine wpAnyIn_ready (rs := [7]) (by kernel_rfl) (by simp) ?_
                  refine AllReadyIn.cons rfl (fun K hK => ?_) ?_
                  · go_simp
                    refine hK _ _ ?_
                    clear hK K
                    refine wpAnyIn_done (by kernel_rfl) ?_ _
                    have hr3 : (w4.setCell ⟨w1.heap.size, 0, none⟩ (.slice (some ⟨g', 0, none⟩) (pre.length + 1) cap')).ownsRow w1.heap.size 3 1 (.slice (some ⟨g', 0, none⟩) (pre.length + 1) cap') (pre ++ [x]).length ((bkO X (pre ++ [x])).map (Value.int .i64)) := by
                      rw [bkO_snoc, List.map_append, List.length_append]
                      exact hr2
                    have hbx2 : Boxed (w4.setCell ⟨w1.heap.size, 0, none⟩ (.slice (some ⟨g', 0, none⟩) (pre.length + 1) cap')) (w1.heap.size + 1) 22 (.slice A m c) := ((hbx.alloc (.cells #[.int .i64 (X - x.2.1)] 3)).kept (⟨hgrow.os, hgrow.tape, hgrow.output, hgrow.size, hgrow.block⟩ : (W.alloc (.cells #[.int .i64 (X - x.2.1)] 3)).grownBy w4 v.ownBlock) (hbx.not_row (by decide) hrow)).kept (grownBy_setCell' w4 w1.heap.size _) (by simp)
                    exact ⟨hk2.from _, ⟨hb2, fun u hu => hbx2.cell.trans (hbx.cell.symm.trans hu)⟩, ⟨⟨_, hv2, hr3, trivial⟩, hbx2⟩, hB.trans hb2⟩
                  exact AllReadyIn.nil
                exact AllReadyIn.nil
              exact AllReadyIn.nil
            refine AllReadyIn.cons rfl (fun K hK => ?_) ?_
            · go_simp
              refine hK _ _ ?_
              clear hK K
              refine wpAnyIn_ready (rs := [0]) (by kernel_rfl) (by simp) ?_
              refine AllReadyIn.cons rfl (fun K hK => ?_) ?_
              · go_simp
                refine hK _ _ ?_
                clear hK K
                refine wpAnyIn_ready (rs := [6]) (by kernel_rfl) (by simp) ?_
                refine AllReadyIn.cons rfl (fun K hK => ?_) ?_
                · rw [if_pos (show Region.wanted _ _ = true from rfl)]
                  refine opIn_append_own _ _ _ 22 rfl w1.heap.size 3 i0 (.int .i64 0) 1 8 Try.underlying22 hi hz0 hz1 hz2 rfl (by decide) _ _ _ rfl (hrow.alloc (.cells #[.int .i64 (X - x.2.1)] 3)) ⟨W.heap.size, 0, none⟩ 1 1 [.int .i64 (X - x.2.1)] rfl rfl (fun j u h => cell_one_new W (.int .i64 (X - x.2.1)) 3 j u h) (by simp [Value.oneCell']) hb63 hb47 hbz ?_
                  intro v' w4 hown' hgrow
                  obtain ⟨g', cap', rfl⟩ := ownsRow_succ hown'
                  obtain ⟨hv1, hv2, hr2, hk2, hb2⟩ := hv.appended (tmp := .cells #[.int .i64 (X - x.2.1)] 3) (by decide) hrow hB.size (Nat.le_refl _) hown' ⟨hgrow.os, hgrow.tape, hgrow.output, hgrow.size, hgrow.block⟩
                  have hc4 := hv1.cell
                  have hf4 := hv1.frozen
                  go_simp
                  refine hK _ _ ?_
                  clear hK K
                  refine wpAnyIn_ready (rs := [7]) (by kernel_rfl) (by simp) ?_
                  refine AllReadyIn.cons rfl (fun K hK => ?_) ?_
                  · go_simp
                    refine hK _ _ ?_
                    clear hK K
                    refine wpAnyIn_done (by kernel_rfl) ?_ _
                    have hr3 : (w4.setCell ⟨w1.heap.size, 0, none⟩ (.slice (some ⟨g', 0, none⟩) (pre.length + 1) cap')).ownsRow w1.heap.size 3 1 (.slice (some ⟨g', 0, none⟩) (pre.length + 1) cap') (pre ++ [x]).length ((bkO X (pre ++ [x])).map (Value.int .i64)) := by
                      rw [bkO_snoc, List.map_append, List.length_append]
                      exact hr2
                    have hbx2 : Boxed (w4.setCell ⟨w1.heap.size, 0, none⟩ (.slice (some ⟨g', 0, none⟩) (pre.length + 1) cap')) (w1.heap.size + 1) 22 (.slice A m c) := ((hbx.alloc (.cells #[.int .i64 (X - x.2.1)] 3)).kept (⟨hgrow.os, hgrow.tape, hgrow.output, hgrow.size, hgrow.block⟩ : (W.alloc (.cells #[.int .i64 (X - x.2.1)] 3)).grownBy w4 v.ownBlock) (hbx.not_row (by decide) hrow)).kept (grownBy_setCell' w4 w1.heap.size _) (by simp)
                    exact ⟨hk2.from _, ⟨hb2, fun u hu => hbx2.cell.trans (hbx.cell.symm.trans hu)⟩, ⟨⟨_, hv2, hr3, trivial⟩, hbx2⟩, hB.trans hb2⟩
                  exact AllReadyIn.nil
                exact AllReadyIn.nil
              exact AllReadyIn.nil
            exact AllReadyIn.nil
          exact AllReadyIn.nil
        exact AllReadyIn.nil
      exact AllReadyIn.nil
    refine AllReadyIn.cons rfl (fun K hK => ?_) ?_
    · go_simp
      refine hK _ _ ?_
      clear hK K
      refine wpAnyIn_ready (rs := [0, 1]) (by kernel_rfl) (by simp) ?_
      refine AllReadyIn.cons rfl (fun K hK => ?_) ?_
      · go_simp
        refine hK _ _ ?_
        clear hK K
        refine wpAnyIn_ready (rs := [1]) (by kernel_rfl) (by simp) ?_
        refine AllReadyIn.cons rfl (fun K hK => ?_) ?_
        · go_simp
          refine hK _ _ ?_
          clear hK K
          refine wpAnyIn_ready (rs := [2]) (by kernel_rfl) (by simp) ?_
          refine AllReadyIn.cons rfl (fun K hK => ?_) ?_
          · go_simp
            refine ⟨trivial, ?_⟩
            gi_at_call 62
            refine (CallsIn.inRound l (callsIn_wide.2 (widthOf_c _ _ _ _ xs HW.out Hm.out hm1 hn))).mono ?_
            rintro e w3 ⟨rfl, rfl⟩
            go_simp
            refine hK _ _ ?_
            clear hK K
            refine wpAnyIn_ready (rs := [4]) (by kernel_rfl) (by simp) ?_
            refine AllReadyIn.cons rfl (fun K hK => ?_) ?_
            · go_simp
              refine hK _ _ ?_
              clear hK K
              refine wpAnyIn_ready (rs := [5]) (by kernel_rfl) (by simp) ?_
              refine AllReadyIn.cons rfl (fun K hK => ?_) ?_
              · go_simp
                refine hK _ _ ?_
                clear hK K
                refine wpAnyIn_ready (rs := [6]) (by kernel_rfl) (by simp) ?_
                refine AllReadyIn.cons rfl (fun K hK => ?_) ?_
                · rw [if_pos (show Region.wanted _ _ = true from rfl)]
                  refine opIn_append_own _ _ _ 22 rfl w1.heap.size 3 i0 (.int .i64 0) 1 8 Try.underlying22 hi hz0 hz1 hz2 rfl (by decide) _ _ _ rfl (hrow.alloc (.cells #[.int .i64 (X - x.2.1)] 3)) ⟨W.heap.size, 0, none⟩ 1 1 [.int .i64 (X - x.2.1)] rfl rfl (fun j u h => cell_one_new W (.int .i64 (X - x.2.1)) 3 j u h) (by simp [Value.oneCell']) hb63 hb47 hbz ?_
                  intro v' w4 hown' hgrow
                  obtain ⟨g', cap', rfl⟩ := ownsRow_succ hown'
                  obtain ⟨hv1, hv2, hr2, hk2, hb2⟩ := hv.appended (tmp := .cells #[.int .i64 (X - x.2.1)] 3) (by decide) hrow hB.size (Nat.le_refl _) hown' ⟨hgrow.os, hgrow.tape, hgrow.output, hgrow.size, hgrow.block⟩
                  have hc4 := hv1.cell
                  have hf4 := hv1.frozen
                  go_simp
                  refine hK _ _ ?_
                  clear hK K
                  refine wpAnyIn_ready (rs := [7]) (by kernel_rfl) (by simp) ?_
                  refine AllReadyIn.cons rfl (fun K hK => ?_) ?_
                  · go_simp
                    refine hK _ _ ?_
                    clear hK K
                    refine wpAnyIn_done (by kernel_rfl) ?_ _
                    have hr3 : (w4.setCell ⟨w1.heap.size, 0, none⟩ (.slice (some ⟨g', 0, none⟩) (pre.length + 1) cap')).ownsRow w1.heap.size 3 1 (.slice (some ⟨g', 0, none⟩) (pre.length + 1) cap') (pre ++ [x]).length ((bkO X (pre ++ [x])).map (Value.int .i64)) := by
                      rw [bkO_snoc, List.map_append, List.length_append]
                      exact hr2
                    have hbx2 : Boxed (w4.setCell ⟨w1.heap.size, 0, none⟩ (.slice (some ⟨g', 0, none⟩) (pre.length + 1) cap')) (w1.heap.size + 1) 22 (.slice A m c) := ((hbx.alloc (.cells #[.int .i64 (X - x.2.1)] 3)).kept (⟨hgrow.os, hgrow.tape, hgrow.output, hgrow.size, hgrow.block⟩ : (W.alloc (.cells #[.int .i64 (X - x.2.1)] 3)).grownBy w4 v.ownBlock) (hbx.not_row (by decide) hrow)).kept (grownBy_setCell' w4 w1.heap.size _) (by simp)
                    exact ⟨hk2.from _, ⟨hb2, fun u hu => hbx2.cell.trans (hbx.cell.symm.trans hu)⟩, ⟨⟨_, hv2, hr3, trivial⟩, hbx2⟩, hB.trans hb2⟩
                  exact AllReadyIn.nil
                exact AllReadyIn.nil
              exact AllReadyIn.nil
            exact AllReadyIn.nil
          exact AllReadyIn.nil
        exact AllReadyIn.nil
      refine AllReadyIn.cons rfl (fun K hK => ?_) ?_
      · go_simp
        refine hK _ _ ?_
        clear hK K
        refine wpAnyIn_ready (rs := [0, 2]) (by kernel_rfl) (by simp) ?_
        refine AllReadyIn.cons rfl (fun K hK => ?_) ?_
        · go_simp
          refine hK _ _ ?_
          clear hK K
          refine wpAnyIn_ready (rs := [2]) (by kernel_rfl) (by simp) ?_
          refine AllReadyIn.cons rfl (fun K hK => ?_) ?_
          · go_simp
            refine ⟨trivial, ?_⟩
            gi_at_call 62
            refine (CallsIn.inRound l (callsIn_wide.2 (widthOf_c _ _ _ _ xs HW.out Hm.out hm1 hn))).mono ?_
            rintro e w3 ⟨rfl, rfl⟩
            go_simp
            refine hK _ _ ?_
            clear hK K
            refine wpAnyIn_ready (rs := [4]) (by kernel_rfl) (by simp) ?_
            refine AllReadyIn.cons rfl (fun K hK => ?_) ?_
            · go_simp
              refine hK _ _ ?_
              clear hK K
              refine wpAnyIn_ready (rs := [5]) (by kernel_rfl) (by simp) ?_
              refine AllReadyIn.cons rfl (fun K hK => ?_) ?_
              · go_simp
                refine hK _ _ ?_
                clear hK K
                refine wpAnyIn_ready (rs := [6]) (by kernel_rfl) (by simp) ?_
                refine AllReadyIn.cons rfl (fun K hK => ?_) ?_
                · rw [if_pos (show Region.wanted _ _ = true from rfl)]
                  refine opIn_append_own _ _ _ 22 rfl w1.heap.size 3 i0 (.int .i64 0) 1 8 Try.underlying22 hi hz0 hz1 hz2 rfl (by decide) _ _ _ rfl (hrow.alloc (.cells #[.int .i64 (X - x.2.1)] 3)) ⟨W.heap.size, 0, none⟩ 1 1 [.int .i64 (X - x.2.1)] rfl rfl (fun j u h => cell_one_new W (.int .i64 (X - x.2.1)) 3 j u h) (by simp [Value.oneCell']) hb63 hb47 hbz ?_
                  intro v' w4 hown' hgrow
                  obtain ⟨g', cap', rfl⟩ := ownsRow_succ hown'
                  obtain ⟨hv1, hv2, hr2, hk2, hb2⟩ := hv.appended (tmp := .cells #[.int .i64 (X - x.2.1)] 3) (by decide) hrow hB.size (Nat.le_refl _) hown' ⟨hgrow.os, hgrow.tape, hgrow.output, hgrow.size, hgrow.block⟩
                  have hc4 := hv1.cell
                  have hf4 := hv1.frozen
                  go_simp
                  refine hK _ _ ?_
                  clear hK K
                  refine wpAnyIn_ready (rs := [7]) (by kernel_rfl) (by simp) ?_
                  refine AllReadyIn.cons rfl (fun K hK => ?_) ?_
                  · go_simp
                    refine hK _ _ ?_
                    clear hK K
                    refine wpAnyIn_done (by kernel_rfl) ?_ _
                    have hr3 : (w4.setCell ⟨w1.heap.size, 0, none⟩ (.slice (some ⟨g', 0, none⟩) (pre.length + 1) cap')).ownsRow w1.heap.size 3 1 (.slice (some ⟨g', 0, none⟩) (pre.length + 1) cap') (pre ++ [x]).length ((bkO X (pre ++ [x])).map (Value.int .i64)) := by
                      rw [bkO_snoc, List.map_append, List.length_append]
                      exact hr2
                    have hbx2 : Boxed (w4.setCell ⟨w1.heap.size, 0, none⟩ (.slice (some ⟨g', 0, none⟩) (pre.length + 1) cap')) (w1.heap.size + 1) 22 (.slice A m c) := ((hbx.alloc (.cells #[.int .i64 (X - x.2.1)] 3)).kept (⟨hgrow.os, hgrow.tape, hgrow.output, hgrow.size, hgrow.block⟩ : (W.alloc (.cells #[.int .i64 (X - x.2.1)] 3)).grownBy w4 v.ownBlock) (hbx.not_row (by decide) hrow)).kept (grownBy_setCell' w4 w1.heap.size _) (by simp)
                    exact ⟨hk2.from _, ⟨hb2, fun u hu => hbx2.cell.trans (hbx.cell.symm.trans hu)⟩, ⟨⟨_, hv2, hr3, trivial⟩, hbx2⟩, hB.trans hb2⟩
                  exact AllReadyIn.nil
                exact AllReadyIn.nil
              exact AllReadyIn.nil
            exact AllReadyIn.nil
          exact AllReadyIn.nil
        refine AllReadyIn.cons rfl (fun K hK => ?_) ?_
        · go_simp
          refine ⟨trivial, ?_⟩
          gi_at_call 62
          refine (CallsIn.inRound l (callsIn_wide.2 (widthOf_c _ _ _ _ xs HW.out Hm.out hm1 hn))).mono ?_
          rintro e w3 ⟨rfl, rfl⟩
          go_simp
          refine hK _ _ ?_
          clear hK K
          refine wpAnyIn_ready (rs := [0, 4]) (by kernel_rfl) (by simp) ?_
          refine AllReadyIn.cons rfl (fun K hK => ?_) ?_
          · go_simp
            refine hK _ _ ?_
            clear hK K
            refine wpAnyIn_ready (rs := [4]) (by kernel_rfl) (by simp) ?_
            refine AllReadyIn.cons rfl (fun K hK => ?_) ?_
            · go_simp
              refine hK _ _ ?_
              clear hK K
              refine wpAnyIn_ready (rs := [5]) (by kernel_rfl) (by simp) ?_
              refine AllReadyIn.cons rfl (fun K hK => ?_) ?_
              · go_simp
                refine hK _ _ ?_
                clear hK K
                refine wpAnyIn_ready (rs := [6]) (by kernel_rfl) (by simp) ?_
                refine AllReadyIn.cons rfl (fun K hK => ?_) ?_
                · rw [if_pos (show Region.wanted _ _ = true from rfl)]
                  refine opIn_append_own _ _ _ 22 rfl w1.heap.size 3 i0 (.int .i64 0) 1 8 Try.underlying22 hi hz0 hz1 hz2 rfl (by decide) _ _ _ rfl (hrow.alloc (.cells #[.int .i64 (X - x.2.1)] 3)) ⟨W.heap.size, 0, none⟩ 1 1 [.int .i64 (X - x.2.1)] rfl rfl (fun j u h => cell_one_new W (.int .i64 (X - x.2.1)) 3 j u h) (by simp [Value.oneCell']) hb63 hb47 hbz ?_
                  intro v' w4 hown' hgrow
                  obtain ⟨g', cap', rfl⟩ := ownsRow_succ hown'
                  obtain ⟨hv1, hv2, hr2, hk2, hb2⟩ := hv.appended (tmp := .cells #[.int .i64 (X - x.2.1)] 3) (by decide) hrow hB.size (Nat.le_refl _) hown' ⟨hgrow.os, hgrow.tape, hgrow.output, hgrow.size, hgrow.block⟩
                  have hc4 := hv1.cell
                  have hf4 := hv1.frozen
                  go_simp
                  refine hK _ _ ?_
                  clear hK K
                  refine wpAnyIn_ready (rs := [7]) (by kernel_rfl) (by simp) ?_
                  refine AllReadyIn.cons rfl (fun K hK => ?_) ?_
                  · go_simp
                    refine hK _ _ ?_
                    clear hK K
                    refine wpAnyIn_done (by kernel_rfl) ?_ _
                    have hr3 : (w4.setCell ⟨w1.heap.size, 0, none⟩ (.slice (some ⟨g', 0, none⟩) (pre.length + 1) cap')).ownsRow w1.heap.size 3 1 (.slice (some ⟨g', 0, none⟩) (pre.length + 1) cap') (pre ++ [x]).length ((bkO X (pre ++ [x])).map (Value.int .i64)) := by
                      rw [bkO_snoc, List.map_append, List.length_append]
                      exact hr2
                    have hbx2 : Boxed (w4.setCell ⟨w1.heap.size, 0, none⟩ (.slice (some ⟨g', 0, none⟩) (pre.length + 1) cap')) (w1.heap.size + 1) 22 (.slice A m c) := ((hbx.alloc (.cells #[.int .i64 (X - x.2.1)] 3)).kept (⟨hgrow.os, hgrow.tape, hgrow.output, hgrow.size, hgrow.block⟩ : (W.alloc (.cells #[.int .i64 (X - x.2.1)] 3)).grownBy w4 v.ownBlock) (hbx.not_row (by decide) hrow)).kept (grownBy_setCell' w4 w1.heap.size _) (by simp)
                    exact ⟨hk2.from _, ⟨hb2, fun u hu => hbx2.cell.trans (hbx.cell.symm.trans hu)⟩, ⟨⟨_, hv2, hr3, trivial⟩, hbx2⟩, hB.trans hb2⟩
                  exact AllReadyIn.nil
                exact AllReadyIn.nil
              exact AllReadyIn.nil
            exact AllReadyIn.nil
          refine AllReadyIn.cons rfl (fun K hK => ?_) ?_
          · go_simp
            refine hK _ _ ?_
            clear hK K
            refine wpAnyIn_ready (rs := [0, 5]) (by kernel_rfl) (by simp) ?_
            refine AllReadyIn.cons rfl (fun K hK => ?_) ?_
            · go_simp
              refine hK _ _ ?_
              clear hK K
              refine wpAnyIn_ready (rs := [5]) (by kernel_rfl) (by simp) ?_
              refine AllReadyIn.cons rfl (fun K hK => ?_) ?_
              · go_simp
                refine hK _ _ ?_
                clear hK K
                refine wpAnyIn_ready (rs := [6]) (by kernel_rfl) (by simp) ?_
                refine AllReadyIn.cons rfl (fun K hK => ?_) ?_
                · rw [if_pos (show Region.wanted _ _ = true from rfl)]
                  refine opIn_append_own _ _ _ 22 rfl w1.heap.size 3 i0 (.int .i64 0) 1 8 Try.underlying22 hi hz0 hz1 hz2 rfl (by decide) _ _ _ rfl (hrow.alloc (.cells #[.int .i64 (X - x.2.1)] 3)) ⟨W.heap.size, 0, none⟩ 1 1 [.int .i64 (X - x.2.1)] rfl rfl (fun j u h => cell_one_new W (.int .i64 (X - x.2.1)) 3 j u h) (by simp [Value.oneCell']) hb63 hb47 hbz ?_
                  intro v' w4 hown' hgrow
                  obtain ⟨g', cap', rfl⟩ := ownsRow_succ hown'
                  obtain ⟨hv1, hv2, hr2, hk2, hb2⟩ := hv.appended (tmp := .cells #[.int .i64 (X - x.2.1)] 3) (by decide) hrow hB.size (Nat.le_refl _) hown' ⟨hgrow.os, hgrow.tape, hgrow.output, hgrow.size, hgrow.block⟩
                  have hc4 := hv1.cell
                  have hf4 := hv1.frozen
                  go_simp
                  refine hK _ _ ?_
                  clear hK K
                  refine wpAnyIn_ready (rs := [7]) (by kernel_rfl) (by simp) ?_
                  refine AllReadyIn.cons rfl (fun K hK => ?_) ?_
                  · go_simp
                    refine hK _ _ ?_
                    clear hK K
                    refine wpAnyIn_done (by kernel_rfl) ?_ _
                    have hr3 : (w4.setCell ⟨w1.heap.size, 0, none⟩ (.slice (some ⟨g', 0, none⟩) (pre.length + 1) cap')).ownsRow w1.heap.size 3 1 (.slice (some ⟨g', 0, none⟩) (pre.length + 1) cap') (pre ++ [x]).length ((bkO X (pre ++ [x])).map (Value.int .i64)) := by
                      rw [bkO_snoc, List.map_append, List.length_append]
                      exact hr2
                    have hbx2 : Boxed (w4.setCell ⟨w1.heap.size, 0, none⟩ (.slice (some ⟨g', 0, none⟩) (pre.length + 1) cap')) (w1.heap.size + 1) 22 (.slice A m c) := ((hbx.alloc (.cells #[.int .i64 (X - x.2.1)] 3)).kept (⟨hgrow.os, hgrow.tape, hgrow.output, hgrow.size, hgrow.block⟩ : (W.alloc (.cells #[.int .i64 (X - x.2.1)] 3)).grownBy w4 v.ownBlock) (hbx.not_row (by decide) hrow)).kept (grownBy_setCell' w4 w1.heap.size _) (by simp)
                    exact ⟨hk2.from _, ⟨hb2, fun u hu => hbx2.cell.trans (hbx.cell.symm.trans hu)⟩, ⟨⟨_, hv2, hr3, trivial⟩, hbx2⟩, hB.trans hb2⟩
                  exact AllReadyIn.nil
                exact AllReadyIn.nil
              exact AllReadyIn.nil
            refine AllReadyIn.cons rfl (fun K hK => ?_) ?_
            · go_simp
              refine hK _ _ ?_
              clear hK K
              refine wpAnyIn_ready (rs := [0]) (by kernel_rfl) (by simp) ?_
              refine AllReadyIn.cons rfl (fun K hK => ?_) ?_
              · go_simp
                refine hK _ _ ?_
                clear hK K
                refine wpAnyIn_ready (rs := [6]) (by kernel_rfl) (by simp) ?_
                refine AllReadyIn.cons rfl (fun K hK => ?_) ?_
                · rw [if_pos (show Region.wanted _ _ = true from rfl)]
                  refine opIn_append_own _ _ _ 22 rfl w1.heap.size 3 i0 (.int .i64 0) 1 8 Try.underlying22 hi hz0 hz1 hz2 rfl (by decide) _ _ _ rfl (hrow.alloc (.cells #[.int .i64 (X - x.2.1)] 3)) ⟨W.heap.size, 0, none⟩ 1 1 [.int .i64 (X - x.2.1)] rfl rfl (fun j u h => cell_one_new W (.int .i64 (X - x.2.1)) 3 j u h) (by simp [Value.oneCell']) hb63 hb47 hbz ?_
                  intro v' w4 hown' hgrow
                  obtain ⟨g', cap', rfl⟩ := ownsRow_succ hown'
                  obtain ⟨hv1, hv2, hr2, hk2, hb2⟩ := hv.appended (tmp := .cells #[.int .i64 (X - x.2.1)] 3) (by decide) hrow hB.size (Nat.le_refl _) hown' ⟨hgrow.os, hgrow.tape, hgrow.output, hgrow.size, hgrow.block⟩
                  have hc4 := hv1.cell
                  have hf4 := hv1.frozen
                  go_simp
                  refine hK _ _ ?_
                  clear hK K
                  refine wpAnyIn_ready (rs := [7]) (by kernel_rfl) (by simp) ?_
                  refine AllReadyIn.cons rfl (fun K hK => ?_) ?_
                  · go_simp
                    refine hK _ _ ?_
                    clear hK K
                    refine wpAnyIn_done (by kernel_rfl) ?_ _
                    have hr3 : (w4.setCell ⟨w1.heap.size, 0, none⟩ (.slice (some ⟨g', 0, none⟩) (pre.length + 1) cap')).ownsRow w1.heap.size 3 1 (.slice (some ⟨g', 0, none⟩) (pre.length + 1) cap') (pre ++ [x]).length ((bkO X (pre ++ [x])).map (Value.int .i64)) := by
                      rw [bkO_snoc, List.map_append, List.length_append]
                      exact hr2
                    have hbx2 : Boxed (w4.setCell ⟨w1.heap.size, 0, none⟩ (.slice (some ⟨g', 0, none⟩) (pre.length + 1) cap')) (w1.heap.size + 1) 22 (.slice A m c) := ((hbx.alloc (.cells #[.int .i64 (X - x.2.1)] 3)).kept (⟨hgrow.os, hgrow.tape, hgrow.output, hgrow.size, hgrow.block⟩ : (W.alloc (.cells #[.int .i64 (X - x.2.1)] 3)).grownBy w4 v.ownBlock) (hbx.not_row (by decide) hrow)).kept (grownBy_setCell' w4 w1.heap.size _) (by simp)
                    exact ⟨hk2.from _, ⟨hb2, fun u hu => hbx2.cell.trans (hbx.cell.symm.trans hu)⟩, ⟨⟨_, hv2, hr3, trivial⟩, hbx2⟩, hB.trans hb2⟩
                  exact AllReadyIn.nil
                exact AllReadyIn.nil
              exact AllReadyIn.nil
            exact AllReadyIn.nil
          exact AllReadyIn.nil
        exact AllReadyIn.nil
      exact AllReadyIn.nil
    exact AllReadyIn.nil
  case done =>
    rintro D ys W hD rfl ⟨⟨⟨v, hv, hrow, -⟩, hbx⟩, hB⟩ hK
    have hcv := hv.cell
    gi_wp2
    refine ⟨by simp, .inl ⟨_, _, rfl, run_takeDeferred hK, ?_⟩⟩
    have hfin := ownsRow_putObj hrow (.deferred none) hK rfl
    have e : bkO X (backO xs m) = bkL xs xs.length := by
      rw [Hm.out, ← HX.out]
      exact bkO_all Hg.out
    rw [← bkO_len X, e] at hfin
    have hDw : w.heap.size ≤ D := by
      have h1 := hb1.size
      rw [World.size_alloc, World.size_alloc] at hD
      omega
    exact ⟨_, results_tmp2 rfl _ _ _, ⟨_, rfl, OwnI.mono hfin hb1.size⟩, (hb1.trans (hB.mono hb1.size)).trans (belowK_b (w := w) (n₀ := w.heap.size) (Nat.le_refl _) W D _ (.deferred none) hDw hK rfl rfl)⟩
  case stop =>
    rintro D c pre W _ _ h _
    exact h.elim

set_option maxHeartbeats 1600000 in
theorem impl_BackPattern_c (w : World) (A : Option Addr) (m c : Nat) (xs : List Int) (hA : Il w A xs) (hm : m = xs.length) (hn : m ≤ 1048576) :
    Calls Try.prog 41 #[.slice A m c] w fun en w' => (∃ v, en = .returned (.tuple #[v, .bool (goodP xs)]) ∧ OwnI w' w.heap.size v (bkV xs)) ∧ Below w.heap.size w w' := by
  cases hg : goodP xs with
  | true =>
    rw [bkV_yes hg]
    exact callsIn_wide.1 (backPattern_in w A m c xs hA hm hn hg)
  | false =>
    rw [bkV_no hg]
    have Hm := Lib.hid hm
    clear hm
    have hB1 : Below w.heap.size w (w.alloc (.cells #[.slice A m c] 22)) := (Below.refl _ w).alloc (Nat.le_refl _) _
    have HA1 := Lib.hid (hA.below hB1)
    go_enter Try.func41, Try.ntmps41
    go_wp2_with (go_at_call 21; refine (implIsPattern_c _ _ _ _ xs HA1.out Hm.out hn).mono ?_; rw [hg]; rintro e w1 ⟨rfl, b1⟩)
    go_ret2
    exact ⟨⟨_, rfl, OwnI.nil _ _⟩, hB1.trans (b1.mono hB1.size)⟩

end Go.Proofs.Ytgnmookklplnmaa
