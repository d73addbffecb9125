import Derived.Test.YtoapidcbmlnjcaaIG
import Derived.Test.YtoapidcbmlnjcaaA3
import Derived.Maps.AppendAt
import Derived.RangeFuncNested
import Derived.RangeFuncBound
import Derived.RangeFuncCalls
import Derived.RangeFuncLeaves
import Derived.RangeFuncBox
import Derived.Shelf.Abstract
import Derived.OwnWalkIn
import Derived.TacticsInMore
import Derived.LoopNIn
import Derived.LoopIn
namespace Go.Proofs.Ytoapidcbmlnjcaa
open Go.RowKit Go.Shelf
attribute [local go_sem] Oper.semAt_some
set_option linter.unusedVariables false
set_option linter.unusedSimpArgs false

/-! A region that draws its order, walked outside of a round, holds within one. -/
section
variable {F : Fence} {n : Nat} {P : Program} {ops : Array Oper} {Q : Exit → Act → World → Prop} {md : Region.Mode}
theorem wpOp_inRound {o : Oper} (l : Nat) (hnd : ∀ c, o.op ≠ .defer c) {a : Act} {w : World} {K : Act → World → Prop} (h : o.wpIn F n P a w K Q) : o.wpIn (F.inRound l) n P a w K Q := by
  unfold Oper.wpIn at *
  refine ⟨h.1, ?_⟩
  have h2 := h.2
  rw [Oper.semAt_eq _ _ _ hnd] at h2 ⊢
  exact h2
theorem wpAny_inRound (l : Nat) (hnd : ∀ (j : Nat) (o : Oper) c, ops[j]? = some o → o.op ≠ .defer c) : ∀ (fuel : Nat) (listed : Array Bool) (a : Act) (w : World), wpAnyIn F n P md ops Q fuel listed a w → wpAnyIn (F.inRound l) n P md ops Q fuel listed a w
  | 0, listed, a, w, h => h
  | fuel + 1, listed, a, w, h => by
    refine ⟨h.1, fun i hi => ?_⟩
    have h2 := wpOpIn_mono (fun a w h => wpAny_inRound l hnd fuel (listed.setIfInBounds i true) a w h) (h.2 i hi)
    unfold wpOpIn at *
    cases ho : ops[i]? with
    | none => simp only [ho] at h2 ⊢; exact h2
    | some o =>
      simp only [ho] at h2 ⊢
      by_cases hw : Region.wanted o (yielded ops a.tmps) = true
      · simp only [hw, if_true] at h2 ⊢
        exact wpOp_inRound l (hnd i o · ho) h2
      · simp only [hw] at h2 ⊢
        exact h2
end

def noDefer (ops : Array Oper) : Bool := ops.toList.all fun o => match o.op with | .defer _ => false | _ => true
theorem noDefer_spec {ops : Array Oper} (h : noDefer ops = true) (j : Nat) (o : Oper) (c : Call) (hj : ops[j]? = some o) : o.op ≠ .defer c := by
  intro e
  have h1 := (List.all_eq_true.1 h) o (by rw [List.mem_iff_getElem?]; exact ⟨j, by rw [Array.getElem?_toList]; exact hj⟩)
  rw [e] at h1
  cases h1
/-- The indices backwards, so many of them. -/
def bkI (m : Nat) : Nat → List { k : Nat // k < m }
  | 0 => []
  | j + 1 => if h : m - 1 - j < m then bkI m j ++ [⟨m - 1 - j, h⟩] else bkI m j
theorem bkI_succ {m j : Nat} (h : j < m) : bkI m (j + 1) = bkI m j ++ [⟨m - 1 - j, by omega⟩] := by rw [bkI, dif_pos (by omega)]
theorem bkI_length {m : Nat} : ∀ {j}, j ≤ m → (bkI m j).length = j
  | 0, _ => rfl
  | j + 1, h => by rw [bkI_succ (by omega), List.length_append, bkI_length (by omega)]; rfl
/-- What a round keeps: what lay below n₀, and the box of the slice. -/
def KBR (n₀ Bs : Nat) (W W' : World) : Prop := Below n₀ W W' ∧ ∀ v, W.cell? ⟨Bs, 0, none⟩ = some v → W'.cell? ⟨Bs, 0, none⟩ = some v
theorem KBR.trans {n₀ Bs : Nat} {A B C : World} (h : KBR n₀ Bs A B) (k : KBR n₀ Bs B C) : KBR n₀ Bs A C := ⟨h.1.trans k.1, fun v hv => k.2 v (h.2 v hv)⟩
set_option maxRecDepth 100000 in
set_option maxHeartbeats 2000000 in
/-- slices.Backward's closure, for every loop body that keeps what lay below n₀. -/
theorem obk1_inR (F : Fence) (n : Nat) (h8 : F.fn 138) (hro : F.round = none) (hn : 1 ≤ n) (l Bs n₀ m cap : Nat) (A : Option Addr) (xs : List Int) (hm : m = xs.length) (hm12 : m ≤ 1000)
    (hA : 0 < xs.length → ∃ b off, A = some ⟨b, off, none⟩ ∧ b < n₀) (J Jx : List { k : Nat // k < m } → World → Prop)
    (hY : ∀ pre x W, J pre W → pre.length < m → YieldAt F (n - 1) Try.prog l #[.int .i64 (x.1 : Int), .int .i64 (ivL xs x.1)] W fun e W' =>
      (e = .returned (.bool true) ∧ J (pre ++ [x]) W' ∧ KBR n₀ Bs W W') ∨ (e = .returned (.bool false) ∧ Jx (pre ++ [x]) W'))
    (W : World) (hBs : W.cell? ⟨Bs, 0, none⟩ = some (.slice A m cap)) (hc : ∀ b off, A = some ⟨b, off, none⟩ → ∀ j, j < m → W.cell? ⟨b, off + j, none⟩ = some (.int .i64 (ivL xs j))) (h0 : J [] W) :
    CallsIn F n Try.prog 138 #[.func (.yield l) #[] #[], .pointer (some ⟨Bs, 0, none⟩)] W fun e W' => (∃ v, e = .returned v) ∧
      ((∃ ys, ys = bkI m m ∧ J ys W') ∨ (∃ pre, (∃ k, k ≤ m ∧ pre = bkI m k) ∧ Jx pre W')) := by
  have Hm := Lib.hid hm
  clear hm
  refine callsIn_of_wp Try.func138 rfl h8 ?_ hro
  simp only [Try.ntmps138, List.size_toArray, List.length_cons, List.length_nil, Nat.reduceAdd, Nat.reduceSub, Array.replicate_succ, Array.replicate_zero, List.push_toArray, List.append_toArray, List.nil_append, List.cons_append]
  gi_wp2
  gi_loopw [3] (fun i wr => ∃ k : Nat, k ≤ m ∧ i = .int .i64 ((k : Int) - 1) ∧ J (bkI m (m - k)) wr ∧ KBR n₀ Bs W wr)
    (fun i _ => (intOf i + 1).toNat)
  case atStart => exact ⟨m, Nat.le_refl _, rfl, by rw [Nat.sub_self]; exact h0, Below.refl _ _, fun _ h => h⟩
  case round =>
    obtain ⟨k, hk, rfl, hJs, hnx⟩ := hrel
    cases k with
    | zero =>
      rw [Nat.sub_zero] at hJs
      gi_wp2
      go_end0
      exact ⟨⟨_, rfl⟩, .inl ⟨_, rfl, hJs⟩⟩
    | succ k =>
      have hlt1 : k < xs.length := by have := Hm.out; omega
      obtain ⟨b, off, rfl, hb⟩ := hA (by omega)
      have hcx : wr.cell? ⟨b, off + k, none⟩ = some (.int .i64 (ivL xs k)) := (hnx.1.cell (p := ⟨b, off + k, none⟩) hb).trans (hc b off rfl k (by omega))
      have hsx : wr.cell? ⟨Bs, 0, none⟩ = some (.slice (some ⟨b, off, none⟩) m cap) := hnx.2 _ hBs
      obtain ⟨fn, tmps, assign, body, hy, hR⟩ := hY _ ⟨k, by omega⟩ wr hJs (by rw [bkI_length (by omega)]; omega)
      dsimp only at hy
      have e1 : (((k + 1 : Nat) : Int) - 1) = (k : Int) := by omega
      have hkm : (k : Int) < (m : Int) := by omega
      have Hb := Lib.hid (show bkI m (m - (k + 1)) ++ [⟨k, by omega⟩] = bkI m (m - k) by
        have h1 : m - k = m - (k + 1) + 1 := by omega
        rw [h1, bkI_succ (by omega)]
        congr 3
        omega)
      gi_wp2
      refine hR.mono ?_
      rintro e W3 (⟨rfl, hJ3, hk3⟩ | ⟨rfl, hJx3⟩)
      · gi_wp2
        go_roundw
        case rel => exact ⟨k, by omega, by simp, by rw [← Hb.out]; exact hJ3, hnx.trans hk3⟩
        case measure => simp [intOf]
      · gi_wp2
        refine bodyPost_ret (results_none rfl _ _ _) rfl ?_
        exact ⟨⟨_, rfl⟩, .inr ⟨_, ⟨m - k, by omega, Hb.out⟩, hJx3⟩⟩

set_option maxHeartbeats 1000000 in
/-- slices.Backward(s): the slice value is boxed; the function value captures the box. -/
theorem obackward_inR (F : Fence) (n : Nat) (h6 : F.fn 122) (hro : F.round = none) (A : Option Addr) (len cap : Nat) (w : World) :
    CallsIn F n Try.prog 122 #[.slice A len cap] w fun e w' => e = .returned (.func (.func 138) #[] #[.pointer (some ⟨w.heap.size, 0, none⟩)]) ∧ w' = w.alloc (.cells #[.slice A len cap] 30) := by
  refine callsIn_of_wp Try.func122 rfl h6 ?_ hro
  simp only [Try.ntmps122, List.size_toArray, List.length_cons, List.length_nil, Nat.reduceAdd, Nat.reduceSub, Array.replicate_succ, Array.replicate_zero, List.push_toArray, List.append_toArray, List.nil_append, List.cons_append]
  gi_wp2
  go_ret
  exact ⟨rfl, rfl⟩

theorem oback_stopsR (F : Fence) (n : Nat) (h8 : F.fn 138) (hro : F.round = none) (hn : 1 ≤ n) (n₀ Bs m cap : Nat) (A : Option Addr) (xs : List Int) (w : World) (hm : m = xs.length) (hm12 : m ≤ 1000)
    (hn₀ : n₀ ≤ w.heap.size) (hBs : Bs < w.heap.size) (hc : w.cell? ⟨Bs, 0, none⟩ = some (.slice A m cap)) (hI : 0 < xs.length → ∃ b off, A = some ⟨b, off, none⟩ ∧ b < n₀ ∧ ∀ j, j < xs.length → w.cell? ⟨b, off + j, none⟩ = some (.int .i64 (ivL xs j))) :
    SeqStopsK F n Try.prog 138 #[.pointer (some ⟨Bs, 0, none⟩)] (fun x : { k : Nat // k < m } => #[Value.int .i64 (x.1 : Int), Value.int .i64 (ivL xs x.1)]) (KBR n₀ Bs) (fun ys => ys = bkI m m)
      (fun pre => ∃ k, k ≤ m ∧ pre = bkI m k) m w := fun l J Jx W hW _ _ hY h0 => by
  have hc' := (hW.cell (p := ⟨Bs, 0, none⟩) hBs).trans hc
  have hA : 0 < xs.length → ∃ b off, A = some ⟨b, off, none⟩ ∧ b < n₀ := fun h => by
    obtain ⟨b, off, e, hb, _⟩ := hI h
    exact ⟨b, off, e, hb⟩
  refine obk1_inR F n h8 hro hn l Bs n₀ m cap A xs hm hm12 hA J Jx hY W hc' ?_ h0
  intro b off e j hj
  obtain ⟨b', off', e', hb', hr'⟩ := hI (by omega)
  rw [e] at e'
  injection e' with e'
  injection e' with e1 e2 _
  subst e1 e2
  exact (hW.cell (p := ⟨b, off + j, none⟩) (Nat.lt_of_lt_of_le hb' hn₀)).trans (hr' j (by omega))


/-- What lies there when the indices pre have come: the rank that is left, the rules, and their slice in its box. -/
def ChI (G : Nat) (w0 : World) (xs : List Int) (r m : Nat) (pre : List { k : Nat // k < m }) (W : World) : Prop :=
  ∃ (z : Nat) (cs : Array Value), z ≤ 1000000 ∧ W.heap[G]? = some (.cells #[.int .i64 (z : Int)] 3 (0, 0)) ∧ W.heap[G + 1]? = some (.cells cs 59 (0, 0)) ∧ cs.size = m * 2 ∧
    W.heap[G + 2]? = some (.cells #[.slice (some ⟨G + 1, 0, none⟩) m m] 26 (0, 0)) ∧ Below G w0 W ∧
    (pre = bkI m pre.length → pre.length ≤ m → z = r / prodN (xs.drop (m - pre.length)) ∧ ∀ k, m - pre.length ≤ k → k < m → cs[k * 2]? = some (.int .i64 (evL (chR xs r) k)) ∧ cs[k * 2 + 1]? = some (.int .i64 (reL (chR xs r) k)))
theorem ChI.kept {G : Nat} {w0 : World} {xs : List Int} {r m : Nat} {pre : List { k : Nat // k < m }} {A B : World} {row : Option Nat} (h : ChI G w0 xs r m pre A) (hG : G ≤ w0.heap.size) (hg : A.grownBy B row) (hr : ∀ q, row = some q → G + 3 ≤ q) : ChI G w0 xs r m pre B := by
  obtain ⟨z, cs, h1, h2, h3, h4, h5, h6, h7⟩ := h
  have l2 := (Array.getElem?_eq_some_iff.1 h5).1
  have key : ∀ k, k < G + 3 → B.heap[k]? = A.heap[k]? := fun k hk => hg.block k (by omega) (fun e => by have := hr k e.symm; omega)
  exact ⟨z, cs, h1, (key G (by omega)).trans h2, (key (G + 1) (by omega)).trans h3, h4, (key (G + 2) (by omega)).trans h5, h6.grown hg (Nat.le_trans hG h6.size) (fun k e => by have := hr k e; omega), h7⟩
theorem ChI.own {G : Nat} {w0 : World} {xs : List Int} {r m : Nat} {W : World} (h : ChI G w0 xs r m (bkI m m) W) (hm : m = xs.length) (hm5 : m ≤ 1000) : OwnR W (G + 1) (.slice (some ⟨G + 1, 0, none⟩) m m) (chR xs r) := by
  obtain ⟨z, cs, _, _, h1, h2, _, _, h7⟩ := h
  rw [bkI_length (Nat.le_refl _)] at h7
  have h3 := (h7 rfl (Nat.le_refl _)).2
  have hl := chR_len xs r
  have he : cs.toList = cellsR (chR xs r) := cellsR_of (by rw [Array.length_toList, h2, hl, hm]) fun k hk => by
    have := h3 k (by omega) (by omega)
    simpa [Array.getElem?_toList] using this
  refine ⟨by rw [cellsR_length], .inr ⟨G + 1, m, cs, by rw [hl, hm], Nat.le_refl _, h1, by rw [hl]; omega, by unfold maxLen; omega, h2, ?_⟩⟩
  rw [he, List.take_of_length_le (by rw [cellsR_length]; omega)]
/-- A round: the rule of the index k is filled, and the rank is divided. -/
theorem ChI.step {G : Nat} {w0 : World} {xs : List Int} {r m : Nat} {pre : List { k : Nat // k < m }} {W' : World} (hm : m = xs.length) (x : { k : Nat // k < m }) (p z : Nat) (cs : Array Value) (hp : ivL xs x.1 = (p : Int)) (hp2 : 2 ≤ p)
    (h1 : z ≤ 1000000) (h4 : cs.size = m * 2) (h7 : pre = bkI m pre.length → pre.length ≤ m → z = r / prodN (xs.drop (m - pre.length)) ∧ ∀ k, m - pre.length ≤ k → k < m → cs[k * 2]? = some (.int .i64 (evL (chR xs r) k)) ∧ cs[k * 2 + 1]? = some (.int .i64 (reL (chR xs r) k)))
    (a2 : W'.heap[G]? = some (.cells #[.int .i64 ((z / p : Nat) : Int)] 3 (0, 0)))
    (a3 : W'.heap[G + 1]? = some (.cells ((cs.setIfInBounds (x.1 * 2) (.int .i64 (p : Int))).setIfInBounds (x.1 * 2 + 1) (.int .i64 ((z % p : Nat) : Int))) 59 (0, 0)))
    (a5 : W'.heap[G + 2]? = some (.cells #[.slice (some ⟨G + 1, 0, none⟩) m m] 26 (0, 0))) (a6 : Below G w0 W') : ChI G w0 xs r m (pre ++ [x]) W' := by
  refine ⟨z / p, _, Nat.le_trans (Nat.div_le_self _ _) h1, a2, a3, by simp [h4], a5, a6, fun e hle => ?_⟩
  rw [List.length_append, List.length_singleton] at e hle ⊢
  have hlt : pre.length < m := by omega
  rw [bkI_succ hlt] at e
  obtain ⟨e1, e2⟩ := List.append_inj' e rfl
  have hx : x.1 = m - 1 - pre.length := by
    have := List.cons.inj e2
    rw [this.1]
  obtain ⟨hz, hcs⟩ := h7 e1 (by omega)
  have hk : m - (pre.length + 1) = x.1 := by omega
  have hk2 : m - pre.length = x.1 + 1 := by omega
  rw [hk2] at hz hcs
  rw [hk]
  have hxl : x.1 < xs.length := by omega
  have hd := prodN_drop hxl
  rw [hp, Int.toNat_natCast] at hd
  refine ⟨by rw [hz, hd, Nat.div_div_eq_div_mul, Nat.mul_comm], fun k hk1 hkm => ?_⟩
  have h2 := x.2
  rcases Nat.lt_or_eq_of_le hk1 with h | h
  · rw [Array.getElem?_setIfInBounds_ne (by omega), Array.getElem?_setIfInBounds_ne (by omega), Array.getElem?_setIfInBounds_ne (by omega), Array.getElem?_setIfInBounds_ne (by omega)]
    exact hcs k (by omega) hkm
  · subst h
    obtain ⟨g1, g2⟩ := chR_ev r hxl
    rw [hp, Int.toNat_natCast, ← hz] at g2
    rw [hp] at g1
    rw [g1, g2, Array.getElem?_setIfInBounds_ne (by omega), Array.getElem?_setIfInBounds_self_of_lt (by omega), Array.getElem?_setIfInBounds_self_of_lt (by simp; omega)]
    exact ⟨rfl, rfl⟩
set_option maxRecDepth 100000 in
set_option maxHeartbeats 4000000 in
theorem choiceOfRank_in (w : World) (A : Option Addr) (m c : Nat) (xs : List Int) (hA : Il w A xs) (hm : m = xs.length) (hg : gpP xs = true) (r : Nat) (hr : r ≤ 1000000) :
    CallsIn Fence.wide 3 Try.prog 92 #[.slice A m c, .int .i64 (r : Int)] w fun en w' => (∃ v, en = .returned v ∧ OwnR w' w.heap.size v (chR xs r)) ∧ Below w.heap.size w w' := by
  have Hm := Lib.hid hm
  have hm5 : m ≤ 5 := by have := (gpP_parts hg).1; omega
  have Hx2 := Lib.hid (fun i (hi : i < xs.length) => dpB_at (gpP_parts hg).2.1 hi)
  have hmk := fun W => mk_full Try.underlying26 info_R m (by omega) (by omega) W
  clear hm hg
  refine callsIn_of_wp_marks Try.func92 rfl trivial ?_ rfl
  simp only [Try.ntmps92, List.size_toArray, List.length_cons, List.length_nil, Nat.reduceAdd, Nat.reduceSub, Array.replicate_succ, Array.replicate_zero, List.push_toArray, List.append_toArray, List.nil_append, List.cons_append]
  gi_wp2_with (first | (refine ⟨trivial, ?_⟩; gi_at_call 122; refine (obackward_inR Fence.wide _ trivial rfl _ _ _ _).mono ?_; rintro e w' ⟨rfl, rfl⟩))
  clear hmk
  obtain ⟨G, hG⟩ : ∃ G, w.heap.size = G := ⟨_, rfl⟩
  obtain ⟨w3, hw3⟩ : ∃ w3, ((w.alloc (.cells #[.int .i64 (r : Int)] 3)).alloc (.cells (madeCells #[.int .i64 0, .int .i64 0] (m * 2)) 59)).alloc (.cells #[.slice (some ⟨w.heap.size + 1, 0, none⟩) m m] 26) = w3 := ⟨_, rfl⟩
  have hs3 : w3.heap.size = G + 3 := by rw [← hw3, ← hG]; simp
  have hb3 : Below G w w3 := by rw [← hw3, ← hG]; exact (((Below.refl _ _).alloc (Nat.le_refl _) _).alloc (by simp) _).alloc (by simp; omega) _
  have p0 : w3.heap[G]? = some (.cells #[.int .i64 (r : Int)] 3 (0, 0)) := by
    rw [← hw3, ← hG, Below.heap_alloc _ _ _ (by simp; omega), Below.heap_alloc _ _ _ (by simp)]
    exact heap_alloc_new w _
  have p1 : w3.heap[G + 1]? = some (.cells (madeCells #[.int .i64 0, .int .i64 0] (m * 2)) 59 (0, 0)) := by
    have := heap_alloc_new (w.alloc (.cells #[.int .i64 (r : Int)] 3)) (.cells (madeCells #[.int .i64 0, .int .i64 0] (m * 2)) 59)
    rw [World.size_alloc, hG] at this
    rw [← hw3, Below.heap_alloc _ _ _ (by simp; omega)]
    exact this
  have p2 : w3.heap[G + 2]? = some (.cells #[.slice (some ⟨G + 1, 0, none⟩) m m] 26 (0, 0)) := by
    have := heap_alloc_new ((w.alloc (.cells #[.int .i64 (r : Int)] 3)).alloc (.cells (madeCells #[.int .i64 0, .int .i64 0] (m * 2)) 59)) (.cells #[.slice (some ⟨w.heap.size + 1, 0, none⟩) m m] 26)
    rw [World.size_alloc, World.size_alloc, hw3, hG] at this
    exact this
  rw [hw3]
  have Hw3 := Lib.hid hw3
  have HG := Lib.hid hG
  have bN := Boxed.new w3 30 (.slice A m c)
  rw [hs3] at bN
  rw [hG]
  have hIs : 0 < xs.length → ∃ b off, A = some ⟨b, off, none⟩ ∧ b < G ∧ ∀ j, j < xs.length → (w3.alloc (.cells #[.slice A m c] 30)).cell? ⟨b, off + j, none⟩ = some (.int .i64 (ivL xs j)) := fun h => by
    obtain ⟨b, off, e, hb, hrr⟩ := hA h
    rw [hG] at hb
    exact ⟨b, off, e, hb, fun j hj => ((hb3.alloc (by omega) _).cell (p := ⟨b, off + j, none⟩) hb).trans (hrr j hj)⟩
  have hchi : ChI G w xs r m [] (w3.alloc (.cells #[.slice A m c] 30)) := by
    refine ⟨r, madeCells #[.int .i64 0, .int .i64 0] (m * 2), hr, (Below.heap_alloc w3 _ _ (by omega)).trans p0, (Below.heap_alloc w3 _ _ (by omega)).trans p1, by rw [size_madeCells], (Below.heap_alloc w3 _ _ (by omega)).trans p2, hb3.alloc (by omega) _, fun _ _ => ⟨?_, fun k h1 h2 => by simp at h1; omega⟩⟩
    have hd : xs.drop (m - ([] : List { k : Nat // k < m }).length) = [] := List.drop_of_length_le (by have := Hm.out; simp; omega)
    rw [hd]
    simp [prodN]
  clear hw3 p0 p1 p2
  refine wpIn_rangeFunc_ownG rfl (by omega) (gf := 138) (lb := #[.pointer (some ⟨G + 3, 0, none⟩)]) (by simp [go_sem, hs3]) trivial (_root_.Go.Proofs.enters_of Try.func138 (by kernel_rfl) rfl)
    (oback_stopsR Fence.wide _ trivial rfl (by omega) G (G + 3) m c A xs _ Hm.out (by omega) (by simp; omega) (by simp; omega) bN.cell hIs)
    KBR.trans (fun W l o o' hl ho hc hw => ⟨belowK_b (by simp; omega) W l o o' hl ho hc hw, fun v hv => cell_kept hv (grownBy_putObj' _ l o') (fun q e => by cases e; exact ⟨_, ho, hc⟩)⟩) (Below.refl _ _) (fun _ => rfl)
    (fun pre W => ChI G w xs r m pre W ∧ Boxed W (G + 3) 30 (.slice A m c))
    (fun _ _ _ => False)
    (fun s X Y row hs hgr hrow => ⟨ChI.kept hs.1 (by omega) hgr (fun q e => by have := (hrow q e).1; simp at this; omega), hs.2.kept hgr (fun e => by have := (hrow _ e.symm).1; simp at this; omega)⟩)
    (fun _ _ _ _ _ hs _ _ => hs)
    ⟨hchi, bN⟩
    (fun x => { tmps := #[.slice A m c, .int .i64 (r : Int), undef, .pointer (some ⟨G, 0, none⟩), .slice none 0 0, .pointer (some ⟨G + 1 + 1, 0, none⟩), .int .i64 (x.1 : Int), .int .i64 (ivL xs x.1), .slice A m c, .int .i64 (m : Int), .slice (some ⟨G + 1, 0, none⟩) m m, .slice A m c, .func (.func 138) #[] #[.pointer (some ⟨G + 1 + 1 + 1, 0, none⟩)], .int .i64 (x.1 : Int), .int .i64 (ivL xs x.1), undef, undef, undef, undef, undef, undef, undef, undef, undef, undef, undef, undef], defers := [] }) ?assign ?body ?done ?stop
  case assign =>
    intro l x W K hK
    gi_wp2
    exact hK
  case body =>
    rintro l pre x W ⟨⟨z, cs, h1, h2, h3, h4, h5, h6, h7⟩, hbx⟩ hlen
    have hxl : x.1 < xs.length := by have := x.2; have := Hm.out; omega
    obtain ⟨q1, q2⟩ := Hx2.out x.1 hxl
    obtain ⟨p, hp⟩ := Int.eq_ofNat_of_zero_le (show 0 ≤ ivL xs x.1 by omega)
    have hp2 : 2 ≤ p := by omega
    have hp9 : p ≤ 13 := by omega
    obtain ⟨k, hk⟩ := x
    dsimp only at hp ⊢
    have H7 := Lib.hid h7
    have H3 := Lib.hid h3
    have Hp := Lib.hid hp
    rw [hp]
    have hki : (k : Int) < (m : Int) := by omega
    have hk0 : (0 : Int) ≤ (k : Int) := Int.natCast_nonneg k
    have c0 : W.cell? ⟨G + 1 + 1, 0, none⟩ = some (.slice (some ⟨G + 1, 0, none⟩) m m) := cell_of_row _ _ 0 _ _ _ h5
    have c1 : W.cell? ⟨G, 0, none⟩ = some (.int .i64 (z : Int)) := cell_of_row _ _ 0 _ _ _ h2
    have f1 : W.frozen? ⟨G, 0, none⟩ = false := frozen_of_row _ _ _ _ _ h2
    have c2 : W.cell? ⟨G + 1, k * 2, none⟩ = some (cs[k * 2]'(by omega)) := (cell_of_row _ _ (k * 2) _ _ _ h3).trans (Array.getElem?_eq_getElem (by omega))
    have c3 : W.cell? ⟨G + 1, k * 2 + 1, none⟩ = some (cs[k * 2 + 1]'(by omega)) := (cell_of_row _ _ (k * 2 + 1) _ _ _ h3).trans (Array.getElem?_eq_getElem (by omega))
    have f2 : W.frozen? ⟨G + 1, k * 2, none⟩ = false := frozen_of_row _ _ _ _ _ h3
    have f3 : W.frozen? ⟨G + 1, k * 2 + 1, none⟩ = false := frozen_of_row _ _ _ _ _ h3
    generalize cs[k * 2]'(by omega) = u2 at c2
    generalize cs[k * 2 + 1]'(by omega) = u3 at c3
    have hpz : ¬ p = 0 := by omega
    have hpi : ¬ (p : Int) = 0 := by omega
    have ht : Int.tmod (z : Int) (p : Int) = ((z % p : Nat) : Int) := rfl
    have hd : Int.tdiv (z : Int) (p : Int) = ((z / p : Nat) : Int) := rfl
    obtain ⟨zm, hzm⟩ : ∃ zm, z % p = zm := ⟨_, rfl⟩
    obtain ⟨zd, hzd⟩ : ∃ zd, z / p = zd := ⟨_, rfl⟩
    have hzm9 : zm ≤ 13 := by have := Nat.mod_lt z (show 0 < p by omega); omega
    have hzd9 : zd ≤ 1000000 := by have := Nat.div_le_self z p; omega
    rw [hzm] at ht
    rw [hzd] at hd
    have hw1 : IntKind.i64.wrap (zm : Int) = (zm : Int) := IntWalk.i64_in _ (by omega)
    have hw2 : IntKind.i64.wrap (zd : Int) = (zd : Int) := IntWalk.i64_in _ (by omega)
    have Hzm := Lib.hid hzm
    have Hzd := Lib.hid hzd
    have n1 : G + 1 ≠ G := by omega
    have n2 : G ≠ G + 1 := by omega
    have n3 : G + 1 + 1 ≠ G := by omega
    have n4 : G + 1 + 1 ≠ G + 1 := by omega
    have H2 := Lib.hid h2
    have H5 := Lib.hid h5
    have H6 := Lib.hid h6
    have H4 := Lib.hid h4
    have Hbx := Lib.hid hbx
    clear h7 h3 hp hzm hzd h2 h5 h6 h4 hbx q1 q2
    gi_wp2
    refine wpIn_region_any (by kernel_rfl) ?_
    refine wpAny_inRound l (noDefer_spec (by kernel_rfl)) _ _ _ _ ?_
    try (change wpAnyIn _ _ _ _ _ _ _ _ _ (World.drew _))
    refine wpAnyIn_take (i := 1) (v := .int .i64 (k : Int)) rfl rfl (by kernel_rfl) (by kernel_rfl) (by kernel_rfl) (fun _ _ _ h => h) ⟨Or.inl ⟨by rfl, fun w => by go_simp⟩, fun _ => rfl⟩ ?_
    refine wpAnyIn_take (i := 2) (v := .int .i64 (p : Int)) rfl rfl (by kernel_rfl) (by kernel_rfl) (by kernel_rfl) (fun _ _ _ h => h) ⟨Or.inl ⟨by rfl, fun w => by go_simp⟩, fun _ => rfl⟩ ?_
    refine wpAnyIn_take (i := 4) (v := .int .i64 (p : Int)) rfl rfl (by kernel_rfl) (by kernel_rfl) (by kernel_rfl) (fun _ _ _ h => h) ⟨Or.inl ⟨by rfl, fun w => by go_simp⟩, fun _ => rfl⟩ ?_
    refine wpAnyIn_ready (rs := [0, 3]) (by kernel_rfl) (by simp) ?_
    refine AllReadyIn.cons rfl (fun K hK => ?_) ?_
    · go_simp
      refine hK _ _ ?_
      clear hK K
      refine wpAnyIn_ready (rs := [3]) (by kernel_rfl) (by simp) ?_
      refine AllReadyIn.cons rfl (fun K hK => ?_) ?_
      · go_simp
        refine hK _ _ ?_
        clear hK K
        refine wpAnyIn_ready (rs := [5]) (by kernel_rfl) (by simp) ?_
        refine AllReadyIn.cons rfl (fun K hK => ?_) ?_
        · go_simp
          refine hK _ _ ?_
          clear hK K
          refine wpAnyIn_ready (rs := [6]) (by kernel_rfl) (by simp) ?_
          refine AllReadyIn.cons rfl (fun K hK => ?_) ?_
          · go_simp
            refine hK _ _ ?_
            clear hK K
            refine wpAnyIn_ready (rs := [7]) (by kernel_rfl) (by simp) ?_
            refine AllReadyIn.cons rfl (fun K hK => ?_) ?_
            · go_simp
              refine hK _ _ ?_
              clear hK K
              refine wpAnyIn_ready (rs := [8]) (by kernel_rfl) (by simp) ?_
              refine AllReadyIn.cons rfl (fun K hK => ?_) ?_
              · go_simp
                refine hK _ _ ?_
                clear hK K
                refine wpAnyIn_done (by kernel_rfl) ?_ _
                gi_wp2
                have hbl : ∀ j, j ≠ G → j ≠ G + 1 → (((W.drew.setCell ⟨G + 1, k * 2, none⟩ (.int .i64 (p : Int))).setCell ⟨G + 1, k * 2 + 1, none⟩ (.int .i64 (zm : Int))).setCell ⟨G, 0, none⟩ (.int .i64 (zd : Int))).heap[j]? = W.heap[j]? := fun j j1 j2 =>
                  (heap_setCell_other _ ⟨G, 0, none⟩ j _ j1).trans ((heap_setCell_other _ ⟨G + 1, k * 2 + 1, none⟩ j _ j2).trans (heap_setCell_other W.drew ⟨G + 1, k * 2, none⟩ j _ j2))
                have a2 : (((W.drew.setCell ⟨G + 1, k * 2, none⟩ (.int .i64 (p : Int))).setCell ⟨G + 1, k * 2 + 1, none⟩ (.int .i64 (zm : Int))).setCell ⟨G, 0, none⟩ (.int .i64 (zd : Int))).heap[G]? = some (.cells #[.int .i64 (zd : Int)] 3 (0, 0)) :=
                  heap_setCell_same _ G 0 _ _ _ ((heap_setCell_other _ ⟨G + 1, k * 2 + 1, none⟩ G _ n2).trans ((heap_setCell_other W.drew ⟨G + 1, k * 2, none⟩ G _ n2).trans H2.out))
                have a3 : (((W.drew.setCell ⟨G + 1, k * 2, none⟩ (.int .i64 (p : Int))).setCell ⟨G + 1, k * 2 + 1, none⟩ (.int .i64 (zm : Int))).setCell ⟨G, 0, none⟩ (.int .i64 (zd : Int))).heap[G + 1]? = some (.cells ((cs.setIfInBounds (k * 2) (.int .i64 (p : Int))).setIfInBounds (k * 2 + 1) (.int .i64 (zm : Int))) 59 (0, 0)) :=
                  (heap_setCell_other _ ⟨G, 0, none⟩ (G + 1) _ n1).trans (heap_setCell_same _ (G + 1) (k * 2 + 1) _ _ _ (heap_setCell_same W.drew (G + 1) (k * 2) _ _ _ H3.out))
                have b9 : Below G W (((W.drew.setCell ⟨G + 1, k * 2, none⟩ (.int .i64 (p : Int))).setCell ⟨G + 1, k * 2 + 1, none⟩ (.int .i64 (zm : Int))).setCell ⟨G, 0, none⟩ (.int .i64 (zd : Int))) :=
                  (((Below.refl G W).drew.setCell (p := ⟨G + 1, k * 2, none⟩) (by show G ≤ G + 1; omega) _).setCell (p := ⟨G + 1, k * 2 + 1, none⟩) (by show G ≤ G + 1; omega) _).setCell (p := ⟨G, 0, none⟩) (Nat.le_refl _) _
                have hbx2 := (hbl (G + 3) (by omega) (by omega)).trans Hbx.out
                refine ⟨((((KeepsOthers.drew W).trans (KeepsOthers.setCell _ _ _)).trans (KeepsOthers.setCell _ _ _)).trans (KeepsOthers.setCell _ _ _)).from _, ⟨b9, fun v hv => (World.cell?_of_block (a := ⟨G + 3, 0, none⟩) (hbl (G + 3) (by omega) (by omega))).trans hv⟩, ChI.step Hm.out ⟨k, hk⟩ p z cs Hp.out hp2 h1 H4.out H7.out (by rw [Hzd.out]; exact a2) (by rw [Hzm.out]; exact a3) ((hbl (G + 2) (by omega) (by omega)).trans H5.out) (H6.out.trans b9), hbx2⟩
              exact AllReadyIn.nil
            exact AllReadyIn.nil
          exact AllReadyIn.nil
        exact AllReadyIn.nil
      exact AllReadyIn.nil
    refine AllReadyIn.cons rfl (fun K hK => ?_) ?_
    · go_simp
      refine hK _ _ ?_
      clear hK K
      refine wpAnyIn_ready (rs := [0, 5]) (by kernel_rfl) (by simp) ?_
      refine AllReadyIn.cons rfl (fun K hK => ?_) ?_
      · go_simp
        refine hK _ _ ?_
        clear hK K
        refine wpAnyIn_ready (rs := [5]) (by kernel_rfl) (by simp) ?_
        refine AllReadyIn.cons rfl (fun K hK => ?_) ?_
        · go_simp
          refine hK _ _ ?_
          clear hK K
          refine wpAnyIn_ready (rs := [6]) (by kernel_rfl) (by simp) ?_
          refine AllReadyIn.cons rfl (fun K hK => ?_) ?_
          · go_simp
            refine hK _ _ ?_
            clear hK K
            refine wpAnyIn_ready (rs := [7]) (by kernel_rfl) (by simp) ?_
            refine AllReadyIn.cons rfl (fun K hK => ?_) ?_
            · go_simp
              refine hK _ _ ?_
              clear hK K
              refine wpAnyIn_ready (rs := [8]) (by kernel_rfl) (by simp) ?_
              refine AllReadyIn.cons rfl (fun K hK => ?_) ?_
              · go_simp
                refine hK _ _ ?_
                clear hK K
                refine wpAnyIn_done (by kernel_rfl) ?_ _
                gi_wp2
                have hbl : ∀ j, j ≠ G → j ≠ G + 1 → (((W.drew.setCell ⟨G + 1, k * 2, none⟩ (.int .i64 (p : Int))).setCell ⟨G + 1, k * 2 + 1, none⟩ (.int .i64 (zm : Int))).setCell ⟨G, 0, none⟩ (.int .i64 (zd : Int))).heap[j]? = W.heap[j]? := fun j j1 j2 =>
                  (heap_setCell_other _ ⟨G, 0, none⟩ j _ j1).trans ((heap_setCell_other _ ⟨G + 1, k * 2 + 1, none⟩ j _ j2).trans (heap_setCell_other W.drew ⟨G + 1, k * 2, none⟩ j _ j2))
                have a2 : (((W.drew.setCell ⟨G + 1, k * 2, none⟩ (.int .i64 (p : Int))).setCell ⟨G + 1, k * 2 + 1, none⟩ (.int .i64 (zm : Int))).setCell ⟨G, 0, none⟩ (.int .i64 (zd : Int))).heap[G]? = some (.cells #[.int .i64 (zd : Int)] 3 (0, 0)) :=
                  heap_setCell_same _ G 0 _ _ _ ((heap_setCell_other _ ⟨G + 1, k * 2 + 1, none⟩ G _ n2).trans ((heap_setCell_other W.drew ⟨G + 1, k * 2, none⟩ G _ n2).trans H2.out))
                have a3 : (((W.drew.setCell ⟨G + 1, k * 2, none⟩ (.int .i64 (p : Int))).setCell ⟨G + 1, k * 2 + 1, none⟩ (.int .i64 (zm : Int))).setCell ⟨G, 0, none⟩ (.int .i64 (zd : Int))).heap[G + 1]? = some (.cells ((cs.setIfInBounds (k * 2) (.int .i64 (p : Int))).setIfInBounds (k * 2 + 1) (.int .i64 (zm : Int))) 59 (0, 0)) :=
                  (heap_setCell_other _ ⟨G, 0, none⟩ (G + 1) _ n1).trans (heap_setCell_same _ (G + 1) (k * 2 + 1) _ _ _ (heap_setCell_same W.drew (G + 1) (k * 2) _ _ _ H3.out))
                have b9 : Below G W (((W.drew.setCell ⟨G + 1, k * 2, none⟩ (.int .i64 (p : Int))).setCell ⟨G + 1, k * 2 + 1, none⟩ (.int .i64 (zm : Int))).setCell ⟨G, 0, none⟩ (.int .i64 (zd : Int))) :=
                  (((Below.refl G W).drew.setCell (p := ⟨G + 1, k * 2, none⟩) (by show G ≤ G + 1; omega) _).setCell (p := ⟨G + 1, k * 2 + 1, none⟩) (by show G ≤ G + 1; omega) _).setCell (p := ⟨G, 0, none⟩) (Nat.le_refl _) _
                have hbx2 := (hbl (G + 3) (by omega) (by omega)).trans Hbx.out
                refine ⟨((((KeepsOthers.drew W).trans (KeepsOthers.setCell _ _ _)).trans (KeepsOthers.setCell _ _ _)).trans (KeepsOthers.setCell _ _ _)).from _, ⟨b9, fun v hv => (World.cell?_of_block (a := ⟨G + 3, 0, none⟩) (hbl (G + 3) (by omega) (by omega))).trans hv⟩, ChI.step Hm.out ⟨k, hk⟩ p z cs Hp.out hp2 h1 H4.out H7.out (by rw [Hzd.out]; exact a2) (by rw [Hzm.out]; exact a3) ((hbl (G + 2) (by omega) (by omega)).trans H5.out) (H6.out.trans b9), hbx2⟩
              exact AllReadyIn.nil
            exact AllReadyIn.nil
          exact AllReadyIn.nil
        exact AllReadyIn.nil
      refine AllReadyIn.cons rfl (fun K hK => ?_) ?_
      · go_simp
        refine hK _ _ ?_
        clear hK K
        refine wpAnyIn_ready (rs := [0, 6]) (by kernel_rfl) (by simp) ?_
        refine AllReadyIn.cons rfl (fun K hK => ?_) ?_
        · go_simp
          refine hK _ _ ?_
          clear hK K
          refine wpAnyIn_ready (rs := [6]) (by kernel_rfl) (by simp) ?_
          refine AllReadyIn.cons rfl (fun K hK => ?_) ?_
          · go_simp
            refine hK _ _ ?_
            clear hK K
            refine wpAnyIn_ready (rs := [7]) (by kernel_rfl) (by simp) ?_
            refine AllReadyIn.cons rfl (fun K hK => ?_) ?_
            · go_simp
              refine hK _ _ ?_
              clear hK K
              refine wpAnyIn_ready (rs := [8]) (by kernel_rfl) (by simp) ?_
              refine AllReadyIn.cons rfl (fun K hK => ?_) ?_
              · go_simp
                refine hK _ _ ?_
                clear hK K
                refine wpAnyIn_done (by kernel_rfl) ?_ _
                gi_wp2
                have hbl : ∀ j, j ≠ G → j ≠ G + 1 → (((W.drew.setCell ⟨G + 1, k * 2, none⟩ (.int .i64 (p : Int))).setCell ⟨G + 1, k * 2 + 1, none⟩ (.int .i64 (zm : Int))).setCell ⟨G, 0, none⟩ (.int .i64 (zd : Int))).heap[j]? = W.heap[j]? := fun j j1 j2 =>
                  (heap_setCell_other _ ⟨G, 0, none⟩ j _ j1).trans ((heap_setCell_other _ ⟨G + 1, k * 2 + 1, none⟩ j _ j2).trans (heap_setCell_other W.drew ⟨G + 1, k * 2, none⟩ j _ j2))
                have a2 : (((W.drew.setCell ⟨G + 1, k * 2, none⟩ (.int .i64 (p : Int))).setCell ⟨G + 1, k * 2 + 1, none⟩ (.int .i64 (zm : Int))).setCell ⟨G, 0, none⟩ (.int .i64 (zd : Int))).heap[G]? = some (.cells #[.int .i64 (zd : Int)] 3 (0, 0)) :=
                  heap_setCell_same _ G 0 _ _ _ ((heap_setCell_other _ ⟨G + 1, k * 2 + 1, none⟩ G _ n2).trans ((heap_setCell_other W.drew ⟨G + 1, k * 2, none⟩ G _ n2).trans H2.out))
                have a3 : (((W.drew.setCell ⟨G + 1, k * 2, none⟩ (.int .i64 (p : Int))).setCell ⟨G + 1, k * 2 + 1, none⟩ (.int .i64 (zm : Int))).setCell ⟨G, 0, none⟩ (.int .i64 (zd : Int))).heap[G + 1]? = some (.cells ((cs.setIfInBounds (k * 2) (.int .i64 (p : Int))).setIfInBounds (k * 2 + 1) (.int .i64 (zm : Int))) 59 (0, 0)) :=
                  (heap_setCell_other _ ⟨G, 0, none⟩ (G + 1) _ n1).trans (heap_setCell_same _ (G + 1) (k * 2 + 1) _ _ _ (heap_setCell_same W.drew (G + 1) (k * 2) _ _ _ H3.out))
                have b9 : Below G W (((W.drew.setCell ⟨G + 1, k * 2, none⟩ (.int .i64 (p : Int))).setCell ⟨G + 1, k * 2 + 1, none⟩ (.int .i64 (zm : Int))).setCell ⟨G, 0, none⟩ (.int .i64 (zd : Int))) :=
                  (((Below.refl G W).drew.setCell (p := ⟨G + 1, k * 2, none⟩) (by show G ≤ G + 1; omega) _).setCell (p := ⟨G + 1, k * 2 + 1, none⟩) (by show G ≤ G + 1; omega) _).setCell (p := ⟨G, 0, none⟩) (Nat.le_refl _) _
                have hbx2 := (hbl (G + 3) (by omega) (by omega)).trans Hbx.out
                refine ⟨((((KeepsOthers.drew W).trans (KeepsOthers.setCell _ _ _)).trans (KeepsOthers.setCell _ _ _)).trans (KeepsOthers.setCell _ _ _)).from _, ⟨b9, fun v hv => (World.cell?_of_block (a := ⟨G + 3, 0, none⟩) (hbl (G + 3) (by omega) (by omega))).trans hv⟩, ChI.step Hm.out ⟨k, hk⟩ p z cs Hp.out hp2 h1 H4.out H7.out (by rw [Hzd.out]; exact a2) (by rw [Hzm.out]; exact a3) ((hbl (G + 2) (by omega) (by omega)).trans H5.out) (H6.out.trans b9), hbx2⟩
              exact AllReadyIn.nil
            exact AllReadyIn.nil
          exact AllReadyIn.nil
        refine AllReadyIn.cons rfl (fun K hK => ?_) ?_
        · go_simp
          refine hK _ _ ?_
          clear hK K
          refine wpAnyIn_ready (rs := [0]) (by kernel_rfl) (by simp) ?_
          refine AllReadyIn.cons rfl (fun K hK => ?_) ?_
          · go_simp
            refine hK _ _ ?_
            clear hK K
            refine wpAnyIn_ready (rs := [7]) (by kernel_rfl) (by simp) ?_
            refine AllReadyIn.cons rfl (fun K hK => ?_) ?_
            · go_simp
              refine hK _ _ ?_
              clear hK K
              refine wpAnyIn_ready (rs := [8]) (by kernel_rfl) (by simp) ?_
              refine AllReadyIn.cons rfl (fun K hK => ?_) ?_
              · go_simp
                refine hK _ _ ?_
                clear hK K
                refine wpAnyIn_done (by kernel_rfl) ?_ _
                gi_wp2
                have hbl : ∀ j, j ≠ G → j ≠ G + 1 → (((W.drew.setCell ⟨G + 1, k * 2, none⟩ (.int .i64 (p : Int))).setCell ⟨G + 1, k * 2 + 1, none⟩ (.int .i64 (zm : Int))).setCell ⟨G, 0, none⟩ (.int .i64 (zd : Int))).heap[j]? = W.heap[j]? := fun j j1 j2 =>
                  (heap_setCell_other _ ⟨G, 0, none⟩ j _ j1).trans ((heap_setCell_other _ ⟨G + 1, k * 2 + 1, none⟩ j _ j2).trans (heap_setCell_other W.drew ⟨G + 1, k * 2, none⟩ j _ j2))
                have a2 : (((W.drew.setCell ⟨G + 1, k * 2, none⟩ (.int .i64 (p : Int))).setCell ⟨G + 1, k * 2 + 1, none⟩ (.int .i64 (zm : Int))).setCell ⟨G, 0, none⟩ (.int .i64 (zd : Int))).heap[G]? = some (.cells #[.int .i64 (zd : Int)] 3 (0, 0)) :=
                  heap_setCell_same _ G 0 _ _ _ ((heap_setCell_other _ ⟨G + 1, k * 2 + 1, none⟩ G _ n2).trans ((heap_setCell_other W.drew ⟨G + 1, k * 2, none⟩ G _ n2).trans H2.out))
                have a3 : (((W.drew.setCell ⟨G + 1, k * 2, none⟩ (.int .i64 (p : Int))).setCell ⟨G + 1, k * 2 + 1, none⟩ (.int .i64 (zm : Int))).setCell ⟨G, 0, none⟩ (.int .i64 (zd : Int))).heap[G + 1]? = some (.cells ((cs.setIfInBounds (k * 2) (.int .i64 (p : Int))).setIfInBounds (k * 2 + 1) (.int .i64 (zm : Int))) 59 (0, 0)) :=
                  (heap_setCell_other _ ⟨G, 0, none⟩ (G + 1) _ n1).trans (heap_setCell_same _ (G + 1) (k * 2 + 1) _ _ _ (heap_setCell_same W.drew (G + 1) (k * 2) _ _ _ H3.out))
                have b9 : Below G W (((W.drew.setCell ⟨G + 1, k * 2, none⟩ (.int .i64 (p : Int))).setCell ⟨G + 1, k * 2 + 1, none⟩ (.int .i64 (zm : Int))).setCell ⟨G, 0, none⟩ (.int .i64 (zd : Int))) :=
                  (((Below.refl G W).drew.setCell (p := ⟨G + 1, k * 2, none⟩) (by show G ≤ G + 1; omega) _).setCell (p := ⟨G + 1, k * 2 + 1, none⟩) (by show G ≤ G + 1; omega) _).setCell (p := ⟨G, 0, none⟩) (Nat.le_refl _) _
                have hbx2 := (hbl (G + 3) (by omega) (by omega)).trans Hbx.out
                refine ⟨((((KeepsOthers.drew W).trans (KeepsOthers.setCell _ _ _)).trans (KeepsOthers.setCell _ _ _)).trans (KeepsOthers.setCell _ _ _)).from _, ⟨b9, fun v hv => (World.cell?_of_block (a := ⟨G + 3, 0, none⟩) (hbl (G + 3) (by omega) (by omega))).trans hv⟩, ChI.step Hm.out ⟨k, hk⟩ p z cs Hp.out hp2 h1 H4.out H7.out (by rw [Hzd.out]; exact a2) (by rw [Hzm.out]; exact a3) ((hbl (G + 2) (by omega) (by omega)).trans H5.out) (H6.out.trans b9), hbx2⟩
              exact AllReadyIn.nil
            exact AllReadyIn.nil
          exact AllReadyIn.nil
        exact AllReadyIn.nil
      exact AllReadyIn.nil
    exact AllReadyIn.nil
  case done =>
    rintro D ys W hD rfl ⟨hch, hbx⟩ hK
    have h5 : W.heap[G + 2]? = some (.cells #[.slice (some ⟨G + 1, 0, none⟩) m m] 26 (0, 0)) := by obtain ⟨_, _, _, _, _, _, h, _⟩ := hch; exact h
    have c0 : W.cell? ⟨G + 1 + 1, 0, none⟩ = some (.slice (some ⟨G + 1, 0, none⟩) m m) := cell_of_row _ _ 0 _ _ _ h5
    have hown := hch.own Hm.out (by omega)
    have hbe : Below G w W := by obtain ⟨_, _, _, _, _, _, _, h, _⟩ := hch; exact h
    gi_wp2
    refine ⟨by simp, .inl ⟨_, _, rfl, run_takeDeferred hK, ?_⟩⟩
    have hfin := ownsRow_putObj hown (.deferred none) hK rfl
    have hDG : G ≤ D := by
      rw [World.size_alloc] at hD
      omega
    exact ⟨_, results_tmp rfl _ _ _, ⟨_, rfl, by rw [HG.out]; exact OwnR.mono hfin (by omega)⟩, by rw [HG.out]; exact hbe.trans (belowK_b (w := w) (n₀ := G) (by rw [HG.out]; exact Nat.le_refl _) W D _ (.deferred none) (by rw [HG.out]; exact hDG) hK rfl rfl)⟩
  case stop =>
    rintro D c pre W _ _ h _
    exact h.elim
theorem choiceOfRank_c (w : World) (A : Option Addr) (m c : Nat) (xs : List Int) (hA : Il w A xs) (hm : m = xs.length) (hg : gpP xs = true) (r : Nat) (hr : r ≤ 1000000) :
    Calls Try.prog 92 #[.slice A m c, .int .i64 (r : Int)] w fun en w' => (∃ v, en = .returned v ∧ OwnR w' w.heap.size v (chR xs r)) ∧ Below w.heap.size w w' :=
  callsIn_wide.1 (choiceOfRank_in w A m c xs hA hm hg r hr)

end Go.Proofs.Ytoapidcbmlnjcaa
