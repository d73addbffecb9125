import Derived.Test.YtgnmookklplnmaaVB
import Derived.Deep.RegionWith
namespace Go.Proofs.Ytgnmookklplnmaa
open Go.RowKit
set_option linter.unusedVariables false
set_option linter.unusedSimpArgs false

theorem step_load_row {P : Program} {ops : Array Oper} {o : Oper} {a : Act} {w : World} {K : Act → World → Prop} {Q : Exit → Act → World → Prop} {E : Prop} (hgd : o.guard = none) (ty : TypeId) (x : Operand) (ho : o.op = .load ty x)
    (g : Nat) (hx : a.eval x = .pointer (some ⟨g, 0, none⟩)) (t : TypeId) (cs : Array Value) (fr : Nat × Nat) (d : TypeDesc) (hg : w.heap[g]? = some (.cells cs t fr))
    (hu : P.underlying ty = some d) (hd : (match d with | .struct _ | .array _ _ => true | _ => false) = true) (hi : (P.info? ty).map (·.size) = some cs.size)
    (h : K (a.put o.dst (.agg cs)) w) : if Region.wanted o (yielded ops a.tmps) = true then Oper.wp P o a w K Q else E := by
  have hw : Region.wanted o (yielded ops a.tmps) = true := by simp [Region.wanted, hgd]
  rw [if_pos hw]
  exact wp_load_row ty x ho g hx t cs fr d hg hu hd hi h
theorem step_store_row {P : Program} {ops : Array Oper} {o : Oper} {a : Act} {w : World} {K : Act → World → Prop} {Q : Exit → Act → World → Prop} {E : Prop} (hgd : o.guard = none) (ty : TypeId) (x y : Operand) (ho : o.op = .store ty x y)
    (g : Nat) (cells : Array Value) (hx : a.eval x = .pointer (some ⟨g, 0, none⟩)) (hy : a.eval y = .agg cells)
    (t : TypeId) (old : Array Value) (hg : w.heap[g]? = some (.cells old t (0, 0))) (hi : (P.info? ty).map (·.size) = some cells.size)
    (hold : old.size = cells.size) (h1 : cells.all (·.oneCell') = true)
    (h : K (a.put o.dst undef) (w.setRow g cells)) : if Region.wanted o (yielded ops a.tmps) = true then Oper.wp P o a w K Q else E := by
  have hw : Region.wanted o (yielded ops a.tmps) = true := by simp [Region.wanted, hgd]
  rw [if_pos hw]
  exact wp_store_row ty x y ho g cells hx hy t old hg hi hold h1 h
theorem results_two_rows {P : Program} {fn : Func} {p q u : Tmp} {ty : TypeId} (h : fn.results = #[.cell p ty, .cell q ty, .tmp u]) (tmps : Array Value) (w : World) (g g2 : Nat) (t t2 : TypeId) (cs cs2 : Array Value) (fr fr2 : Nat × Nat) (d : TypeDesc)
    (hp : tmps.getD p undef = .pointer (some ⟨g, 0, none⟩)) (hq : tmps.getD q undef = .pointer (some ⟨g2, 0, none⟩)) (hg : w.heap[g]? = some (.cells cs t fr)) (hg2 : w.heap[g2]? = some (.cells cs2 t2 fr2))
    (hu : P.underlying ty = some d) (hd : (match d with | .struct _ | .array _ _ => true | _ => false) = true) (hi : (P.info? ty).map (·.size) = some cs.size) (hi2 : (P.info? ty).map (·.size) = some cs2.size) (b : Value) (hb : tmps.getD u undef = b) :
    (results fn tmps).run P w = .ok (.tuple #[.agg cs, .agg cs2, b]) w := by
  subst hb
  have hp' : tmps[p]?.getD undef = .pointer (some ⟨g, 0, none⟩) := by simpa using hp
  have hq' : tmps[q]?.getD undef = .pointer (some ⟨g2, 0, none⟩) := by simpa using hq
  simp [results, h, hp', hq', asAddr, run_loadVar_row w g t ty cs fr d hg hu hd hi, run_loadVar_row w g2 t2 ty cs2 fr2 d hg2 hu hd hi2]

/-- Eight numbers, their cells. -/
def arF (f : Nat → Int) : Array Value := ((List.range 8).map fun i => Value.int .i64 (f i)).toArray
theorem arF_size (f : Nat → Int) : (arF f).size = 8 := by simp [arF]
theorem arF_get (f : Nat → Int) {k : Nat} (h : k < 8) : (arF f)[k]? = some (.int .i64 (f k)) := by simp [arF, h]
theorem arF_one (f : Nat → Int) : (arF f).all (·.oneCell') = true := by
  rw [Array.all_eq_true_iff_forall_mem]
  intro x hx
  unfold arF at hx
  simp only [List.mem_toArray, List.mem_map] at hx
  obtain ⟨j, _, rfl⟩ := hx
  rfl
theorem arF_set {f g : Nat → Int} {k : Nat} {x : Int} (hk : k < 8) (hx : g k = x) (h : ∀ i, i < 8 → i ≠ k → g i = f i) : (arF f).setIfInBounds k (.int .i64 x) = arF g := by
  apply Array.ext_getElem?
  intro i
  by_cases hi : i < 8
  · by_cases hik : i = k
    · subst hik
      rw [Array.getElem?_setIfInBounds_self_of_lt (by rw [arF_size]; exact hk), arF_get g hi, hx]
    · rw [Array.getElem?_setIfInBounds_ne (by omega), arF_get f hi, arF_get g hi, h i hi hik]
  · rw [Array.getElem?_eq_none (by rw [Array.size_setIfInBounds, arF_size]; omega), Array.getElem?_eq_none (by rw [arF_size]; omega)]
theorem arF_zero : (#[.int .i64 0, .int .i64 0, .int .i64 0, .int .i64 0, .int .i64 0, .int .i64 0, .int .i64 0, .int .i64 0] : Array Value) = arF fun _ => 0 := rfl
theorem arF_nat {xs : List Nat} {f : Nat → Int} (hl : xs.length = 8) (h : ∀ i, i < 8 → f i = (ivN xs i : Int)) : arF f = arN xs := by
  apply Array.ext_getElem?
  intro i
  by_cases hi : i < 8
  · rw [arF_get f hi, arN_get (by omega), h i hi]
  · rw [Array.getElem?_eq_none (by rw [arF_size]; omega), Array.getElem?_eq_none (by rw [arN_size]; omega)]
/-- The outermost patterns, as they are filled in: k rounds are over. -/
def foF (k i : Nat) : Int := if i < k then 2 * (i : Int) else 0
def loF (n W k i : Nat) : Int := if i < k then (W : Int) - 2 * ((n : Int) - 1 - (i : Int)) else 0
def fiF (n W i : Nat) : Int := if i + 1 = n then (W : Int) else foF n i
def laF (n W i : Nat) : Int := if i = 0 then 0 else loF n W n i
def fiL (n W : Nat) : List Int := (List.range n).map (fiF n W)
theorem fiL_len (n W : Nat) : (fiL n W).length = n := by simp [fiL]
theorem fiL_at {n W k : Nat} (h : k < n) : ivL (fiL n W) k = fiF n W k := by simp [fiL, ivL, h]
theorem good_all : (List.range 6).all (fun n => (List.range 31).all fun W => (Nat.beq (W % 2) 0 && goodP (fiL (n + 1) W)) == goodW (n + 1) W) = true := by decide +kernel
theorem good_at {n W : Nat} (h1 : 1 ≤ n) (h6 : n ≤ 6) (hW : W ≤ 30) : (Nat.beq (W % 2) 0 && goodP (fiL n W)) = goodW n W := by
  have h := List.all_eq_true.1 good_all (n - 1) (List.mem_range.2 (by omega))
  have h2 := List.all_eq_true.1 h W (List.mem_range.2 (by omega))
  rw [show n - 1 + 1 = n by omega] at h2
  exact beq_iff_eq.1 h2
theorem goodW_parts {n W : Nat} (h1 : 1 ≤ n) (h : goodW n W = true) : W % 2 = 0 ∧ (n = 1 → W = 0) ∧ (2 ≤ n → 2 * (n - 2) < W) := by
  rw [goodW, Bool.and_eq_true] at h
  refine ⟨nbeq.1 h.1, fun e => ?_, fun e => ?_⟩
  · have h2 := h.2
    rw [nbeq.2 e] at h2
    exact nbeq.1 h2
  · have h2 := h.2
    have h3 : Nat.beq n 1 = false := Bool.eq_false_iff.2 fun h => by have := nbeq.1 h; omega
    rw [h3] at h2
    exact Nat.le_of_ble_eq_true h2
theorem fiP_len (n W : Nat) : (fiP n W).length = 8 := by simp [fiP]
theorem laP_len (n W : Nat) : (laP n W).length = 8 := by simp [laP]
theorem cond_beq {α : Type} {a b : Nat} {x y : α} : cond (Nat.beq a b) x y = if a = b then x else y := by
  by_cases h : a = b
  · rw [nbeq.2 h, if_pos h]; rfl
  · rw [Bool.eq_false_iff.2 fun h2 => h (nbeq.1 h2), if_neg h]; rfl
theorem cond_ble {α : Type} {a b : Nat} {x y : α} : cond (Nat.ble a b) x y = if a ≤ b then x else y := by
  by_cases h : a ≤ b
  · rw [Nat.ble_eq_true_of_le h, if_pos h]; rfl
  · rw [Bool.eq_false_iff.2 fun h2 => h (Nat.le_of_ble_eq_true h2), if_neg h]; rfl
theorem fiF_nat {n W : Nat} {i : Nat} (hi : i < 8) : fiF n W i = (ivN (fiP n W) i : Int) := by
  rw [ivN_get, fiP]
  simp only [List.getD_eq_getElem?_getD, List.getElem?_map, List.getElem?_range hi, Option.map_some, Option.getD_some]
  rw [fiF, foF, cond_beq, cond_ble]
  by_cases h1 : i + 1 = n
  · rw [if_pos h1, if_pos h1]
  · rw [if_neg h1, if_neg h1]
    by_cases h2 : i + 1 ≤ n
    · rw [if_pos (by omega), if_pos h2]; omega
    · rw [if_neg (by omega), if_neg h2]; rfl
theorem laF_nat {n W : Nat} (h1 : 1 ≤ n) (hg : goodW n W = true) {i : Nat} (hi : i < 8) : laF n W i = (ivN (laP n W) i : Int) := by
  obtain ⟨_, g1, g2⟩ := goodW_parts h1 hg
  rw [ivN_get, laP]
  simp only [List.getD_eq_getElem?_getD, List.getElem?_map, List.getElem?_range hi, Option.map_some, Option.getD_some]
  rw [laF, loF, cond_beq, cond_ble]
  by_cases h1 : i = 0
  · rw [if_pos h1, if_pos h1]; rfl
  · rw [if_neg h1, if_neg h1]
    by_cases h2 : i + 1 ≤ n
    · have := g2 (by omega)
      rw [if_pos (by omega), if_pos h2]; omega
    · rw [if_neg (by omega), if_neg h2]; rfl

theorem set8_arr {cs : Array Value} (hs : cs.size = 8) (f : Nat → Int) : (((((((cs.setIfInBounds 0 (.int .i64 (f 0))).setIfInBounds 1 (.int .i64 (f 1))).setIfInBounds 2 (.int .i64 (f 2))).setIfInBounds 3 (.int .i64 (f 3))).setIfInBounds 4 (.int .i64 (f 4))).setIfInBounds 5 (.int .i64 (f 5))).setIfInBounds 6 (.int .i64 (f 6))).setIfInBounds 7 (.int .i64 (f 7)) = arF f := by
  apply Array.ext_getElem?
  intro i
  by_cases hi : i < 8
  · rw [arF_get f hi]
    match i, hi with
    | 0, _ => simp [Array.getElem?_setIfInBounds, hs]
    | 1, _ => simp [Array.getElem?_setIfInBounds, hs]
    | 2, _ => simp [Array.getElem?_setIfInBounds, hs]
    | 3, _ => simp [Array.getElem?_setIfInBounds, hs]
    | 4, _ => simp [Array.getElem?_setIfInBounds, hs]
    | 5, _ => simp [Array.getElem?_setIfInBounds, hs]
    | 6, _ => simp [Array.getElem?_setIfInBounds, hs]
    | 7, _ => simp [Array.getElem?_setIfInBounds, hs]
  · rw [Array.getElem?_eq_none (by simp [hs]; omega), Array.getElem?_eq_none (by rw [arF_size]; omega)]
/-- Eight stores, one behind the other. -/
def set8 (W : World) (g : Nat) (f : Nat → Int) : World := (((((((W.setCell ⟨g, 0, none⟩ (.int .i64 (f 0))).setCell ⟨g, 1, none⟩ (.int .i64 (f 1))).setCell ⟨g, 2, none⟩ (.int .i64 (f 2))).setCell ⟨g, 3, none⟩ (.int .i64 (f 3))).setCell ⟨g, 4, none⟩ (.int .i64 (f 4))).setCell ⟨g, 5, none⟩ (.int .i64 (f 5))).setCell ⟨g, 6, none⟩ (.int .i64 (f 6))).setCell ⟨g, 7, none⟩ (.int .i64 (f 7))
theorem set8_heap {W : World} {g : Nat} {t : TypeId} {cs : Array Value} (h : W.heap[g]? = some (.cells cs t (0, 0))) (hs : cs.size = 8) (f : Nat → Int) : (set8 W g f).heap[g]? = some (.cells (arF f) t (0, 0)) := by
  have h0 := heap_setCell_same _ _ 0 _ _ (.int .i64 (f 0)) h
  have h1 := heap_setCell_same _ _ 1 _ _ (.int .i64 (f 1)) h0
  have h2 := heap_setCell_same _ _ 2 _ _ (.int .i64 (f 2)) h1
  have h3 := heap_setCell_same _ _ 3 _ _ (.int .i64 (f 3)) h2
  have h4 := heap_setCell_same _ _ 4 _ _ (.int .i64 (f 4)) h3
  have h5 := heap_setCell_same _ _ 5 _ _ (.int .i64 (f 5)) h4
  have h6 := heap_setCell_same _ _ 6 _ _ (.int .i64 (f 6)) h5
  have h7 := heap_setCell_same _ _ 7 _ _ (.int .i64 (f 7)) h6
  refine h7.trans ?_
  rw [set8_arr hs f]
theorem set8_other {W : World} {g k : Nat} (h : k ≠ g) (f : Nat → Int) : (set8 W g f).heap[k]? = W.heap[k]? := by
  unfold set8
  rw [heap_setCell_other _ _ _ _ h, heap_setCell_other _ _ _ _ h, heap_setCell_other _ _ _ _ h, heap_setCell_other _ _ _ _ h, heap_setCell_other _ _ _ _ h, heap_setCell_other _ _ _ _ h, heap_setCell_other _ _ _ _ h, heap_setCell_other _ _ _ _ h]
theorem set8_below {s : Nat} {w W : World} {g : Nat} (h : Below s w W) (hg : s ≤ g) (f : Nat → Int) : Below s w (set8 W g f) :=
  (((((((h.setCell (p := ⟨g, 0, none⟩) hg _).setCell (p := ⟨g, 1, none⟩) hg _).setCell (p := ⟨g, 2, none⟩) hg _).setCell (p := ⟨g, 3, none⟩) hg _).setCell (p := ⟨g, 4, none⟩) hg _).setCell (p := ⟨g, 5, none⟩) hg _).setCell (p := ⟨g, 6, none⟩) hg _).setCell (p := ⟨g, 7, none⟩) hg _

set_option maxRecDepth 100000 in
set_option maxHeartbeats 3200000 in
theorem outermost_c (w : World) (n W : Nat) (h1 : 1 ≤ n) (h6 : n ≤ 6) (hW : W ≤ 30) :
    Calls Try.prog 109 #[.int .i64 (n : Int), .int .i64 (W : Int)] w fun en w' => en = .returned (.tuple #[.agg (arF (fiF n W)), .agg (arF (laF n W)), .bool (goodW n W)]) ∧ Below w.heap.size w w' := by
  have Hgood := Lib.hid (good_at h1 h6 hW)
  have Hs8 := Lib.hid size_oP
  go_enter Try.func109, Try.ntmps109
  go_wp2
  obtain ⟨W0, hW0⟩ : ∃ W0, (((w.alloc (.cells #[.int .i64 0, .int .i64 0, .int .i64 0, .int .i64 0, .int .i64 0, .int .i64 0, .int .i64 0, .int .i64 0] 62)).alloc (.cells #[.int .i64 0, .int .i64 0, .int .i64 0, .int .i64 0, .int .i64 0, .int .i64 0, .int .i64 0, .int .i64 0] 62)).alloc (.cells #[.int .i64 0, .int .i64 0, .int .i64 0, .int .i64 0, .int .i64 0, .int .i64 0, .int .i64 0, .int .i64 0] 62)).alloc (.cells #[.int .i64 0, .int .i64 0, .int .i64 0, .int .i64 0, .int .i64 0, .int .i64 0, .int .i64 0, .int .i64 0] 62) = W0 := ⟨_, rfl⟩
  have b0 : Below w.heap.size w W0 := by rw [← hW0]; exact ((((Below.refl _ w).alloc (Nat.le_refl _) _).alloc (by simp) _).alloc (by simp <;> omega) _).alloc (by simp <;> omega) _
  have hs0 : W0.heap.size = w.heap.size + 4 := by rw [← hW0]; simp
  have h0 : ∀ j, j < 4 → W0.heap[w.heap.size + j]? = some (.cells (arF fun _ => 0) 62 (0, 0)) := by
    intro j hj
    rw [← hW0, ← arF_zero]
    match j, hj with
    | 0, _ => exact (((heap_alloc_old _ _ (by simp <;> omega)).trans (heap_alloc_old _ _ (by simp <;> omega))).trans (heap_alloc_old _ _ (by simp))).trans (heap_alloc_new w _)
    | 1, _ =>
      have h := heap_alloc_new (w.alloc (.cells #[.int .i64 0, .int .i64 0, .int .i64 0, .int .i64 0, .int .i64 0, .int .i64 0, .int .i64 0, .int .i64 0] 62)) (.cells #[.int .i64 0, .int .i64 0, .int .i64 0, .int .i64 0, .int .i64 0, .int .i64 0, .int .i64 0, .int .i64 0] 62)
      rw [World.size_alloc] at h
      exact ((heap_alloc_old _ _ (by simp <;> omega)).trans (heap_alloc_old _ _ (by simp))).trans h
    | 2, _ =>
      have h := heap_alloc_new ((w.alloc (.cells #[.int .i64 0, .int .i64 0, .int .i64 0, .int .i64 0, .int .i64 0, .int .i64 0, .int .i64 0, .int .i64 0] 62)).alloc (.cells #[.int .i64 0, .int .i64 0, .int .i64 0, .int .i64 0, .int .i64 0, .int .i64 0, .int .i64 0, .int .i64 0] 62)) (.cells #[.int .i64 0, .int .i64 0, .int .i64 0, .int .i64 0, .int .i64 0, .int .i64 0, .int .i64 0, .int .i64 0] 62)
      rw [World.size_alloc, World.size_alloc] at h
      exact (heap_alloc_old _ _ (by simp)).trans h
    | 3, _ =>
      have h := heap_alloc_new (((w.alloc (.cells #[.int .i64 0, .int .i64 0, .int .i64 0, .int .i64 0, .int .i64 0, .int .i64 0, .int .i64 0, .int .i64 0] 62)).alloc (.cells #[.int .i64 0, .int .i64 0, .int .i64 0, .int .i64 0, .int .i64 0, .int .i64 0, .int .i64 0, .int .i64 0] 62)).alloc (.cells #[.int .i64 0, .int .i64 0, .int .i64 0, .int .i64 0, .int .i64 0, .int .i64 0, .int .i64 0, .int .i64 0] 62)) (.cells #[.int .i64 0, .int .i64 0, .int .i64 0, .int .i64 0, .int .i64 0, .int .i64 0, .int .i64 0, .int .i64 0] 62)
      rw [World.size_alloc, World.size_alloc, World.size_alloc] at h
      exact h
  rw [hW0]
  clear hW0
  have HS0 := Lib.hid (h0 0 (by omega))
  have HS1 := Lib.hid (h0 1 (by omega))
  have HS2 := Lib.hid (h0 2 (by omega))
  have HS3 := Lib.hid (h0 3 (by omega))
  clear h0
  have e3 : w.heap.size + 1 + 1 + 1 = w.heap.size + 3 := rfl
  have e2 : w.heap.size + 1 + 1 = w.heap.size + 2 := rfl
  obtain ⟨s, hs⟩ : ∃ s, w.heap.size = s := ⟨_, rfl⟩
  rw [hs] at HS0 HS1 HS2 HS3 b0 hs0 ⊢
  go_loopw [11] (fun i wr => ∃ k : Nat, k ≤ n ∧ i = .int .i64 (k : Int) ∧ wr.heap[s + 0]? = some (.cells (arF fun _ => 0) 62 (0, 0)) ∧ wr.heap[s + 1]? = some (.cells (arF fun _ => 0) 62 (0, 0)) ∧ wr.heap[s + 2]? = some (.cells (arF (foF k)) 62 (0, 0)) ∧ wr.heap[s + 3]? = some (.cells (arF (loF n W k)) 62 (0, 0)) ∧ Below s w wr) (fun i _ => n - (intOf i).toNat)
  case atStart => exact ⟨0, Nat.zero_le _, rfl, HS0.out, HS1.out, HS2.out.trans (by congr), HS3.out.trans (by congr), b0⟩
  case round =>
    obtain ⟨k, hk, rfl, r0, r1, r2, r3, hbel⟩ := hrel
    have R0 := Lib.hid r0
    have R1 := Lib.hid r1
    have R2 := Lib.hid r2
    have R3 := Lib.hid r3
    clear r0 r1 r2 r3
    have hz2 : s + 3 < wr.heap.size := (Array.getElem?_eq_some_iff.1 R3.out).1
    by_cases hlt : k < n
    · have hc2 : wr.cell? ⟨s + 1 + 1, k, none⟩ = some (.int .i64 (foF k k)) := (cell_of_row wr (s + 2) k _ _ _ R2.out).trans (arF_get _ (by omega))
      have hf2 : wr.frozen? ⟨s + 1 + 1, k, none⟩ = false := frozen_of_row wr (s + 2) k _ _ R2.out
      have hc3 : wr.cell? ⟨s + 1 + 1 + 1, k, none⟩ = some (.int .i64 (loF n W k k)) := (cell_of_row wr (s + 3) k _ _ _ R3.out).trans (arF_get _ (by omega))
      have hf3 : wr.frozen? ⟨s + 1 + 1 + 1, k, none⟩ = false := frozen_of_row wr (s + 3) k _ _ R3.out
      have hk8 : (k : Int) < 8 := by omega
      have S2 : Hid ((arF (foF k)).setIfInBounds k (.int .i64 (2 * (k : Int))) = arF (foF (k + 1))) := arF_set (by omega) (by rw [foF, if_pos (by omega)]) (fun i hi hik => by rw [foF, foF]; by_cases h : i < k; rw [if_pos h, if_pos (by omega)]; rw [if_neg h, if_neg (by omega)])
      have S3 : Hid ((arF (loF n W k)).setIfInBounds k (.int .i64 ((W : Int) - 2 * ((n : Int) - 1 - (k : Int)))) = arF (loF n W (k + 1))) := arF_set (by omega) (by rw [loF, if_pos (by omega)]) (fun i hi hik => by rw [loF, loF]; by_cases h : i < k; rw [if_pos h, if_pos (by omega)]; rw [if_neg h, if_neg (by omega)])
      have e1 : IntKind.i64.wrap (2 * (k : Int)) = 2 * (k : Int) := IntWalk.i64_in _ (by omega)
      have e2 : IntKind.i64.wrap (2 * ((n : Int) - 1 - (k : Int))) = 2 * ((n : Int) - 1 - (k : Int)) := IntWalk.i64_in _ (by omega)
      have e3 : IntKind.i64.wrap ((W : Int) - 2 * ((n : Int) - 1 - (k : Int))) = (W : Int) - 2 * ((n : Int) - 1 - (k : Int)) := IntWalk.i64_in _ (by omega)
      go_wp2
      clear e1 e2 e3
      go_roundw
      case rel =>
        refine ⟨k + 1, by omega, by go_num, ?_, ?_, ?_, ?_, (hbel.setCell (by show s ≤ s + 1 + 1; omega) _).setCell (by show s ≤ s + 1 + 1 + 1; omega) _⟩
        · exact (heap_setCell_other _ ⟨s + 1 + 1 + 1, k, none⟩ _ _ (by simp <;> omega)).trans ((heap_setCell_other _ ⟨s + 1 + 1, k, none⟩ _ _ (by simp <;> omega)).trans R0.out)
        · exact (heap_setCell_other _ ⟨s + 1 + 1 + 1, k, none⟩ _ _ (by simp <;> omega)).trans ((heap_setCell_other _ ⟨s + 1 + 1, k, none⟩ _ _ (by simp <;> omega)).trans R1.out)
        · refine (heap_setCell_other _ ⟨s + 1 + 1 + 1, k, none⟩ _ _ (by simp <;> omega)).trans ?_
          refine (heap_setCell_same _ _ _ _ _ _ R2.out).trans ?_
          rw [← S2.out]
        · have h := (heap_setCell_other wr ⟨s + 1 + 1, k, none⟩ (s + 3) (.int .i64 (2 * (k : Int))) (by simp <;> omega)).trans R3.out
          refine (heap_setCell_same _ _ _ _ _ _ h).trans ?_
          rw [← S3.out]
      case measure => simp [intOf]; omega
    · have hkn : k = n := by omega
      subst hkn
      have hc2 : wr.cell? ⟨s + 1 + 1, k - 1, none⟩ = some (.int .i64 (foF k (k - 1))) := (cell_of_row wr (s + 2) (k - 1) _ _ _ R2.out).trans (arF_get _ (by omega))
      have hf2 : wr.frozen? ⟨s + 1 + 1, k - 1, none⟩ = false := frozen_of_row wr (s + 2) (k - 1) _ _ R2.out
      have hc3 : wr.cell? ⟨s + 1 + 1 + 1, 0, none⟩ = some (.int .i64 (loF k W k 0)) := (cell_of_row wr (s + 3) 0 _ _ _ R3.out).trans (arF_get _ (by omega))
      have hf3 : wr.frozen? ⟨s + 1 + 1 + 1, 0, none⟩ = false := frozen_of_row wr (s + 3) 0 _ _ R3.out
      have hk8 : (k : Int) - 1 < 8 := by omega
      have en : (k : Int) - 1 = ((k - 1 : Nat) : Int) := by omega
      have S2 : Hid ((arF (foF k)).setIfInBounds (k - 1) (.int .i64 (W : Int)) = arF (fiF k W)) := arF_set (by omega) (by rw [fiF, if_pos (by omega)]) (fun i hi hik => by rw [fiF, if_neg (by omega)])
      have S3 : Hid ((arF (loF k W k)).setIfInBounds 0 (.int .i64 0) = arF (laF k W)) := arF_set (by omega) (by rw [laF, if_pos rfl]) (fun i hi hik => by rw [laF, if_neg (by omega)])
      go_wp2_with fail
      obtain ⟨W2, hW2⟩ : ∃ W2, (wr.setCell ⟨s + 1 + 1, k - 1, none⟩ (.int .i64 (W : Int))).setCell ⟨s + 1 + 1 + 1, 0, none⟩ (.int .i64 0) = W2 := ⟨_, rfl⟩
      have hb2 : Below s w W2 := by rw [← hW2]; exact (hbel.setCell (by show s ≤ s + 1 + 1; omega) _).setCell (by show s ≤ s + 1 + 1 + 1; omega) _
      have D0 : Hid (W2.drew.heap[s + 0]? = some (.cells (arF fun _ => 0) 62 (0, 0))) := by
        show W2.heap[s + 0]? = _
        rw [← hW2]
        exact (heap_setCell_other _ ⟨s + 1 + 1 + 1, 0, none⟩ _ _ (by simp <;> omega)).trans ((heap_setCell_other _ ⟨s + 1 + 1, k - 1, none⟩ _ _ (by simp <;> omega)).trans R0.out)
      have D1 : Hid (W2.drew.heap[s + 1]? = some (.cells (arF fun _ => 0) 62 (0, 0))) := by
        show W2.heap[s + 1]? = _
        rw [← hW2]
        exact (heap_setCell_other _ ⟨s + 1 + 1 + 1, 0, none⟩ _ _ (by simp <;> omega)).trans ((heap_setCell_other _ ⟨s + 1 + 1, k - 1, none⟩ _ _ (by simp <;> omega)).trans R1.out)
      have D2 : Hid (W2.drew.heap[s + 2]? = some (.cells (arF (fiF k W)) 62 (0, 0))) := by
        show W2.heap[s + 2]? = _
        rw [← hW2, ← S2.out]
        exact (heap_setCell_other _ ⟨s + 1 + 1 + 1, 0, none⟩ _ _ (by simp <;> omega)).trans (heap_setCell_same _ _ _ _ _ _ R2.out)
      have D3 : Hid (W2.drew.heap[s + 3]? = some (.cells (arF (laF k W)) 62 (0, 0))) := by
        show W2.heap[s + 3]? = _
        rw [← hW2, ← S3.out]
        exact heap_setCell_same _ _ _ _ _ _ ((heap_setCell_other wr ⟨s + 1 + 1, k - 1, none⟩ (s + 3) (.int .i64 (W : Int)) (by simp <;> omega)).trans R3.out)
      rw [hW2]
      clear hW2 S2 S3 R0 R1 R2 R3 hc2 hc3 hf2 hf3 HS0 HS1 HS2 HS3 b0 hbel
      have hz3 : s + 3 < W2.drew.heap.size := (Array.getElem?_eq_some_iff.1 D3.out).1
      have hlt0 : s + 0 < W2.drew.heap.size := by omega
      have hlt1 : s + 1 < W2.drew.heap.size := by omega
      have hlt2 : s + 2 < W2.drew.heap.size := by omega
      have hlt3 : s + 3 < W2.drew.heap.size := by omega
      have n3 : s + 3 ≠ s := by omega
      have n1 : s + 1 ≠ s := by omega
      have hbd : Below s w W2.drew := below_drewN hb2 1
      have hsd : s ≤ W2.drew.heap.size := by omega
      have c0a : ∀ j, j < 8 → W2.cell? ⟨s, j, none⟩ = some (.int .i64 (0)) := fun j hj => (cell_of_row W2 (s + 0) j _ _ _ D0.out).trans (arF_get _ hj)
      have f0a : ∀ j, W2.frozen? ⟨s, j, none⟩ = false := fun j => frozen_of_row W2 (s + 0) j _ _ D0.out
      have c1a : ∀ j, j < 8 → W2.cell? ⟨s + 1, j, none⟩ = some (.int .i64 (0)) := fun j hj => (cell_of_row W2 (s + 1) j _ _ _ D1.out).trans (arF_get _ hj)
      have f1a : ∀ j, W2.frozen? ⟨s + 1, j, none⟩ = false := fun j => frozen_of_row W2 (s + 1) j _ _ D1.out
      have c2a : ∀ j, j < 8 → W2.cell? ⟨s + 1 + 1, j, none⟩ = some (.int .i64 (fiF k W j)) := fun j hj => (cell_of_row W2 (s + 2) j _ _ _ D2.out).trans (arF_get _ hj)
      have c3a : ∀ j, j < 8 → W2.cell? ⟨s + 1 + 1 + 1, j, none⟩ = some (.int .i64 (laF k W j)) := fun j hj => (cell_of_row W2 (s + 3) j _ _ _ D3.out).trans (arF_get _ hj)
      have htm : (W : Int).tmod 2 = ((W % 2 : Nat) : Int) := by rw [Int.tmod_eq_emod_of_nonneg (by omega)]; omega
      obtain ⟨S1, hS1, Hs1a, Hs1b, Hs1c⟩ : ∃ S1 : World → World, (∀ X : World, ((((((((X.setCell ⟨s, 0, none⟩ (.int .i64 (fiF k W 0))).setCell ⟨s, 1, none⟩ (.int .i64 (fiF k W 1))).setCell ⟨s, 2, none⟩ (.int .i64 (fiF k W 2))).setCell ⟨s, 3, none⟩ (.int .i64 (fiF k W 3))).setCell ⟨s, 4, none⟩ (.int .i64 (fiF k W 4))).setCell ⟨s, 5, none⟩ (.int .i64 (fiF k W 5))).setCell ⟨s, 6, none⟩ (.int .i64 (fiF k W 6))).setCell ⟨s, 7, none⟩ (.int .i64 (fiF k W 7))) = S1 X) ∧ (∀ X : World, X.heap[s]? = some (.cells (arF fun _ => 0) 62 (0, 0)) → (S1 X).heap[s]? = some (.cells (arF (fiF k W)) 62 (0, 0))) ∧ (∀ (X : World) (j : Nat), j ≠ s → (S1 X).heap[j]? = X.heap[j]?) ∧ (∀ X : World, Below s w X → Below s w (S1 X)) :=
        ⟨fun X => set8 X s (fiF k W), fun _ => rfl, fun X h => set8_heap h (arF_size _) _, fun X j h => set8_other h _, fun X h => set8_below h (Nat.le_refl _) _⟩
      obtain ⟨S2, hS2, Hs2a, Hs2b, Hs2c⟩ : ∃ S2 : World → World, (∀ X : World, ((((((((X.setCell ⟨s + 1, 0, none⟩ (.int .i64 (laF k W 0))).setCell ⟨s + 1, 1, none⟩ (.int .i64 (laF k W 1))).setCell ⟨s + 1, 2, none⟩ (.int .i64 (laF k W 2))).setCell ⟨s + 1, 3, none⟩ (.int .i64 (laF k W 3))).setCell ⟨s + 1, 4, none⟩ (.int .i64 (laF k W 4))).setCell ⟨s + 1, 5, none⟩ (.int .i64 (laF k W 5))).setCell ⟨s + 1, 6, none⟩ (.int .i64 (laF k W 6))).setCell ⟨s + 1, 7, none⟩ (.int .i64 (laF k W 7))) = S2 X) ∧ (∀ X : World, X.heap[s + 1]? = some (.cells (arF fun _ => 0) 62 (0, 0)) → (S2 X).heap[s + 1]? = some (.cells (arF (laF k W)) 62 (0, 0))) ∧ (∀ (X : World) (j : Nat), j ≠ s + 1 → (S2 X).heap[j]? = X.heap[j]?) ∧ (∀ X : World, Below s w X → Below s w (S2 X)) :=
        ⟨fun X => set8 X (s + 1) (laF k W), fun _ => rfl, fun X h => set8_heap h (arF_size _) _, fun X j h => set8_other h _, fun X h => set8_below h (by omega) _⟩
      have HS1 := Lib.hid hS1
      have HS2 := Lib.hid hS2
      have Hfin : Hid (∀ X : World, X.heap[s]? = some (.cells (arF fun _ => 0) 62 (0, 0)) → X.heap[s + 1]? = some (.cells (arF fun _ => 0) 62 (0, 0)) → Below s w X → (S2 (S1 X)).heap[s]? = some (.cells (arF (fiF k W)) 62 (0, 0)) ∧ (S2 (S1 X)).heap[s + 1]? = some (.cells (arF (laF k W)) 62 (0, 0)) ∧ Below s w (S2 (S1 X))) := fun X h1 h2 h3 =>
        ⟨(Hs2b _ _ (Ne.symm n1)).trans (Hs1a _ h1), Hs2a _ ((Hs1b _ _ n1).trans h2), Hs2c _ (Hs1c _ h3)⟩
      clear hS1 hS2 Hs1a Hs1b Hs1c Hs2a Hs2b Hs2c
      by_cases hev : W % 2 = 0
      · have hmod : ((W : Int).tmod 2 == 0) = true := by rw [htm, hev]; rfl
        obtain ⟨T, hT⟩ : ∃ T, goodP (fiL k W) = T := ⟨_, rfl⟩
        have HG := Lib.hid hT
        have HT : Hid (goodW k W = T) := by show _ = _; rw [← Hgood.out, nbeq.2 hev, hT]; rfl
        have HIl := Lib.hid (fiL_len k W).symm
        have HI : Hid (Il W2.drew (some ⟨s + 1 + 1, 0, none⟩) (fiL k W)) := by
          intro hp
          refine ⟨s + 1 + 1, 0, rfl, hlt2, fun j hj => ?_⟩
          rw [fiL_len] at hj
          rw [Nat.zero_add, fiL_at hj]
          exact (cell_of_row W2.drew (s + 2) j _ _ _ D2.out).trans (arF_get _ (by omega))
        clear hT htm
        have hk88 : (k : Int) ≤ 8 := by omega
        first | (go_region_with (go_at_call 21; refine (implIsPattern_c _ _ _ _ (fiL k W) HI.out HIl.out (by omega)).mono ?_; rw [HG.out]; rintro e w5 ⟨rfl, b5⟩; have hb5 := hbd.trans (b5.mono hsd); have q0 := (b5.block (s + 0) hlt0).trans D0.out; have q1 := (b5.block (s + 1) hlt1).trans D1.out; have q2 := (b5.block (s + 2) hlt2).trans D2.out; have q3 := (b5.block (s + 3) hlt3).trans D3.out; have c0b : ∀ j, j < 8 → w5.cell? ⟨s, j, none⟩ = some (.int .i64 (0)) := fun j hj => (cell_of_row w5 (s + 0) j _ _ _ q0).trans (arF_get _ hj); have f0b : ∀ j, w5.frozen? ⟨s, j, none⟩ = false := fun j => frozen_of_row w5 (s + 0) j _ _ q0; have c1b : ∀ j, j < 8 → w5.cell? ⟨s + 1, j, none⟩ = some (.int .i64 (0)) := fun j hj => (cell_of_row w5 (s + 1) j _ _ _ q1).trans (arF_get _ hj); have f1b : ∀ j, w5.frozen? ⟨s + 1, j, none⟩ = false := fun j => frozen_of_row w5 (s + 1) j _ _ q1; have c2b : ∀ j, j < 8 → w5.cell? ⟨s + 1 + 1, j, none⟩ = some (.int .i64 (fiF k W j)) := fun j hj => (cell_of_row w5 (s + 2) j _ _ _ q2).trans (arF_get _ hj); have c3b : ∀ j, j < 8 → w5.cell? ⟨s + 1 + 1 + 1, j, none⟩ = some (.int .i64 (laF k W j)) := fun j hj => (cell_of_row w5 (s + 3) j _ _ _ q3).trans (arF_get _ hj))) | fail
        all_goals (go_simp)
        all_goals (try go_wp2)
        all_goals (try simp only [Exit.inBlock, Exit.then])
        all_goals rw [HS1.out, HS2.out]
        all_goals exact bodyPost_ret (results_two_rows rfl _ (S2 (S1 w5)) s (s + 1) 62 62 (arF (fiF k W)) (arF (laF k W)) (0, 0) (0, 0) _ rfl rfl (Hfin.out w5 q0 q1 hb5).1 (Hfin.out w5 q0 q1 hb5).2.1 Try.underlying62 rfl (Hs8.out.trans (by rw [arF_size])) (Hs8.out.trans (by rw [arF_size])) _ rfl) rfl ⟨by rw [HT.out]; rfl, by first | exact (Hfin.out w5 q0 q1 hb5).2.2 | (rw [hs]; exact (Hfin.out w5 q0 q1 hb5).2.2)⟩
      · have hmod : ((W : Int).tmod 2 == 0) = false := by rw [htm]; exact beq_eq_false_iff_ne.2 (by omega)
        have HT : Hid (goodW k W = false) := by show _ = _; rw [← Hgood.out, Bool.eq_false_iff.2 (fun h => hev (nbeq.1 h))]; rfl
        clear htm
        obtain ⟨g1, g2, gb⟩ := Hfin.out W2 D0.out D1.out hb2
        have Hg1 := Lib.hid g1
        have Hg2 := Lib.hid g2
        have Hbf := Lib.hid gb
        clear g1 g2 gb
        first | (go_region_with (fail)) | fail
        all_goals (go_simp)
        all_goals (try go_wp2)
        all_goals (try simp only [Exit.inBlock, Exit.then])
        all_goals rw [HS1.out, HS2.out]
        all_goals exact bodyPost_ret (results_two_rows rfl _ ((S2 (S1 W2)).drew) s (s + 1) 62 62 (arF (fiF k W)) (arF (laF k W)) (0, 0) (0, 0) _ rfl rfl Hg1.out Hg2.out Try.underlying62 rfl (Hs8.out.trans (by rw [arF_size])) (Hs8.out.trans (by rw [arF_size])) _ rfl) rfl ⟨by rw [HT.out]; rfl, by first | exact (below_drewN Hbf.out 1) | (rw [hs]; exact (below_drewN Hbf.out 1))⟩

end Go.Proofs.Ytgnmookklplnmaa
