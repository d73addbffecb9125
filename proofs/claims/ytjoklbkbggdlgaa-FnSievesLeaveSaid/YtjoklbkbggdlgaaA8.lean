import Derived.Test.YtjoklbkbggdlgaaA7
namespace Go.Proofs.Ytjoklbkbggdlgaa
open Go.RowKit
set_option linter.unusedVariables false
set_option linter.unusedSimpArgs false

def leftArr (rs : List (Int × Int)) : Array Value := ((List.range 601).map fun j : Nat => Value.bool (leftF rs j)).toArray
theorem leftArr_size (rs : List (Int × Int)) : (leftArr rs).size = 601 := by unfold leftArr; rw [List.size_toArray, List.length_map, List.length_range]
theorem leftArr_get (rs : List (Int × Int)) {j : Nat} (h : j < 601) : (leftArr rs)[j]? = some (.bool (leftF rs j)) := by
  unfold leftArr
  rw [List.getElem?_toArray, List.getElem?_map, List.getElem?_range h]
  rfl
theorem leftArr_of {rs : List (Int × Int)} {cur : Array Value} (hs : cur.size = 601) (h : ∀ j, j < 601 → cur[j]? = some (.bool (leftF rs j))) : cur = leftArr rs := by
  apply Array.ext_getElem?
  intro j
  by_cases hj : j < 601
  · rw [h j hj, leftArr_get rs hj]
  · rw [Array.getElem?_eq_none (by omega), Array.getElem?_eq_none (by rw [leftArr_size]; omega)]
theorem leftArr_one (rs : List (Int × Int)) : (leftArr rs).all (·.oneCell') = true := by
  rw [Array.all_eq_true_iff_forall_mem]
  intro x hx
  unfold leftArr at hx
  simp only [List.mem_toArray, List.mem_map] at hx
  obtain ⟨j, _, rfl⟩ := hx
  rfl
theorem zero60_size : Try.zeroCells61.size = 601 := by kernel_rfl
theorem size60 : (Try.prog.info? 61).map (·.size) = some 601 := by kernel_rfl

set_option maxHeartbeats 1000000 in
set_option maxRecDepth 100000 in
theorem leftNumbers_c (w : World) (A : Option Addr) (m c : Nat) (rs : List (Int × Int)) (hA : Rl w A rs) (hm : m = rs.length) (hg : goodL rs = true) :
    Calls Try.prog 49 #[.slice A m c] w fun en w' => en = .returned (.agg (leftArr rs)) ∧ Below w.heap.size w w' := by
  have Hm := Lib.hid hm
  have Hg := Lib.hid hg
  clear hm hg
  have hz0 : ((w.alloc (.cells Try.zeroCells61 61)).alloc (.cells Try.zeroCells61 61)).heap[w.heap.size + 1]? = some (.cells Try.zeroCells61 61 (0, 0)) := heap_alloc2_new w _ _
  have hz1 : ((w.alloc (.cells Try.zeroCells61 61)).alloc (.cells Try.zeroCells61 61)).heap[w.heap.size]? = some (.cells Try.zeroCells61 61 (0, 0)) := heap_alloc2_old w _ _
  have Hz0 := Lib.hid hz0
  have Hz1 := Lib.hid hz1
  clear hz0 hz1
  go_enter Try.func49, Try.ntmps49
  go_wp2_with fail
  go_loopw [5] (fun i wr => ∃ k : Nat, k ≤ 601 ∧ i = .int .i64 k ∧ wr.heap[w.heap.size]? = some (.cells Try.zeroCells61 61 (0, 0)) ∧ (∃ cur : Array Value, wr.heap[w.heap.size + 1]? = some (.cells cur 61 (0, 0)) ∧ cur.size = 601 ∧ ∀ j, j < k → cur[j]? = some (.bool (leftF rs j))) ∧ Below w.heap.size w wr) (fun i _ => 601 - (intOf i).toNat)
  case atStart => exact ⟨0, Nat.zero_le _, rfl, Hz1.out, ⟨_, Hz0.out, zero60_size, by omega⟩, ((Below.refl _ _).alloc (Nat.le_refl _) _).alloc (by simp) _⟩
  case round =>
    obtain ⟨k, hk, rfl, hz1, ⟨cur, hc, hcs, hcur⟩, hbel⟩ := hrel
    have Hz := Lib.hid hz1
    have Hc := Lib.hid hc
    have Hcur := Lib.hid hcur
    have Hcs := Lib.hid hcs
    have hsz : w.heap.size + 1 < wr.heap.size := (Array.getElem?_eq_some_iff.1 hc).1
    clear hz1 hc hcur hcs
    have hs := hbel.size
    have hR := hA.below hbel
    by_cases hlt : k < 601
    · have hin : (cur[k]?).isSome = true := by rw [Array.getElem?_eq_getElem (by rw [Hcs.out]; exact hlt)]; rfl
      obtain ⟨x0, hx0⟩ := Option.isSome_iff_exists.1 hin
      clear hin
      have Hx0 := Lib.hid ((cell_of_row wr (w.heap.size + 1) k cur _ _ Hc.out).trans hx0)
      clear hx0
      have Hf0 := Lib.hid (frozen_of_row wr (w.heap.size + 1) k cur _ Hc.out)
      go_wp2_with fail
      refine (isLeft_c _ _ _ rs _ _ hR Hm.out Hg.out (by omega) (by omega)).mono ?_
      rintro e w1 ⟨rfl, b1⟩
      have hy0 := (b1.cell (p := ⟨w.heap.size + 1, k, none⟩) hsz).trans Hx0.out
      have hy1 := (b1.frozen (p := ⟨w.heap.size + 1, k, none⟩) hsz).trans Hf0.out
      go_wp2
      go_roundw
      case rel =>
        have h1 : w1.heap[w.heap.size + 1]? = _ := (b1.block _ hsz).trans Hc.out
        have h0 : w1.heap[w.heap.size]? = _ := (b1.block _ (by omega)).trans Hz.out
        refine ⟨k + 1, by omega, by go_num, (heap_setCell_other w1 ⟨w.heap.size + 1, k, none⟩ _ _ (by simp)).trans h0, ⟨_, heap_setCell_same w1 _ _ _ _ _ h1, by simpa using Hcs.out, fun j hj => ?_⟩, (hbel.trans (b1.mono hs)).setCell (by simp) _⟩
        rcases Nat.lt_succ_iff_lt_or_eq.1 hj with h | h
        · rw [Array.getElem?_setIfInBounds_ne (by omega)]; exact Hcur.out j h
        · subst h; rw [Array.getElem?_setIfInBounds_self_of_lt (by rw [Hcs.out]; exact hlt)]
      case measure => simp [intOf]; omega
    · have hk6 : k = 601 := by omega
      have Hcur' := Lib.hid (leftArr_of Hcs.out fun j hj => Hcur.out j (by omega))
      have Hsz := Lib.hid (leftArr_size rs)
      have Hs6 := Lib.hid size60
      clear hk6
      go_wp2_with (first | (refine wpList_load_row rfl 61 (.tmp 3) rfl (w.heap.size + 1) rfl _ _ _ _ Hc.out Try.underlying61 rfl (Hs6.out.trans (by rw [Hcs.out])) ?_) | (refine wpList_store_row rfl 61 (.tmp 2) (.tmp 14) rfl w.heap.size cur rfl rfl _ _ Hz.out (Hs6.out.trans (by rw [Hcs.out])) (by rw [Hcs.out]; exact zero60_size) (by rw [Hcur'.out]; exact leftArr_one rs) ?_))
      refine bodyPost_ret (results_cell_row rfl _ _ w.heap.size _ cur _ _ rfl (setRow_heap wr _ _ _ _ _ Hz.out) Try.underlying61 rfl (Hs6.out.trans (by rw [Hcs.out]))) rfl ⟨by rw [Hcur'.out], ?_⟩
      exact hbel.trans ⟨rfl, rfl, rfl, by simp, fun i hi => setRow_other wr _ _ _ (by omega)⟩

end Go.Proofs.Ytjoklbkbggdlgaa
