import Derived.Test.YtaapfapejekkfaaJ2
import Derived.Test.YtaapfapejekkfaaJ3
import Derived.Laws.CopyOwn
import Derived.Laws.Rows
namespace Go.Proofs.Ytaapfapejekkfaa
open Go.RowKit
set_option linter.unusedVariables false
set_option linter.unusedSimpArgs false

/-- The array of 201 numbers. -/
def tA (f : Nat → Int) : Array Value := ((List.range 201).map fun j : Nat => Value.int .i64 (f j)).toArray
theorem tA_size (f : Nat → Int) : (tA f).size = 201 := by unfold tA; rw [List.size_toArray, List.length_map, List.length_range]
theorem tA_get (f : Nat → Int) {j : Nat} (h : j < 201) : (tA f)[j]? = some (.int .i64 (f j)) := by
  unfold tA
  rw [List.getElem?_toArray, List.getElem?_map, List.getElem?_range h]
  rfl
theorem tA_ext {f : Nat → Int} {cur : Array Value} (hs : cur.size = 201) (h : ∀ j, j < 201 → cur[j]? = some (.int .i64 (f j))) : cur = tA f := by
  apply Array.ext_getElem?
  intro j
  by_cases hj : j < 201
  · rw [h j hj, tA_get f hj]
  · rw [Array.getElem?_eq_none (by omega), Array.getElem?_eq_none (by rw [tA_size]; omega)]
theorem tA_congr {f g : Nat → Int} (h : ∀ j, j < 201 → f j = g j) : tA f = tA g := tA_ext (tA_size f) fun j hj => by rw [tA_get f hj, h j hj]
theorem tA_one (f : Nat → Int) : (tA f).all (·.oneCell') = true := by
  rw [Array.all_eq_true_iff_forall_mem]
  intro x hx
  unfold tA at hx
  simp only [List.mem_toArray, List.mem_map] at hx
  obtain ⟨j, _, rfl⟩ := hx
  rfl
def upF (f : Nat → Int) (k : Nat) (x : Int) (n : Nat) : Int := if n = k then x else f n
theorem upF_at (f : Nat → Int) (k : Nat) (x : Int) : upF f k x k = x := if_pos rfl
theorem upF_ne (f : Nat → Int) {k n : Nat} (x : Int) (h : n ≠ k) : upF f k x n = f n := if_neg h
theorem tA_set (f : Nat → Int) {k : Nat} (x : Int) (h : k < 201) : (tA f).setIfInBounds k (.int .i64 x) = tA (upF f k x) := by
  refine tA_ext (by rw [Array.size_setIfInBounds, tA_size]) fun j hj => ?_
  by_cases hjk : j = k
  · subst hjk
    rw [Array.getElem?_setIfInBounds_self_of_lt (by rw [tA_size]; exact hj), upF_at]
  · rw [Array.getElem?_setIfInBounds_ne (by omega), tA_get f hj, upF_ne f x hjk]
theorem tA_splice {cur : List Value} {xs : List Int} (hc : cur.length = 201) (h0 : ∀ j, j < 201 → cur[j]? = some (.int .i64 0)) (hx : xs.length ≤ 200) : (splice cur 1 (xs.map (Value.int .i64))).toArray = tA (arI xs) := by
  refine tA_ext (by rw [List.size_toArray, length_splice _ _ _ (by simp; omega)]; exact hc) fun j hj => ?_
  rw [List.getElem?_toArray, splice]
  rcases Nat.eq_zero_or_pos j with e | e
  · subst e
    rw [List.getElem?_append_left (by simp; omega), List.getElem?_take_of_lt (by omega), h0 0 hj]
    rfl
  · rw [List.getElem?_append_right (by simp; omega), List.length_take, show j - min 1 cur.length = j - 1 by omega]
    by_cases hjx : j - 1 < xs.length
    · rw [List.getElem?_append_left (by simp; omega), List.getElem?_map, List.getElem?_eq_getElem hjx, arI, if_neg (by omega), ivL, List.getD_eq_getElem?_getD, List.getElem?_eq_getElem hjx]
      rfl
    · rw [List.getElem?_append_right (by simp; omega), List.length_map, List.getElem?_drop, show 1 + xs.length + (j - 1 - xs.length) = j by omega, h0 j hj, arI, if_neg (by omega), ivL, List.getD_eq_getElem?_getD, List.getElem?_eq_none (by omega)]
      rfl
theorem one_map (xs : List Int) : ∀ v ∈ xs.map (Value.int .i64), v.oneCell' = true := fun v hv => by
  obtain ⟨x, _, rfl⟩ := List.mem_map.1 hv
  rfl
theorem size201 : (Try.prog.info? 152).map (·.size) = some 201 := by kernel_rfl
theorem zero201 : Try.zeroCells152 = tA fun _ => 0 := by kernel_rfl
theorem size1I : (Try.prog.info? 3).map (·.size) = some 1 := by kernel_rfl
set_option maxRecDepth 100000 in
set_option maxHeartbeats 800000 in
theorem arrayOf_c (w : World) (A : Option Addr) (m c : Nat) (xs : List Int) (hA : Il w A xs) (hm : m = xs.length) (hn : m ≤ 200) :
    Calls Try.prog 244 #[.slice A m c] w fun en w' => en = .returned (.agg (tA (arI xs))) ∧ Below w.heap.size w w' := by
  have hz0 : ((w.alloc (.cells Try.zeroCells152 152)).alloc (.cells Try.zeroCells152 152)).heap[w.heap.size + 1]? = some (.cells Try.zeroCells152 152 (0, 0)) := heap_alloc2_new w _ _
  have hz1 : ((w.alloc (.cells Try.zeroCells152 152)).alloc (.cells Try.zeroCells152 152)).heap[w.heap.size]? = some (.cells Try.zeroCells152 152 (0, 0)) := heap_alloc2_old w _ _
  have b0 : Below w.heap.size w ((w.alloc (.cells Try.zeroCells152 152)).alloc (.cells Try.zeroCells152 152)) := ((Below.refl _ w).alloc (Nat.le_refl _) _).alloc (by simp) _
  have hzl : Try.zeroCells152.toList.length = 201 := by rw [zero201, Array.length_toList, tA_size]
  have hzg : ∀ j, j < 201 → Try.zeroCells152.toList[j]? = some (.int .i64 0) := fun j hj => by rw [zero201, Array.getElem?_toList, tA_get _ hj]
  have Hsp := Lib.hid (tA_splice hzl hzg (xs := xs) (by omega))
  have Hz0 := Lib.hid hz0
  have Hz1 := Lib.hid hz1
  have B0 := Lib.hid b0
  have Hzl := Lib.hid hzl
  have Hm := Lib.hid hm
  have Hs2 := Lib.hid size201
  have HA := Lib.hid (hA.below b0)
  clear hz0 hz1 b0 hzl hzg hm hA
  go_enter Try.func244, Try.ntmps244
  go_wp2_with (refine wpList_copy_splice rfl (.tmp 4) (.tmp 5) 48 48 rfl 3 Try.underlying48 size1I _ _ _ _ _ _ rfl rfl (w.heap.size + 1) 1 Try.zeroCells152.toList _ Hz0.out (xs.map (Value.int .i64)) (by rw [List.length_map]; show xs.length = min m 200; have := Hm.out; omega) ?_ (by rw [Hzl.out, List.length_map]; have := Hm.out; omega) (one_map xs) (w.heap.size + 1) _ (Below.refl _ _) (Nat.le_refl _) ?_)
  · intro hp
    obtain ⟨b, off, rfl, hb, hr⟩ := HA.out (by simpa using hp)
    refine ⟨_, rfl, fun j v hj => ?_⟩
    have hj2 : j < xs.length := by
      have := (List.getElem?_eq_some_iff.1 hj).1
      simpa using this
    have := hr j hj2
    have hv : ivL xs j = v := by rw [ivL, List.getD_eq_getElem?_getD, hj]; rfl
    rw [hv] at this
    rw [show (⟨b, off, none⟩ : Addr).add j = ⟨b, off + j, none⟩ by unfold Addr.add; split <;> simp_all]
    exact this
  · intro w5 h5 b5
    rw [Hsp.out] at h5
    have H5 := Lib.hid h5.out
    have H6 := Lib.hid ((b5.block w.heap.size (by omega)).trans Hz1.out)
    have b05 := B0.out.trans (b5.mono (Nat.le_succ _))
    clear h5
    go_wp2_with (first | (refine wpList_load_row rfl 152 (.tmp 3) rfl (w.heap.size + 1) rfl _ _ _ _ H5.out Try.underlying152 rfl (Hs2.out.trans (by rw [tA_size])) ?_) | (refine wpList_store_row rfl 152 (.tmp 2) (.tmp 7) rfl w.heap.size (tA (arI xs)) rfl rfl _ _ H6.out (Hs2.out.trans (by rw [tA_size])) (by rw [tA_size]; exact Hzl.out) (tA_one _) ?_))
    refine bodyPost_ret (results_cell_row rfl _ _ w.heap.size _ (tA (arI xs)) _ _ rfl (setRow_heap w5 _ _ _ _ _ H6.out) Try.underlying152 rfl (Hs2.out.trans (by rw [tA_size]))) rfl ⟨rfl, ?_⟩
    exact b05.trans ⟨rfl, rfl, rfl, by simp, fun i hi => setRow_other w5 _ _ _ (by omega)⟩
set_option maxRecDepth 100000 in
set_option maxHeartbeats 800000 in
theorem isTable_c (w : World) (A : Option Addr) (m c : Nat) (xs : List Int) (hA : Il w A xs) (hm : m = xs.length) (hn : m ≤ 1048576) :
    Calls Try.prog 243 #[.slice A m c] w fun en w' => en = .returned (.bool (tabB xs)) ∧ w = w' := by
  by_cases h1 : 1 ≤ m
  · by_cases h2 : m ≤ 200
    · have hT : tabB xs = allB xs (-1000000) 1000000 := by rw [tabB, ← hm, show inB (m : Int) 1 200 = true from inB_true.2 ⟨by omega, by omega⟩, Bool.true_and]
      rw [hT]
      have Hm := Lib.hid hm
      have HA := Lib.hid hA
      clear hT hm hA
      go_enter Try.func243, Try.ntmps243
      go_wp2
      go_loop [4, 15] (fun _ i => ∃ k : Nat, k ≤ m ∧ i = .int .i64 (k : Int) ∧ Hid (∀ j, j < k → inB (ivL xs j) (-1000000) 1000000 = true)) (fun _ i => m - (intOf i).toNat)
      case atStart => exact ⟨0, Nat.zero_le _, rfl, fun j hj => by omega⟩
      case round =>
        obtain ⟨k, hk, rfl, hall⟩ := hrel
        by_cases hlt : k < m
        · obtain ⟨b, off, rfl, hbb, hr⟩ := HA.out (by have := Hm.out; omega)
          have hck := hr k (by have := Hm.out; omega)
          have hkm : (k : Int) < (m : Int) := by omega
          have Hst := Lib.hid (fun (h : inB (ivL xs k) (-1000000) 1000000 = true) j (hj : j < k + 1) => show inB (ivL xs j) (-1000000) 1000000 = true by
            rcases Nat.lt_succ_iff_lt_or_eq.1 hj with h2 | h2
            · exact hall.out j h2
            · rw [h2]; exact h)
          have Hno := Lib.hid (fun (h : inB (ivL xs k) (-1000000) 1000000 = false) => allB_false (xs := xs) (by have := Hm.out; omega) h)
          obtain ⟨x, hx⟩ : ∃ x, ivL xs k = x := ⟨_, rfl⟩
          rw [hx] at hck Hst Hno
          clear hx hr
          by_cases c1 : x < -1000000
          · have Hf := Lib.hid (Hno.out (inB_false.2 (by omega)))
            go_wp2
            go_ret
            exact ⟨by rw [Hf.out]; rfl, rfl⟩
          · by_cases c2 : 1000000 < x
            · have Hf := Lib.hid (Hno.out (inB_false.2 (by omega)))
              go_wp2
              go_ret
              exact ⟨by rw [Hf.out]; rfl, rfl⟩
            · have Hf := Lib.hid (Hst.out (inB_true.2 ⟨by omega, by omega⟩))
              go_wp2
              go_round
              case rel => exact ⟨k + 1, by omega, by go_num, Hf.out⟩
              case measure => simp [intOf]; omega
        · have Hk := Lib.hid (allB_true (xs := xs) fun j hj => hall.out j (by have := Hm.out; omega))
          go_wp2
          go_ret
          exact ⟨by rw [Hk.out]; rfl, rfl⟩
    · have hT : tabB xs = false := by rw [tabB, ← hm, show inB (m : Int) 1 200 = false from inB_false.2 (by omega)]; rfl
      rw [hT]
      clear hT hm hA
      go_enter Try.func243, Try.ntmps243
      go_wp2
      go_ret
      exact ⟨rfl, rfl⟩
  · have hT : tabB xs = false := by rw [tabB, ← hm, show inB (m : Int) 1 200 = false from inB_false.2 (by omega)]; rfl
    rw [hT]
    clear hT hm hA
    go_enter Try.func243, Try.ntmps243
    go_wp2
    go_ret
    exact ⟨rfl, rfl⟩
end Go.Proofs.Ytaapfapejekkfaa
