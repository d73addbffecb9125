import Derived.Test.YtgnmookklplnmaaV7
import Derived.Deep.RegionWith
namespace Go.Proofs.Ytgnmookklplnmaa
open Go.RowKit
set_option linter.unusedVariables false
set_option linter.unusedSimpArgs false

theorem count_pos (x : Int) : ∀ xs : List Int, xs.Pairwise (· ≤ ·) → xs.countP (fun y => decide (y < x)) = posF xs x
  | [], _ => rfl
  | y :: ys, h => by
    rw [List.pairwise_cons] at h
    rw [posF, List.findIdx_cons, List.countP_cons]
    by_cases hxy : x ≤ y
    · rw [decide_eq_true hxy, decide_eq_false (by omega : ¬ y < x), List.countP_eq_zero.2]
      · rfl
      · intro z hz
        have := h.1 z hz
        exact Bool.not_eq_true _ ▸ decide_eq_false (by omega)
    · rw [decide_eq_false hxy, decide_eq_true (by omega : y < x), count_pos x ys h.2, posF]
      rfl
theorem good_sorted {xs : List Int} (h : goodP xs = true) : xs.Pairwise (· ≤ ·) := by
  obtain ⟨_, _, _, hi, _⟩ := goodP_parts h
  rw [List.pairwise_iff_getElem]
  intro i j hi' hj hij
  have := inc_le hi (i := i) j (by omega) hj
  rwa [show ivL xs i = xs[i] by simp [ivL, hi'], show ivL xs j = xs[j] by simp [ivL, hj]] at this

set_option maxRecDepth 100000 in
set_option maxHeartbeats 1600000 in
theorem withOffset_c (w : World) (b off m : Nat) (xs : List Int) (hb : b < w.heap.size) (hA : IsAt w b off xs) (hm : m = xs.length) (hg : goodP xs = true) (x : Nat) (hx1 : 1 ≤ x) (hx : x ≤ 60) :
    Calls Try.prog 101 #[.slice (some ⟨b, off, none⟩) m m, .int .i64 (x : Int)] w fun en w' => (∃ v, en = .returned v ∧ OwnI w' w.heap.size v (insF xs (x : Int))) ∧ Below w.heap.size w w' := by
  obtain ⟨g1, g8, g0, gi, gl⟩ := goodP_parts hg
  have hbs := Try.slices_BinarySearch_int b off m m xs (x : Int) w (by omega) (by omega) hA (by rw [List.take_of_length_le (by omega)]; exact good_sorted hg)
  rw [List.take_of_length_le (by omega), count_pos _ xs (good_sorted hg)] at hbs
  have hpl := posF_le xs (x : Int)
  have hp1 : 1 ≤ posF xs (x : Int) := by
    rcases Nat.eq_zero_or_pos (posF xs (x : Int)) with h | h
    · have h2 : posF xs (x : Int) < xs.length := by omega
      have h3 := List.findIdx_getElem (xs := xs) (p := fun y => decide ((x : Int) ≤ y)) (w := h2)
      simp only [decide_eq_true_eq] at h3
      have h4 : (List.findIdx (fun y => decide ((x : Int) ≤ y)) xs) = 0 := h
      simp only [h4] at h3
      have h5 : ivL xs 0 = xs[0] := by simp [ivL, show 0 < xs.length by omega]
      omega
    · exact h
  have Hins : Hid (insF xs (x : Int) = xs.take (posF xs (x : Int)) ++ [(x : Int)] ++ xs.drop (posF xs (x : Int))) := rfl
  obtain ⟨k, hk⟩ : ∃ k, posF xs (x : Int) = k := ⟨_, rfl⟩
  rw [hk] at hbs hpl hp1 Hins
  obtain ⟨B, hB⟩ : ∃ B, xs.contains (x : Int) = B := ⟨_, rfl⟩
  rw [hB] at hbs
  have Hbs := Lib.hid hbs
  have HA := Lib.hid hA
  have Hm := Lib.hid hm
  have hkm : k ≤ m := by omega
  have Hcat : Hid (∀ (q off3 : Nat), (off3 = off + k ∨ m = k) → Calls Try.prog 118 #[.slice (some ⟨w.heap.size + 1, 0, none⟩) 3 3] (((w.drewN q).alloc (.cells #[.int .i64 (x : Int)] 3)).alloc (.cells #[.slice (some ⟨b, off, none⟩) k m, .slice (some ⟨w.heap.size, 0, none⟩) 1 1, .slice (some ⟨b, off3, none⟩) (m - k) (m - k)] 22))
      fun en w' => (∃ v, en = .returned v ∧ OwnI w' w.heap.size v (insF xs (x : Int))) ∧ Below w.heap.size w w') := fun q off3 ho => by
    obtain ⟨W1, hW1⟩ : ∃ W1, (w.drewN q).alloc (.cells #[.int .i64 (x : Int)] 3) = W1 := ⟨_, rfl⟩
    have hs1 : W1.heap.size = w.heap.size + 1 := by rw [← hW1]; simp [World.drewN]
    have b1 : Below w.heap.size w W1 := by rw [← hW1]; exact (below_drewN (Below.refl _ w) q).alloc (Nat.le_refl _) _
    have hx1 : W1.cell? ⟨w.heap.size, 0, none⟩ = some (.int .i64 (x : Int)) := by rw [← hW1]; exact (cell_of_row _ _ 0 _ _ _ (heap_alloc_new (w.drewN q) _)).trans rfl
    rw [hW1]
    clear hW1
    obtain ⟨W2, hW2⟩ : ∃ W2, W1.alloc (.cells #[.slice (some ⟨b, off, none⟩) k m, .slice (some ⟨w.heap.size, 0, none⟩) 1 1, .slice (some ⟨b, off3, none⟩) (m - k) (m - k)] 22) = W2 := ⟨_, rfl⟩
    have hs2 : W2.heap.size = w.heap.size + 2 := by rw [← hW2]; simp [hs1]
    have b12 : Below W1.heap.size W1 W2 := by rw [← hW2]; exact (Below.refl _ _).alloc (Nat.le_refl _) _
    have b2 : Below w.heap.size w W2 := b1.trans (b12.mono (by omega))
    have hx2 : W2.cell? ⟨w.heap.size, 0, none⟩ = some (.int .i64 (x : Int)) := (b12.cell (p := ⟨w.heap.size, 0, none⟩) (by show w.heap.size < _; omega)).trans hx1
    have hr := heap_alloc_new W1 (.cells #[.slice (some ⟨b, off, none⟩) k m, .slice (some ⟨w.heap.size, 0, none⟩) 1 1, .slice (some ⟨b, off3, none⟩) (m - k) (m - k)] 22)
    rw [hW2, hs1] at hr
    have hcl : ∀ i, W2.cell? ⟨w.heap.size + 1, i, none⟩ = (#[.slice (some ⟨b, off, none⟩) k m, .slice (some ⟨w.heap.size, 0, none⟩) 1 1, .slice (some ⟨b, off3, none⟩) (m - k) (m - k)] : Array Value)[i]? := fun i => cell_of_row W2 (w.heap.size + 1) i _ _ _ hr
    have hA2 : IsAt W2 b off xs := IsAt.below hA hb b2
    rw [hW2]
    clear hW2 hr
    have h := concat3_c W2 (w.heap.size + 1) (by omega) (fun i => if i = 1 then w.heap.size else b) (fun i => if i = 0 then off else if i = 1 then 0 else off3) (fun i => if i = 0 then k else if i = 1 then 1 else m - k) (fun i => if i = 0 then m else if i = 1 then 1 else m - k)
      (fun i => if i = 0 then xs.take k else if i = 1 then [(x : Int)] else xs.drop k) ?_ ?_ ?_ (show 1 ≤ k from hp1)
    · refine h.mono ?_
      rintro e w' ⟨⟨v, rfl, o⟩, bb⟩
      refine ⟨⟨v, rfl, ?_⟩, b2.trans (bb.mono (by omega))⟩
      rw [Hins.out]
      exact OwnI.mono o (by omega)
    · intro i hi
      rw [hcl]
      match i, hi with
      | 0, _ => rfl
      | 1, _ => rfl
      | 2, _ => rfl
    · intro i hi
      match i, hi with
      | 0, _ => exact ⟨by simp; omega, by simp; omega, by simp; omega⟩
      | 1, _ => exact ⟨by simp, by simp, by simp; omega⟩
      | 2, _ => exact ⟨by simp; omega, by simp; omega, by simp; omega⟩
    · intro i hi
      match i, hi with
      | 0, _ => exact hA2.take k
      | 1, _ =>
        intro j hj
        have : j = 0 := by simpa using hj
        subst this
        exact hx2
      | 2, _ =>
        rcases ho with rfl | hmk
        · exact hA2.drop k
        · intro j hj
          simp at hj
          omega
  clear hbs hA hg g0 gi gl hk hB hm
  by_cases hmk : m = k
  · have hc := fun q => Hcat.out q off (.inr hmk)
    subst hmk
    simp only [Nat.sub_self] at hc
    have Hc := Lib.hid hc
    clear hc
    go_enter Try.func101, Try.ntmps101
    go_wp2_with fail
    refine Hbs.out.mono ?_
    rintro e w1 ⟨rfl, q, rfl⟩
    go_wp2_with fail
    go_region_with (go_at_call 118; refine (Hc.out _).mono ?_; rintro e w5 ⟨⟨v5, rfl, o5⟩, b5⟩)
    go_wp2
    go_ret
    exact ⟨⟨_, rfl, o5⟩, b5⟩
  · have Hc := Lib.hid (fun q => Hcat.out q (off + k) (.inl rfl))
    go_enter Try.func101, Try.ntmps101
    go_wp2_with fail
    refine Hbs.out.mono ?_
    rintro e w1 ⟨rfl, q, rfl⟩
    go_wp2_with fail
    go_region_with (go_at_call 118; refine (Hc.out _).mono ?_; rintro e w5 ⟨⟨v5, rfl, o5⟩, b5⟩)
    go_wp2
    go_ret
    exact ⟨⟨_, rfl, o5⟩, b5⟩

/-- A pattern with a number put among it is one of the numbers that may be added, if it is a pattern still and open. -/
theorem ins_len (xs : List Int) (x : Int) : (insF xs x).length = xs.length + 1 := by
  have := posF_le xs x
  rw [insF, List.length_append, List.length_append, List.length_take, List.length_drop, List.length_singleton]
  omega
theorem ins_at {xs : List Int} {x : Int} {j : Nat} : ivL (insF xs x) j = if j < posF xs x then ivL xs j else if j = posF xs x then x else ivL xs (j - 1) := by
  have hp := posF_le xs x
  have hl : (xs.take (posF xs x)).length = posF xs x := by rw [List.length_take]; omega
  rw [insF, List.append_assoc]
  by_cases h1 : j < posF xs x
  · rw [if_pos h1, ivL, List.getD_eq_getElem?_getD, List.getElem?_append_left (by rw [hl]; exact h1)]
    exact ivL_take h1
  · rw [if_neg h1, ivL, List.getD_eq_getElem?_getD, List.getElem?_append_right (by rw [hl]; omega), hl]
    by_cases h2 : j = posF xs x
    · rw [if_pos h2, h2, Nat.sub_self]
      rfl
    · rw [if_neg h2, show j - posF xs x = (j - 1 - posF xs x) + 1 by omega, List.singleton_append, List.getElem?_cons_succ, List.getElem?_drop, show posF xs x + (j - 1 - posF xs x) = j - 1 by omega]
      rfl
theorem pos_lt {xs : List Int} {x : Int} {j : Nat} (h : j < posF xs x) : ivL xs j < x := by
  have h2 := List.not_of_lt_findIdx (xs := xs) (p := fun y => decide (x ≤ y)) h
  have hl := posF_le xs x
  rw [show ivL xs j = xs[j]'(by omega) by simp [ivL, show j < xs.length by omega]]
  simpa using h2
theorem pos_ge {xs : List Int} {x : Int} (h : posF xs x < xs.length) : x ≤ ivL xs (posF xs x) := by
  have h2 := List.findIdx_getElem (xs := xs) (p := fun y => decide (x ≤ y)) (w := h)
  simp only [decide_eq_true_eq] at h2
  rw [show ivL xs (posF xs x) = xs[posF xs x] by simp [ivL, h]]
  exact h2
theorem goodP_of {xs : List Int} (h1 : 1 ≤ xs.length) (h2 : xs.length ≤ 8) (h3 : ivL xs 0 = 0) (h4 : ∀ k, k + 1 < xs.length → ivL xs k < ivL xs (k + 1)) (h5 : ivL xs (xs.length - 1) ≤ 60) : goodP xs = true := by
  rw [goodP, inB_true.2 (by omega), h3, incB_yes h4, decide_eq_true h5]
  rfl
theorem goodP_ins {xs : List Int} {x : Nat} (hg : goodP xs = true) (hx1 : 1 ≤ x) (hx : x ≤ 60) : goodP (insF xs (x : Int)) = (!hasF xs (x : Int) && decide (¬ xs.length = 8)) := by
  obtain ⟨g1, g8, g0, gi, gl⟩ := goodP_parts hg
  have hl := ins_len xs (x : Int)
  have hp := posF_le xs (x : Int)
  have hp1 : 1 ≤ posF xs (x : Int) := by
    rcases Nat.eq_zero_or_pos (posF xs (x : Int)) with h | h
    · have := pos_ge (xs := xs) (x := (x : Int)) (by omega)
      rw [h, g0] at this
      omega
    · exact h
  cases hh : hasF xs (x : Int) with
  | true =>
    refine Bool.eq_false_iff.2 fun h => ?_
    obtain ⟨_, _, _, hi, _⟩ := goodP_parts h
    obtain ⟨k, hk, e⟩ := List.mem_iff_getElem.1 (hasF_mem.1 hh)
    have e2 : ivL xs k = (x : Int) := by rw [← e]; simp [ivL, hk]
    have hpk : posF xs (x : Int) ≤ k := by
      rcases Nat.lt_or_ge k (posF xs (x : Int)) with h | h
      · have := pos_lt h; omega
      · exact h
    have hge := pos_ge (xs := xs) (x := (x : Int)) (by omega)
    have hle := inc_le gi (i := posF xs (x : Int)) k hpk hk
    have := hi (posF xs (x : Int)) (by omega)
    rw [ins_at, ins_at, if_neg (by omega), if_pos rfl, if_neg (by omega), if_neg (by omega), Nat.add_sub_cancel] at this
    omega
  | false =>
    have hne : ∀ k, k < xs.length → ivL xs k ≠ (x : Int) := fun k hk e => by rw [hasF_yes hk e] at hh; cases hh
    by_cases h8 : xs.length = 8
    · rw [decide_eq_false (by omega), Bool.and_false]
      refine Bool.eq_false_iff.2 fun h => ?_
      have := (goodP_parts h).2.1
      omega
    · rw [decide_eq_true h8]
      refine goodP_of (by omega) (by omega) ?_ ?_ ?_
      · rw [ins_at, if_pos (by omega)]; exact g0
      · intro k hk
        rw [ins_at, ins_at]
        by_cases c1 : k + 1 < posF xs (x : Int)
        · rw [if_pos (by omega), if_pos c1]; exact gi k (by omega)
        · rw [if_neg c1]
          by_cases c2 : k + 1 = posF xs (x : Int)
          · rw [if_pos (by omega), if_pos c2]; exact pos_lt (by omega)
          · rw [if_neg c2, if_neg (by omega), Nat.add_sub_cancel]
            by_cases c3 : k = posF xs (x : Int)
            · rw [if_pos c3]
              have h1 := pos_ge (xs := xs) (x := (x : Int)) (by omega)
              have h2 := hne (posF xs (x : Int)) (by omega)
              rw [c3]
              omega
            · rw [if_neg c3]
              have := gi (k - 1) (by omega)
              rwa [show k - 1 + 1 = k by omega] at this
      · rw [ins_at, hl, Nat.add_sub_cancel]
        by_cases c1 : xs.length < posF xs (x : Int)
        · omega
        · rw [if_neg c1]
          by_cases c2 : xs.length = posF xs (x : Int)
          · rw [if_pos c2]; omega
          · rw [if_neg c2]; exact gl
/-- The numbers from 1 on that may be added are all of them: 0 is an offset. -/
theorem aoF_up {xs : List Int} (hg : goodP xs = true) : ∀ M, aoF xs (M + 1) = upF (fun x => adB xs x.toNat) M
  | 0 => by
    obtain ⟨g1, _, g0, _, _⟩ := goodP_parts hg
    rw [aoF_no (adB_no1 (hasF_yes (k := 0) (by omega) g0))]
    rfl
  | M + 1 => by
    have ih := aoF_up hg M
    cases h : adB xs (M + 1) with
    | true => rw [aoF_yes h, ih, upF_yes (p := fun x => adB xs x.toNat) (k := M) (by show adB xs ((M : Int) + 1).toNat = true; rw [show ((M : Int) + 1).toNat = M + 1 by omega]; exact h)]; rfl
    | false => rw [aoF_no h, ih, upF_no (p := fun x => adB xs x.toNat) (k := M) (by show adB xs ((M : Int) + 1).toNat = false; rw [show ((M : Int) + 1).toNat = M + 1 by omega]; exact h)]

set_option maxRecDepth 100000 in
set_option maxHeartbeats 800000 in
theorem addOffsets1_c (w : World) (bp : Nat) (b off m : Nat) (xs : List Int) (hc : w.cell? ⟨bp, 0, none⟩ = some (.slice (some ⟨b, off, none⟩) m m)) (hb : b < w.heap.size) (hA : IsAt w b off xs) (hm : m = xs.length) (hg : goodP xs = true) (x : Nat) (hx1 : 1 ≤ x) (hx : x ≤ 60) :
    Calls Try.prog 100 #[.int .i64 (x : Int), .pointer (some ⟨bp, 0, none⟩)] w fun en w' => en = .returned (.bool (adB xs x)) ∧ Below w.heap.size w w' := by
  have Hw := Lib.hid (withOffset_c w b off m xs hb hA hm hg x hx1 hx)
  have hlen := ins_len xs (x : Int)
  have h8 := (goodP_parts hg).2.1
  have hgi := goodP_ins hg hx1 hx
  have Had : Hid (adB xs x = (goodP (insF xs (x : Int)) && (clX (insF xs (x : Int)) 0 == 0))) := by
    show _ = _
    rw [hgi, adB]
    congr 1
  obtain ⟨ys, hys⟩ : ∃ ys, insF xs (x : Int) = ys := ⟨_, rfl⟩
  rw [hys] at Hw hlen Had
  have hyl : ys.length ≤ 9 := by omega
  clear hys hlen hA hm hg hgi
  go_enter Try.func100, Try.ntmps100
  go_wp2_with fail
  refine Hw.out.mono ?_
  rintro e w1 ⟨⟨v1, rfl, o1⟩, b1⟩
  obtain ⟨A1, c1, rfl⟩ := o1.shape
  have I1 := Lib.hid (Il_of_own o1)
  clear o1 Hw
  cases hgy : goodP ys with
  | false =>
    have Hy : Hid (adB xs x = false) := by show _ = _; rw [Had.out, hgy]; rfl
    have Hg := Lib.hid hgy
    clear hgy
    go_wp2_with fail
    refine (implIsPattern_c _ _ _ _ ys I1.out rfl (by omega)).mono ?_
    rw [Hg.out]
    rintro e w2 ⟨rfl, b2⟩
    go_wp2
    go_ret
    exact ⟨by rw [Hy.out]; rfl, b1.trans (b2.mono b1.size)⟩
  | true =>
    have Hy : Hid (adB xs x = (clX ys 0 == 0)) := by show _ = _; rw [Had.out, hgy]; rfl
    have hy8 := (goodP_parts hgy).2.1
    have Hx := Lib.hid (goodP_small hgy)
    have Hg := Lib.hid hgy
    obtain ⟨C, hC⟩ : ∃ C, (clX ys 0 == 0) = C := ⟨_, rfl⟩
    rw [hC] at Hy
    have HC := Lib.hid hC
    clear hgy hC
    go_wp2_with fail
    refine (implIsPattern_c _ _ _ _ ys I1.out rfl (by omega)).mono ?_
    rw [Hg.out]
    rintro e w2 ⟨rfl, b2⟩
    have I2 := Lib.hid (Il.below I1.out b2)
    go_wp2_with fail
    refine (implisOpen_c _ _ _ _ ys I2.out rfl hy8 Hx.out).mono ?_
    rw [HC.out]
    rintro e w3 ⟨rfl, b3⟩
    go_wp2
    go_ret
    exact ⟨by rw [Hy.out]; rfl, b1.trans ((b2.trans (b3.mono b2.size)).mono b1.size)⟩

set_option maxRecDepth 100000 in
set_option maxHeartbeats 1600000 in
theorem impl_AddOffsets_c (w : World) (A : Option Addr) (m : Nat) (xs : List Int) (hA : Il w A xs) (hm : m = xs.length) (hn : m ≤ 1048576) (M : Int) :
    Calls Try.prog 58 #[.slice A m m, .int .i64 M] w fun en w' => (∃ v, en = .returned (.tuple #[v, .bool (aoO xs M)]) ∧ OwnI w' w.heap.size v (aoV xs M)) ∧ Below w.heap.size w w' := by
  have Hm := Lib.hid hm
  clear hm
  have b0 : Below w.heap.size w (w.alloc (.cells #[.slice A m m] 22)) := (Below.refl _ _).alloc (Nat.le_refl _) _
  have hA0 := hA.below b0
  have hc0 : (w.alloc (.cells #[.slice A m m] 22)).cell? ⟨w.heap.size, 0, none⟩ = some (.slice A m m) := by simp
  have hs0 : w.heap.size < (w.alloc (.cells #[.slice A m m] 22)).heap.size := by simp
  have hmf : ∀ (fn : Fn) (first cap : Array Value) (w : World), (Instr.makeFunc fn first cap).run Try.prog w = .ok (.func fn first cap) w := fun _ _ _ _ => rfl
  cases hg : goodP xs with
  | false =>
    have ho : aoO xs M = false := by rw [aoO, hg]; rfl
    rw [aoV_no ho, ho]
    clear ho
    go_enter Try.func58, Try.ntmps58
    go_wp2_with fail
    refine (implIsPattern_c _ _ _ _ xs hA0 Hm.out hn).mono ?_
    rw [hg]
    rintro e w1 ⟨rfl, b1⟩
    go_wp2
    go_ret2
    exact ⟨⟨_, rfl, OwnI.nil _ _⟩, b0.trans (b1.mono b0.size)⟩
  | true =>
    have h8 := (goodP_parts hg).2.1
    have h1 := (goodP_parts hg).1
    have Hg := Lib.hid hg
    have Hx := Lib.hid (goodP_small hg)
    clear hg
    cases hj : inB M 0 60 with
    | false =>
      have ho : aoO xs M = false := by rw [aoO, hj, Bool.and_false]
      rw [aoV_no ho, ho]
      have Hj := Lib.hid hj
      clear ho hj
      go_enter Try.func58, Try.ntmps58
      go_wp2_with fail
      refine (implIsPattern_c _ _ _ _ xs hA0 Hm.out hn).mono ?_
      rw [Hg.out]
      rintro e w1 ⟨rfl, b1⟩
      go_wp2_with fail
      refine (isWidth_c _ _).mono ?_
      rw [Hj.out]
      rintro e w2 ⟨rfl, rfl⟩
      go_wp2
      go_ret2
      exact ⟨⟨_, rfl, OwnI.nil _ _⟩, b0.trans (b1.mono b0.size)⟩
    | true =>
      have h8m : m ≤ 8 := by rw [Hm.out]; exact h8
      obtain ⟨C, hC⟩ : ∃ C, (clX xs 0 == 0) = C := ⟨_, rfl⟩
      have HC := Lib.hid hC
      have Hao : Hid (aoO xs M = C) := by
        show _ = _
        rw [aoO, Hg.out, hj, ← hC, Bool.and_true, Bool.true_and]
        cases clX xs 0 <;> simp
      have Hj := Lib.hid hj
      clear hC
      cases C with
      | false =>
        have Hv := Lib.hid (aoV_no Hao.out)
        rw [Hv.out, Hao.out]
        clear hj
        go_enter Try.func58, Try.ntmps58
        go_wp2_with fail
        refine (implIsPattern_c _ _ _ _ xs hA0 Hm.out hn).mono ?_
        rw [Hg.out]
        rintro e w1 ⟨rfl, b1⟩
        have hc1 := (b1.cell (p := ⟨w.heap.size, 0, none⟩) hs0).trans hc0
        go_wp2_with fail
        refine (isWidth_c _ _).mono ?_
        rw [Hj.out]
        rintro e w2 ⟨rfl, rfl⟩
        go_wp2_with fail
        refine (implisOpen_c _ _ _ _ xs (hA0.below b1) Hm.out h8m Hx.out).mono ?_
        rw [HC.out]
        rintro e w3 ⟨rfl, b3⟩
        go_wp2
        go_ret2
        exact ⟨⟨_, rfl, OwnI.nil _ _⟩, (b0.trans (b1.mono b0.size)).trans (b3.mono (b0.trans (b1.mono b0.size)).size)⟩
      | true =>
        obtain ⟨m0, m6⟩ := inB_true.1 hj
        obtain ⟨K, rfl⟩ := Int.eq_ofNat_of_zero_le m0
        rw [aoV_yes Hao.out, aoF_up Hg.out, Hao.out]
        clear hj
        obtain ⟨b, off, rfl, hb, hr⟩ := hA (by omega)
        have hat0 : IsAt (w.alloc (.cells #[.slice (some ⟨b, off, none⟩) m m] 22)) b off xs := IsAt.below hr hb b0
        go_enter Try.func58, Try.ntmps58
        go_wp2_with fail
        refine (implIsPattern_c _ _ _ _ xs hA0 Hm.out hn).mono ?_
        rw [Hg.out]
        rintro e w1 ⟨rfl, b1⟩
        have hc1 := (b1.cell (p := ⟨w.heap.size, 0, none⟩) hs0).trans hc0
        have hb1 := b0.trans (b1.mono b0.size)
        go_wp2_with fail
        refine (isWidth_c _ _).mono ?_
        rw [Hj.out]
        rintro e w2 ⟨rfl, rfl⟩
        go_wp2_with fail
        refine (implisOpen_c _ _ _ _ xs (hA0.below b1) Hm.out h8m Hx.out).mono ?_
        rw [HC.out]
        rintro e w3 ⟨rfl, b3⟩
        have hs1 : w.heap.size < w1.heap.size := Nat.lt_of_lt_of_le hs0 b1.size
        have hb3 := hb1.trans (b3.mono hb1.size)
        have Hc3 := Lib.hid ((b3.cell (p := ⟨w.heap.size, 0, none⟩) hs1).trans hc1)
        have Hat3 := Lib.hid (IsAt.below hr hb hb3)
        have hs3 : w.heap.size < w3.heap.size := Nat.lt_of_lt_of_le hs1 b3.size
        have hbs3 : b < w3.heap.size := by omega
        clear hc0 hc1 hat0 hA0 hr
        go_wp2_with fail
        refine (takenAdd_c _ K (by omega) (fun x => adB xs x.toNat) w.heap.size (fun q q1 q2 W hW => by
          have h := addOffsets1_c W w.heap.size b off m xs ((hW.cell (p := ⟨w.heap.size, 0, none⟩) hs3).trans Hc3.out) (Nat.lt_of_lt_of_le hbs3 hW.size) (IsAt.below Hat3.out hbs3 hW) Hm.out Hg.out q q1 (by omega)
          simpa using h)).mono ?_
        rintro e w6 ⟨⟨v6, rfl, o6⟩, b6⟩
        go_wp2
        go_ret2
        exact ⟨⟨_, rfl, OwnI.mono o6 hb3.size⟩, hb3.trans (b6.mono hb3.size)⟩

theorem spec_AddOffsets_e (w : World) (A : Option Addr) (m c : Nat) (xs : List Int) (hA : Il w A xs) (hm : m = xs.length) (hn : m ≤ 1048576) (hc : m = c) (M : Int) :
    Calls Try.prog 57 #[.slice A m c, .int .i64 M] w fun en w' => (∃ v, en = .returned (.tuple #[v, .bool (aoO xs M)]) ∧ OwnI w' w.heap.size v (aoV xs M)) ∧ Below w.heap.size w w' := by
  subst hc
  exact spec_AddOffsets_c w A m xs hA hm hn M
theorem impl_AddOffsets_e (w : World) (A : Option Addr) (m c : Nat) (xs : List Int) (hA : Il w A xs) (hm : m = xs.length) (hn : m ≤ 1048576) (hc : m = c) (M : Int) :
    Calls Try.prog 58 #[.slice A m c, .int .i64 M] w fun en w' => (∃ v, en = .returned (.tuple #[v, .bool (aoO xs M)]) ∧ OwnI w' w.heap.size v (aoV xs M)) ∧ Below w.heap.size w w' := by
  subst hc
  exact impl_AddOffsets_c w A m xs hA hm hn M

end Go.Proofs.Ytgnmookklplnmaa
