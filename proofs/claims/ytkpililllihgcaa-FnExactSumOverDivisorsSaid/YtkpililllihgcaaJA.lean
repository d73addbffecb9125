import Derived.Test.YtkpililllihgcaaJ9
import Derived.Test.YtkpililllihgcaaSh
import Derived.Test.YtkpililllihgcaaYC
namespace Go.Proofs.Ytkpililllihgcaa
open Go.RowKit
set_option linter.unusedVariables false
set_option linter.unusedSimpArgs false

/-- The numbers 1, .., m of an array. -/
def qL (q : Nat → Int) (m : Nat) : List Int := (List.range m).map fun i => q (i + 1)
theorem qL_len (q : Nat → Int) (m : Nat) : (qL q m).length = m := by simp [qL]
theorem qL_at {q : Nat → Int} {m i : Nat} (h : i < m) : ivL (qL q m) i = q (i + 1) := by simp [qL, ivL, h]
theorem qL_ext {q : Nat → Int} {m : Nat} {l : List Int} (hl : l.length = m) (h : ∀ i, i < m → q (i + 1) = ivL l i) : qL q m = l := by
  apply List.ext_getElem
  · rw [qL_len, hl]
  · intro i h1 h2
    rw [qL_len] at h1
    have := h i h1
    simp [qL, this, ivL, h2]
def joR (q : Nat → Int) (m : Nat) : List Int := if tabB (qL q m) then qL q m else []
theorem joR_no {q : Nat → Int} {m : Nat} (h : tabB (qL q m) = false) : joR q m = [] := by rw [joR, h]; rfl
theorem joR_yes {q : Nat → Int} {m : Nat} (h : tabB (qL q m) = true) : joR q m = qL q m := by rw [joR, h]; rfl
theorem sliced_one (q : Nat → Int) {m : Nat} (hm : m ≤ 200) {W : World} {g : Nat} {t : TypeId} (h : W.heap[g]? = some (.cells (tA q) t (0, 0))) : ∀ j, j < (qL q m).length → W.cell? ⟨g, 1 + j, none⟩ = some (.int .i64 ((qL q m).getD j 0)) := fun j hj => by
  rw [qL_len] at hj
  rw [cell_of_row W g (1 + j) _ _ _ h, tA_get q (by omega), Nat.add_comm 1 j]
  have := qL_at (q := q) hj
  rw [ivL] at this
  rw [this]
set_option maxRecDepth 100000 in
theorem slice_arr {m : Nat} (hm : m ≤ 200) (g : Nat) (W : World) : (Instr.sliceAt 56 (Value.pointer (some ⟨g, 0, none⟩)) (some (Value.int .i64 1)) (some (Value.int .i64 ((m : Int) + 1))) none).run Try.prog W = .ok (.slice (some ⟨g, 1, none⟩) m 200) W := by
  have ht : Try.prog.underlying 56 = some (.array (Try.prog.arrayLen 56) (Try.prog.elem 56)) := by kernel_rfl
  have hl : Try.prog.arrayLen 56 = 201 := by kernel_rfl
  have hs : ∀ W : World, (sizeOf (Try.prog.elem 56)).run Try.prog W = .ok 1 W := fun _ => rfl
  rw [run_sliceAt_array_lh W _ _ ht .i64 .i64 1 ((m : Int) + 1) (by omega) (by omega) (by rw [hl]; omega), hs, hl]
  simp only [Result.andThen, slicedAt]
  by_cases h : (201 : Nat) = (1 : Int).toNat
  · exact absurd h (by decide)
  · rw [if_neg h]
    have e1 : ((m : Int) + 1).toNat - (1 : Int).toNat = m := by omega
    rw [e1]
    rfl
set_option maxRecDepth 100000 in
set_option maxHeartbeats 1600000 in
theorem joined_yes (w : World) (A : Option Addr) (m c : Nat) (xs : List Int) (hA : Il w A xs) (hm : m = xs.length) (A2 : Option Addr) (c2 : Nat) (ys : List Int) (hA2 : Il w A2 ys) (hm2 : m = ys.length)
    (hx : tabB xs = true) (hy : tabB ys = true) (f : Nat) (J : (Nat → Int) → Prop) (hcf : ∀ (args : Array Value) (w : World), Sem.run Try.prog (callFunc f args) w = .ok (.enter f args) w)
    (hf : ∀ W, Calls Try.prog f #[.agg (tA (arI xs)), .agg (tA (arI ys))] W fun en w' => (∃ q, en = .returned (.agg (tA q)) ∧ J q) ∧ Below W.heap.size W w') :
    Calls Try.prog 72 #[.slice A m c, .slice A2 m c2, .func (.func f) #[] #[]] w fun en w' => (∃ v q, en = .returned (.tuple #[v, .bool (tabB (qL q m))]) ∧ J q ∧ OwnI w' w.heap.size v (joR q m)) ∧ Below w.heap.size w w' := by
  obtain ⟨_, m1, m9⟩ := tabB_small hx
  rw [← hm] at m1 m9
  have Hm := Lib.hid hm
  have Hm2 := Lib.hid hm2
  have Hx := Lib.hid hx
  have Hy := Lib.hid hy
  have Hf := Lib.hid hf
  have H1 := Lib.hid (fun W hW => isTable_c W A m c xs hW hm (by omega))
  have H2 := Lib.hid (fun W hW => isTable_c W A2 m c2 ys hW hm2 (by omega))
  have H3 := Lib.hid (fun W hW => arrayOf_c W A m c xs hW hm m9)
  have H4 := Lib.hid (fun W hW => arrayOf_c W A2 m c2 ys hW hm2 m9)
  rw [hx] at H1
  rw [hy] at H2
  have Hz201 := Lib.hid zero201
  have Hs2 := Lib.hid size201
  have Hz3 : Hid (Try.zeroCells56.size = 201) := by show _ = _; rw [Hz201.out, tA_size]
  obtain ⟨ca, hca⟩ : ∃ c, tA (arI xs) = c := ⟨_, rfl⟩
  obtain ⟨cb, hcb⟩ : ∃ c, tA (arI ys) = c := ⟨_, rfl⟩
  rw [hca] at H3 Hf
  rw [hcb] at H4 Hf
  clear hm hm2 hx hy hf hca hcb
  go_enter Try.func72, Try.ntmps72
  go_wp2_with fail
  refine (H1.out _ hA).mono ?_
  rintro e w1 ⟨rfl, rfl⟩
  go_wp2_with fail
  refine (H2.out _ hA2).mono ?_
  rintro e w1 ⟨rfl, rfl⟩
  go_wp2_with fail
  refine (H3.out _ hA).mono ?_
  rintro e w2 ⟨rfl, b2⟩
  go_wp2_with fail
  refine (H4.out _ (hA2.below b2)).mono ?_
  rintro e w3 ⟨rfl, b3⟩
  have b03 := b2.trans (b3.mono b2.size)
  go_wp2_with fail
  refine (Hf.out _).mono ?_
  rintro e w4 ⟨⟨q, rfl, hq⟩, b4⟩
  have b04 := b03.trans (b4.mono b03.size)
  have Hq := Lib.hid hq
  have hz := heap_alloc_new w4 (.cells Try.zeroCells56 56)
  have hW : ((w4.alloc (.cells Try.zeroCells56 56)).setRow w4.heap.size (tA q)).heap[w4.heap.size]? = some (.cells (tA q) 56 (0, 0)) := setRow_heap _ _ _ _ _ _ hz
  have hcl := sliced_one q m9 hW
  have b05 : Below w.heap.size w ((w4.alloc (.cells Try.zeroCells56 56)).setRow w4.heap.size (tA q)) := (b04.alloc b04.size _).trans ⟨rfl, rfl, rfl, by simp, fun i hi => setRow_other _ _ _ _ (by have := b04.size; omega)⟩
  have Hz := Lib.hid hz
  have Hcl := Lib.hid hcl
  have B05 := Lib.hid b05
  have Hal := Lib.hid (tA_one q)
  have Hqs := Lib.hid (tA_size q)
  have Hql := Lib.hid (qL_len q m)
  obtain ⟨l, hl⟩ : ∃ l, qL q m = l := ⟨_, rfl⟩
  have Hl := Lib.hid hl
  rw [hl] at Hcl Hql
  obtain ⟨cq, hcq⟩ : ∃ c, tA q = c := ⟨_, rfl⟩
  rw [hcq] at Hcl B05 Hal Hqs ⊢
  have hsl := slice_arr m9
  clear hq hz hW hcl b05 hl hcq
  go_wp2_with (refine wpList_store_row rfl 56 (.tmp 8) (.tmp 30) rfl w4.heap.size cq rfl rfl _ _ Hz.out (Hs2.out.trans (by rw [Hqs.out])) (by rw [Hqs.out]; exact Hz3.out) Hal.out ?_)
  refine (Try.slices_Clone_int w4.heap.size 1 m _ l _ (by rw [Hql.out]; exact Nat.le_refl _) (by omega) Hcl.out).mono ?_
  rintro e w6 ⟨v6, rfl, o6, _, b6⟩
  have o6b : OwnI w6 ((w4.alloc (.cells Try.zeroCells56 56)).setRow w4.heap.size cq).heap.size v6 l := by
    rw [OwnI, Hql.out]
    rw [List.take_of_length_le (by rw [Hql.out]; exact Nat.le_refl _)] at o6
    exact o6
  have b06 := B05.out.trans (b6.mono B05.out.size)
  have o6c := OwnI.mono o6b B05.out.size
  obtain ⟨A6, c6, rfl⟩ := o6c.shape
  rw [Hql.out] at o6c
  have O6 := Lib.hid o6c
  have Hl6 := Lib.hid (fun W hW => isTable_c W A6 m c6 l hW Hql.out.symm (by omega))
  clear o6 o6b o6c
  rw [Hql.out]
  cases ht : tabB l with
  | false =>
    rw [ht] at Hl6
    go_wp2_with fail
    refine (Hl6.out _ (Il_of_own_n O6.out Hql.out.symm)).mono ?_
    rintro e w7 ⟨rfl, rfl⟩
    go_wp2
    go_ret2
    exact ⟨⟨_, q, by rw [Hl.out, ht]; rfl, Hq.out, by rw [joR_no (by rw [Hl.out]; exact ht)]; exact OwnI.nil _ _⟩, b06⟩
  | true =>
    rw [ht] at Hl6
    go_wp2_with fail
    refine (Hl6.out _ (Il_of_own_n O6.out Hql.out.symm)).mono ?_
    rintro e w7 ⟨rfl, rfl⟩
    go_wp2
    go_ret2
    exact ⟨⟨_, q, by rw [Hl.out, ht]; rfl, Hq.out, by rw [joR_yes (by rw [Hl.out]; exact ht), Hl.out]; exact O6.out⟩, b06⟩
set_option maxRecDepth 100000 in
set_option maxHeartbeats 1600000 in
theorem joined_no (w : World) (A : Option Addr) (m c : Nat) (xs : List Int) (hA : Il w A xs) (hm : m = xs.length) (hn : m ≤ 1048576) (A2 : Option Addr) (m2 c2 : Nat) (ys : List Int) (hA2 : Il w A2 ys) (hm2 : m2 = ys.length) (hn2 : m2 ≤ 1048576)
    (hp : ovP xs ys = false) (f : Nat) :
    Calls Try.prog 72 #[.slice A m c, .slice A2 m2 c2, .func (.func f) #[] #[]] w fun en w' => (∃ v, en = .returned (.tuple #[v, .bool false]) ∧ OwnI w' w.heap.size v []) ∧ Below w.heap.size w w' := by
  have H1 := Lib.hid (fun W hW => isTable_c W A m c xs hW hm hn)
  have H2 := Lib.hid (fun W hW => isTable_c W A2 m2 c2 ys hW hm2 hn2)
  cases hx : tabB xs with
  | false =>
    rw [hx] at H1
    clear hm hm2 hp hx
    go_enter Try.func72, Try.ntmps72
    go_wp2_with fail
    refine (H1.out _ hA).mono ?_
    rintro e w1 ⟨rfl, rfl⟩
    go_wp2
    go_ret2
    exact ⟨⟨_, rfl, OwnI.nil _ _⟩, Below.refl _ _⟩
  | true =>
    rw [hx] at H1
    cases hy : tabB ys with
    | false =>
      rw [hy] at H2
      clear hm hm2 hp hx hy
      go_enter Try.func72, Try.ntmps72
      go_wp2_with fail
      refine (H1.out _ hA).mono ?_
      rintro e w1 ⟨rfl, rfl⟩
      go_wp2_with fail
      refine (H2.out _ hA2).mono ?_
      rintro e w1 ⟨rfl, rfl⟩
      go_wp2
      go_ret2
      exact ⟨⟨_, rfl, OwnI.nil _ _⟩, Below.refl _ _⟩
    | true =>
      rw [hy] at H2
      have hne : m ≠ m2 := fun e => by
        rw [ovP, hx, hy, decide_eq_true (show xs.length = ys.length by omega)] at hp
        cases hp
      have hb : ((m : Int) != (m2 : Int)) = true := bne_iff_ne.2 (by omega)
      clear hm hm2 hp hx hy
      go_enter Try.func72, Try.ntmps72
      go_wp2_with fail
      refine (H1.out _ hA).mono ?_
      rintro e w1 ⟨rfl, rfl⟩
      go_wp2_with fail
      refine (H2.out _ hA2).mono ?_
      rintro e w1 ⟨rfl, rfl⟩
      go_wp2
      go_ret2
      exact ⟨⟨_, rfl, OwnI.nil _ _⟩, Below.refl _ _⟩
set_option maxRecDepth 100000 in
set_option maxHeartbeats 400000 in
theorem impl_OverDivisors_c (w : World) (A : Option Addr) (m c : Nat) (xs : List Int) (hA : Il w A xs) (hm : m = xs.length) (hn : m ≤ 1048576) (A2 : Option Addr) (m2 c2 : Nat) (ys : List Int) (hA2 : Il w A2 ys) (hm2 : m2 = ys.length) (hn2 : m2 ≤ 1048576) :
    Calls Try.prog 36 #[.slice A m c, .slice A2 m2 c2] w fun en w' => (∃ v, en = .returned (.tuple #[v, .bool (ovO xs ys)]) ∧ OwnI w' w.heap.size v (ovR xs ys)) ∧ Below w.heap.size w w' := by
  cases hp : ovP xs ys with
  | false =>
    have ho : ovO xs ys = false := by rw [ovO, hp]; rfl
    rw [ovR_no ho, ho]
    have Hj := Lib.hid (joined_no w A m c xs hA hm hn A2 m2 c2 ys hA2 hm2 hn2 hp 73)
    clear hm hm2 hA hA2 hp ho
    go_enter Try.func36, Try.ntmps36
    go_wp2_with fail
    refine Hj.out.mono ?_
    rintro e w1 ⟨⟨v, rfl, o1⟩, b1⟩
    go_wp2
    go_ret2
    exact ⟨⟨_, rfl, o1⟩, b1⟩
  | true =>
    have hp2 := hp
    simp only [ovP, Bool.and_eq_true, decide_eq_true_eq] at hp2
    obtain ⟨⟨p1, p2⟩, p3⟩ := hp2
    obtain rfl : m = m2 := by omega
    have Hj := Lib.hid (joined_yes w A m c xs hA hm A2 c2 ys hA2 hm2 p1 p2 73 (fun q => ∀ n, 1 ≤ n → n ≤ 200 → q n = ovF xs ys n) (fun _ _ => rfl) (fun W => over_c W xs ys (tabB_small p1).1 (tabB_small p2).1))
    have m9 := (tabB_small p1).2.2
    have Hq := Lib.hid (fun q (h : ∀ n, 1 ≤ n → n ≤ 200 → q n = ovF xs ys n) => show tabB (qL q m) = ovO xs ys ∧ joR q m = ovR xs ys by
      have e : qL q m = ovL xs ys xs.length := by
        rw [← hm]
        exact qL_ext (ovL_len _ _ _) fun i hi => by rw [ovL_at hi]; exact h (i + 1) (by omega) (by omega)
      rw [joR, e, ovR, ovO, hp, Bool.true_and]
      exact ⟨rfl, rfl⟩)
    clear hm hm2 hA hA2 hp p1 p2 p3
    go_enter Try.func36, Try.ntmps36
    go_wp2_with fail
    refine Hj.out.mono ?_
    rintro e w1 ⟨⟨v, q, rfl, hq, o1⟩, b1⟩
    obtain ⟨e1, e2⟩ := Hq.out q hq
    rw [e1]
    rw [e2] at o1
    go_wp2
    go_ret2
    exact ⟨⟨_, rfl, o1⟩, b1⟩
end Go.Proofs.Ytkpililllihgcaa
