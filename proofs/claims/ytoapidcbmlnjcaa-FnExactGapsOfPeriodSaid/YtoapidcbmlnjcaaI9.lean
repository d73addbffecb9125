import Derived.Test.YtoapidcbmlnjcaaI8
namespace Go.Proofs.Ytoapidcbmlnjcaa
open Go.RowKit
set_option linter.unusedVariables false
set_option linter.unusedSimpArgs false

set_option maxRecDepth 100000 in
set_option maxHeartbeats 1600000 in
theorem catchL_panicking (p : Addr) (x : Value) (w : World) (hc : w.cell? p = some x) (hz : w.frozen? p = false) :
    CallsD Try.prog 107 #[.pointer (some p)] (.panicking empP) w fun e u' w' =>
      e = .returned (.tuple #[]) ∧ u' = .panicking [{ v := .iface 104 (.agg #[]), recovered := true }] ∧ w' = (w.alloc (.cells #[] 104)).setCell p (.bool false) := by
  have hta := assertE_yes
  refine callsD_of_wpS Try.func107 rfl fun c₀ cs hu => ?_
  apply wpS_seq
  apply wpS_region
  change wpOpsS Try.prog _ _ [0, 1, 2, 3, 4, 5, 6, 7] { tmps := #[.pointer (some p), undef, undef, undef, undef, undef, undef, undef, undef, undef], defers := [] } _ _
  refine wpOpsS_recover (cs' := { c₀ with mode := .panicking [{ v := .iface 104 (.agg #[]), recovered := true }] } :: cs) (v := .iface 104 (.agg #[])) (w' := w) rfl rfl (by simp [go_sem, execOp]) (by simp [recoverD, hu, empP]) ?_ ?_
  · intro a w h
    obtain ⟨_, h, _⟩ := h
    cases h
  · refine wpOps_tail (k := 1) (n := 7) rfl ?_
    simp only [List.drop_succ_cons, List.drop_zero]
    go_wp2
    have hp : p.block < w.heap.size := lt_of_cellE hc
    have hc2 : (w.alloc (.cells #[] 104)).cell? p = some x := (((Below.refl w.heap.size w).alloc (Nat.le_refl _) _).cell hp).trans hc
    have hz2 : (w.alloc (.cells #[] 104)).frozen? p = false := (((Below.refl w.heap.size w).alloc (Nat.le_refl _) _).frozen hp).trans hz
    show Code.wpS _ _ _ _ _ _
    refine wpS_of_wp ?_
    go_wp2
    exact ⟨rfl, _, rfl, _, results_none rfl _ _ _, rfl, rfl, rfl⟩
set_option maxRecDepth 100000 in
set_option maxHeartbeats 1600000 in
theorem catchL_idle (p : Addr) (x : Value) (w : World) (hc : w.cell? p = some x) (hz : w.frozen? p = false) :
    CallsD Try.prog 107 #[.pointer (some p)] .returning w fun e u' w' =>
      e = .returned (.tuple #[]) ∧ u' = .returning ∧ w' = (w.alloc (.cells #[] 104)).setCell p (.bool true) := by
  have hta := assertE_no
  refine callsD_of_wpS Try.func107 rfl fun c₀ cs hu => ?_
  apply wpS_seq
  apply wpS_region
  change wpOpsS Try.prog _ _ [0, 1, 2, 3, 4, 5, 6, 7] { tmps := #[.pointer (some p), undef, undef, undef, undef, undef, undef, undef, undef, undef], defers := [] } _ _
  refine wpOpsS_norecover (w' := w) rfl rfl (by simp [go_sem, execOp]) (by simp [recoverD, hu]) ?_ ?_
  · intro a w h
    obtain ⟨_, h, _⟩ := h
    cases h
  · refine wpOps_tail (k := 1) (n := 7) rfl ?_
    simp only [List.drop_succ_cons, List.drop_zero]
    go_wp2
    have hp : p.block < w.heap.size := lt_of_cellE hc
    have hc2 : (w.alloc (.cells #[] 104)).cell? p = some x := (((Below.refl w.heap.size w).alloc (Nat.le_refl _) _).cell hp).trans hc
    have hz2 : (w.alloc (.cells #[] 104)).frozen? p = false := (((Below.refl w.heap.size w).alloc (Nat.le_refl _) _).frozen hp).trans hz
    show Code.wpS _ _ _ _ _ _
    refine wpS_of_wp ?_
    go_wp2
    exact ⟨rfl, { c₀ with mode := .returning }.mode, by rw [← hu], _, results_none rfl _ _ _, rfl, rfl, rfl⟩
set_option maxRecDepth 100000 in
set_option maxHeartbeats 1600000 in
theorem doorL_c (w : World) (A : Option Addr) (m c : Nat) (rs : List (Int × Int)) (hA : Rl w A rs) (hm : m = rs.length) (hn : m ≤ 1048576) (f : Nat) (caps : Array Value)
    (hcf : ∀ (args : Array Value) (w : World), Sem.run Try.prog (callFunc f args) w = .ok (.enter f args) w) (ok : Bool) (xs : List Int) (hno : gpO rs = false → ok = false) (hx0 : ok = false → xs = [])
    (tell : gpO rs = true → ∀ W vb vl, Below w.heap.size w W → BoolsAt W vb (perF rs).toNat (lfQ rs) → OwnI W w.heap.size vl (nmC rs true) → Calls Try.prog f (#[.agg #[vb, vl]] ++ caps) W fun en w' => (ok = true ∧ (∃ v, en = .returned v ∧ OwnI w' W.heap.size v xs) ∨ ok = false ∧ en = .panicked empP) ∧ Below W.heap.size W w') :
    Calls Try.prog 74 #[.slice A m c, .func (.func f) #[] caps] w fun en w' => (∃ v, en = .returned (.tuple #[v, .bool ok]) ∧ OwnI w' w.heap.size v xs) ∧ Below w.heap.size w w' := by
  have Hm := Lib.hid hm
  have Tell := Lib.hid tell
  have Hno := Lib.hid hno
  have Hx0 := Lib.hid hx0
  have hmf : ∀ (fn : Fn) (first cap : Array Value) (w : World), (Instr.makeFunc fn first cap).run Try.prog w = .ok (.func fn first cap) w := fun _ _ _ _ => rfl
  obtain ⟨w1, hw1⟩ : ∃ w1, w.alloc (.cells #[.bool false] 4) = w1 := ⟨_, rfl⟩
  have b1 : Below w.heap.size w w1 := by rw [← hw1]; exact (Below.refl _ _).alloc (Nat.le_refl _) _
  have hs1 : w1.heap.size = w.heap.size + 1 := by rw [← hw1]; simp
  have hr1 : w1.heap[w.heap.size]? = some (.cells #[.bool false] 4 (0, 0)) := by rw [← hw1]; exact heap_alloc_new w _
  have Hr1 := Lib.hid hr1
  have Hw1 := Lib.hid hw1
  have hA1 := hA.below b1
  have Hp := Lib.hid (impl_PeriodOfRules_c w1 A m c rs hA1 Hm.out hn)
  clear hm tell hno hx0 hw1 hr1
  cases hpo : perOk rs with
  | false =>
    have hp2 := Hp.out
    have hok : ok = false := Hno.out (by rw [gpO, hpo]; rfl)
    have hx := Hx0.out hok
    rw [hpo] at hp2
    have Hp2 := Lib.hid hp2
    subst hok hx
    clear hp2 hpo
    go_enter_defers Try.func74, Try.ntmps74
    go_wp2_with fail
    rw [Hw1.out]
    refine Hp2.out.mono ?_
    rintro e w2 ⟨rfl, b2⟩
    have hr2 := (b2.block w.heap.size (by omega)).trans Hr1.out
    have hc2 : w2.cell? ⟨w.heap.size, 0, none⟩ = some (.bool false) := cell_of_row _ _ 0 _ _ _ hr2
    have hf2 : w2.frozen? ⟨w.heap.size, 0, none⟩ = false := frozen_of_row _ _ _ _ _ hr2
    go_wp2
    refine ⟨.tuple #[.slice none 0 0, .bool false], by rw [results_tmp_cell rfl]; go_simp, ⟨_, rfl, OwnI.nil _ _⟩, ?_⟩
    exact ((b1.trans (b2.mono (by omega))).setCell (p := ⟨w.heap.size, 0, none⟩) (Nat.le_refl _) _).setCell (p := ⟨w.heap.size, 0, none⟩) (Nat.le_refl _) _
  | true =>
    have hp2 := Hp.out
    rw [hpo, perV_ok hpo] at hp2
    have Hp2 := Lib.hid hp2
    have HRo := Lib.hid (fun W (hb : Below w.heap.size w W) => roundOf_c W A m c rs (hA.below hb) Hm.out hpo)
    clear hp2 hpo
    go_enter_defers Try.func74, Try.ntmps74
    go_wp2_with fail
    rw [Hw1.out]
    refine Hp2.out.mono ?_
    rintro e w2 ⟨rfl, b2⟩
    have hr2 := (b2.block w.heap.size (by omega)).trans Hr1.out
    have hc2 : w2.cell? ⟨w.heap.size, 0, none⟩ = some (.bool false) := cell_of_row _ _ 0 _ _ _ hr2
    have hf2 : w2.frozen? ⟨w.heap.size, 0, none⟩ = false := frozen_of_row _ _ _ _ _ hr2
    go_wp2_with fail
    have b3 : Below w.heap.size w (w2.setCell ⟨w.heap.size, 0, none⟩ (.bool true)) := (b1.trans (b2.mono (by omega))).setCell (p := ⟨w.heap.size, 0, none⟩) (Nat.le_refl _) _
    have hr3 : (w2.setCell ⟨w.heap.size, 0, none⟩ (.bool true)).heap[w.heap.size]? = some (.cells #[.bool true] 4 (0, 0)) := heap_setCell_same w2 w.heap.size 0 _ _ _ hr2
    have hs3 : w.heap.size < (w2.setCell ⟨w.heap.size, 0, none⟩ (.bool true)).heap.size := by simp; have := b2.size; omega
    generalize w2.setCell ⟨w.heap.size, 0, none⟩ (.bool true) = w3 at b3 hr3 hs3
    clear hc2 hf2 hr2
    refine (HRo.out _ b3).mono ?_
    rintro e w4 ⟨h4, b4⟩
    have hs4 := b4.size
    have hr4 := (b4.block w.heap.size hs3).trans hr3
    have hb4 := b3.trans (b4.mono (by omega))
    have hc4 : w4.cell? ⟨w.heap.size, 0, none⟩ = some (.bool true) := cell_of_row _ _ 0 _ _ _ hr4
    have hf4 : w4.frozen? ⟨w.heap.size, 0, none⟩ = false := frozen_of_row _ _ _ _ _ hr4
    rcases h4 with ⟨ho, rfl⟩ | ⟨ho, vb, vl, rfl, hB, hV⟩
    · have hok : ok = false := Hno.out ho
      have hx := Hx0.out hok
      subst hok hx
      show Leaves _ _ _ _ _ _ _
      refine leaves_cons (f := 107) (args := #[.pointer (some ⟨w.heap.size, 0, none⟩)]) (by simp) (by simp [go_sem]) ?_
      refine (catchL_panicking ⟨w.heap.size, 0, none⟩ (.bool true) w4 hc4 hf4).mono ?_
      rintro e u' w5 ⟨rfl, rfl, rfl⟩
      have hc5 : ((w4.alloc (.cells #[] 104)).setCell ⟨w.heap.size, 0, none⟩ (.bool false)).cell? ⟨w.heap.size, 0, none⟩ = some (.bool false) := cell_of_row _ _ 0 _ _ _ (heap_setCell_same _ w.heap.size 0 _ _ (.bool false) ((Below.heap_alloc w4 _ _ (by omega)).trans hr4))
      refine ⟨.tuple #[.slice none 0 0, .bool false], by rw [results_tmp_cell rfl]; go_simp, ⟨_, rfl, OwnI.nil _ _⟩, ?_⟩
      exact (hb4.alloc (by omega) _).setCell (p := ⟨w.heap.size, 0, none⟩) (Nat.le_refl _) _
    · go_wp2_with fail
      refine (Tell.out ho w4 vb vl hb4 hB (OwnI.mono hV (by omega))).mono ?_
      rintro e w5 ⟨h5, b5⟩
      have hs5 := b5.size
      have hr5 := (b5.block w.heap.size (by omega)).trans hr4
      have hb5 := hb4.trans (b5.mono (by omega))
      have hc5 : w5.cell? ⟨w.heap.size, 0, none⟩ = some (.bool true) := cell_of_row _ _ 0 _ _ _ hr5
      have hf5 : w5.frozen? ⟨w.heap.size, 0, none⟩ = false := frozen_of_row _ _ _ _ _ hr5
      clear hc4 hf4 hr4
      rcases h5 with ⟨rfl, v5, rfl, o5⟩ | ⟨hok, rfl⟩
      · obtain ⟨A5, c5, rfl, _⟩ := own_row o5
        have O5 := Lib.hid o5
        obtain ⟨n5, hn5⟩ : ∃ n, xs.length = n := ⟨_, rfl⟩
        rw [hn5] at O5 ⊢
        clear o5 hn5
        go_wp2
        have hr6 := heap_setCell_same w5 w.heap.size 0 _ _ (.bool true) hr5
        have hc6 : (w5.setCell ⟨w.heap.size, 0, none⟩ (.bool true)).cell? ⟨w.heap.size, 0, none⟩ = some (.bool true) := cell_of_row _ _ 0 _ _ _ hr6
        have hf6 : (w5.setCell ⟨w.heap.size, 0, none⟩ (.bool true)).frozen? ⟨w.heap.size, 0, none⟩ = false := frozen_of_row _ _ _ _ _ hr6
        refine leaves_cons (f := 107) (args := #[.pointer (some ⟨w.heap.size, 0, none⟩)]) (by simp) (by simp [go_sem]) ?_
        refine (catchL_idle ⟨w.heap.size, 0, none⟩ (.bool true) _ hc6 hf6).mono ?_
        rintro e u' w7 ⟨rfl, rfl, rfl⟩
        have hc7 : (((w5.setCell ⟨w.heap.size, 0, none⟩ (.bool true)).alloc (.cells #[] 104)).setCell ⟨w.heap.size, 0, none⟩ (.bool true)).cell? ⟨w.heap.size, 0, none⟩ = some (.bool true) := cell_of_row _ _ 0 _ _ _ (heap_setCell_same _ w.heap.size 0 _ _ (.bool true) ((Below.heap_alloc _ _ _ (by simp; omega)).trans hr6))
        refine ⟨.tuple #[.slice A5 n5 c5, .bool true], by rw [results_tmp_cell rfl]; go_simp, ⟨_, rfl, OwnI.mono (B := w4.heap.size) (ownsRow_setCell_below (World.ownsRow.alloc (ownsRow_setCell_below O5.out (a := ⟨w.heap.size, 0, none⟩) (by show w.heap.size < w4.heap.size; omega) _) _) (a := ⟨w.heap.size, 0, none⟩) (by show w.heap.size < w4.heap.size; omega) _) (by omega)⟩, ?_⟩
        exact ((hb5.setCell (p := ⟨w.heap.size, 0, none⟩) (Nat.le_refl _) _).alloc (by simp; omega) _).setCell (p := ⟨w.heap.size, 0, none⟩) (Nat.le_refl _) _
      · have hx := Hx0.out hok
        subst hok hx
        show Leaves _ _ _ _ _ _ _
        refine leaves_cons (f := 107) (args := #[.pointer (some ⟨w.heap.size, 0, none⟩)]) (by simp) (by simp [go_sem]) ?_
        refine (catchL_panicking ⟨w.heap.size, 0, none⟩ (.bool true) w5 hc5 hf5).mono ?_
        rintro e u' w7 ⟨rfl, rfl, rfl⟩
        have hc7 : ((w5.alloc (.cells #[] 104)).setCell ⟨w.heap.size, 0, none⟩ (.bool false)).cell? ⟨w.heap.size, 0, none⟩ = some (.bool false) := cell_of_row _ _ 0 _ _ _ (heap_setCell_same _ w.heap.size 0 _ _ (.bool false) ((Below.heap_alloc w5 _ _ (by omega)).trans hr5))
        refine ⟨.tuple #[.slice none 0 0, .bool false], by rw [results_tmp_cell rfl]; go_simp, ⟨_, rfl, OwnI.nil _ _⟩, ?_⟩
        exact (hb5.alloc (by omega) _).setCell (p := ⟨w.heap.size, 0, none⟩) (Nat.le_refl _) _

end Go.Proofs.Ytoapidcbmlnjcaa
