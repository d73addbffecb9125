import Derived.Test.YtoapidcbmlnjcaaI8
namespace Go.Proofs.Ytoapidcbmlnjcaa
open Go.RowKit
set_option linter.unusedVariables false
set_option linter.unusedSimpArgs false

set_option maxRecDepth 100000 in
set_option maxHeartbeats 1600000 in
theorem catchG_panicking (p : Addr) (x : Value) (w : World) (hc : w.cell? p = some x) (hz : w.frozen? p = false) :
    CallsD Try.prog 109 #[.pointer (some p)] (.panicking empP) w fun e u' w' =>
      e = .returned (.tuple #[]) ∧ u' = .panicking [{ v := .iface 104 (.agg #[]), recovered := true }] ∧ w' = (w.alloc (.cells #[] 104)).setCell p (.bool false) := by
  have hta := assertE_yes
  refine callsD_of_wpS Try.func109 rfl fun c₀ cs hu => ?_
  apply wpS_seq
  apply wpS_region
  change wpOpsS Try.prog _ _ [0, 1, 2, 3, 4, 5, 6, 7] { tmps := #[.pointer (some p), undef, undef, undef, undef, undef, undef, undef, undef, undef], defers := [] } _ _
  refine wpOpsS_recover (cs' := { c₀ with mode := .panicking [{ v := .iface 104 (.agg #[]), recovered := true }] } :: cs) (v := .iface 104 (.agg #[])) (w' := w) rfl rfl (by simp [go_sem, execOp]) (by simp [recoverD, hu, empP]) ?_ ?_
  · intro a w h
    obtain ⟨_, h, _⟩ := h
    cases h
  · refine wpOps_tail (k := 1) (n := 7) rfl ?_
    simp only [List.drop_succ_cons, List.drop_zero]
    go_wp2
    have hp : p.block < w.heap.size := lt_of_cellE hc
    have hc2 : (w.alloc (.cells #[] 104)).cell? p = some x := (((Below.refl w.heap.size w).alloc (Nat.le_refl _) _).cell hp).trans hc
    have hz2 : (w.alloc (.cells #[] 104)).frozen? p = false := (((Below.refl w.heap.size w).alloc (Nat.le_refl _) _).frozen hp).trans hz
    show Code.wpS _ _ _ _ _ _
    refine wpS_of_wp ?_
    go_wp2
    exact ⟨rfl, _, rfl, _, results_none rfl _ _ _, rfl, rfl, rfl⟩
set_option maxRecDepth 100000 in
set_option maxHeartbeats 1600000 in
theorem catchG_idle (p : Addr) (x : Value) (w : World) (hc : w.cell? p = some x) (hz : w.frozen? p = false) :
    CallsD Try.prog 109 #[.pointer (some p)] .returning w fun e u' w' =>
      e = .returned (.tuple #[]) ∧ u' = .returning ∧ w' = (w.alloc (.cells #[] 104)).setCell p (.bool true) := by
  have hta := assertE_no
  refine callsD_of_wpS Try.func109 rfl fun c₀ cs hu => ?_
  apply wpS_seq
  apply wpS_region
  change wpOpsS Try.prog _ _ [0, 1, 2, 3, 4, 5, 6, 7] { tmps := #[.pointer (some p), undef, undef, undef, undef, undef, undef, undef, undef, undef], defers := [] } _ _
  refine wpOpsS_norecover (w' := w) rfl rfl (by simp [go_sem, execOp]) (by simp [recoverD, hu]) ?_ ?_
  · intro a w h
    obtain ⟨_, h, _⟩ := h
    cases h
  · refine wpOps_tail (k := 1) (n := 7) rfl ?_
    simp only [List.drop_succ_cons, List.drop_zero]
    go_wp2
    have hp : p.block < w.heap.size := lt_of_cellE hc
    have hc2 : (w.alloc (.cells #[] 104)).cell? p = some x := (((Below.refl w.heap.size w).alloc (Nat.le_refl _) _).cell hp).trans hc
    have hz2 : (w.alloc (.cells #[] 104)).frozen? p = false := (((Below.refl w.heap.size w).alloc (Nat.le_refl _) _).frozen hp).trans hz
    show Code.wpS _ _ _ _ _ _
    refine wpS_of_wp ?_
    go_wp2
    exact ⟨rfl, { c₀ with mode := .returning }.mode, by rw [← hu], _, results_none rfl _ _ _, rfl, rfl, rfl⟩
set_option maxRecDepth 100000 in
set_option maxHeartbeats 1600000 in
theorem doorG_c (w : World) (A : Option Addr) (m c : Nat) (rs : List (Int × Int)) (hA : Rl w A rs) (hm : m = rs.length) (hn : m ≤ 1048576) (f : Nat) (caps : Array Value)
    (hcf : ∀ (args : Array Value) (w : World), Sem.run Try.prog (callFunc f args) w = .ok (.enter f args) w) (ok : Bool) (x y : Int) (hno : gpO rs = false → ok = false) (hx0 : ok = false → x = 0 ∧ y = 0)
    (tell : gpO rs = true → ∀ W vb vl, Below w.heap.size w W → BoolsAt W vb (perF rs).toNat (lfQ rs) → OwnI W w.heap.size vl (nmC rs true) → Calls Try.prog f (#[.agg #[vb, vl]] ++ caps) W fun en w' => (ok = true ∧ en = .returned (.agg #[.int .i64 x, .int .i64 y]) ∨ ok = false ∧ en = .panicked empP) ∧ Below W.heap.size W w') :
    Calls Try.prog 76 #[.slice A m c, .func (.func f) #[] caps] w fun en w' => en = .returned (.tuple #[.agg #[.int .i64 x, .int .i64 y], .bool ok]) ∧ Below w.heap.size w w' := by
  have Hm := Lib.hid hm
  have Tell := Lib.hid tell
  have Hno := Lib.hid hno
  have Hx0 := Lib.hid hx0
  have hmf : ∀ (fn : Fn) (first cap : Array Value) (w : World), (Instr.makeFunc fn first cap).run Try.prog w = .ok (.func fn first cap) w := fun _ _ _ _ => rfl
  obtain ⟨w1, hw1⟩ : ∃ w1, (w.alloc (.cells #[.int .i64 0, .int .i64 0] 77)).alloc (.cells #[.bool false] 4) = w1 := ⟨_, rfl⟩
  have b1 : Below w.heap.size w w1 := by rw [← hw1]; exact ((Below.refl _ _).alloc (Nat.le_refl _) _).alloc (by simp) _
  have hs1 : w1.heap.size = w.heap.size + 2 := by rw [← hw1]; simp
  have hr1 : w1.heap[w.heap.size + 1]? = some (.cells #[.bool false] 4 (0, 0)) := by
    have := heap_alloc_new (w.alloc (.cells #[.int .i64 0, .int .i64 0] 77)) (.cells #[.bool false] 4)
    rw [World.size_alloc, hw1] at this
    exact this
  have hT1 : w1.heap[w.heap.size]? = some (.cells #[.int .i64 0, .int .i64 0] 77 (0, 0)) := by rw [← hw1, Below.heap_alloc _ _ _ (by simp)]; exact heap_alloc_new w _
  have HT1 := Lib.hid hT1
  have Hr1 := Lib.hid hr1
  have Hw1 := Lib.hid hw1
  have hA1 := hA.below b1
  have Hp := Lib.hid (impl_PeriodOfRules_c w1 A m c rs hA1 Hm.out hn)
  clear hm tell hno hx0 hw1 hr1 hT1
  obtain ⟨G, hG⟩ : ∃ G, w.heap.size = G := ⟨_, rfl⟩
  rw [hG] at hs1 b1 HT1 Hr1 Tell ⊢
  have HG := Lib.hid hG
  have hA' : ∀ W, Below G w W → Rl W A rs := fun W hb => hA.below (by rw [HG.out]; exact hb)
  have HA := Lib.hid hA'
  have h1G : G + 1 ≠ G := by omega
  have hG1 : G ≠ G + 1 := by omega
  clear hA'
  cases hpo : perOk rs with
  | false =>
    have hp2 := Hp.out
    have hok : ok = false := Hno.out (by rw [gpO, hpo]; rfl)
    obtain ⟨hx, hy⟩ := Hx0.out hok
    rw [hpo] at hp2
    have Hp2 := Lib.hid hp2
    subst hok hx hy
    clear hp2 hpo
    go_enter_defers Try.func76, Try.ntmps76
    go_wp2_with fail
    rw [Hw1.out]
    refine Hp2.out.mono ?_
    rintro e w2 ⟨rfl, b2⟩
    have hr2 := (b2.block (G + 1) (by omega)).trans Hr1.out
    have hT2 := (b2.block G (by omega)).trans HT1.out
    have ta2 : w2.cell? ⟨G, 0, none⟩ = some (.int .i64 0) := cell_of_row _ _ 0 _ _ _ hT2
    have tb2 : w2.cell? ⟨G, 1, none⟩ = some (.int .i64 0) := cell_of_row _ _ 1 _ _ _ hT2
    have tf2 : w2.frozen? ⟨G, 0, none⟩ = false := frozen_of_row _ _ _ _ _ hT2
    have tg2 : w2.frozen? ⟨G, 1, none⟩ = false := frozen_of_row _ _ _ _ _ hT2
    have hc2 : w2.cell? ⟨G + 1, 0, none⟩ = some (.bool false) := cell_of_row _ _ 0 _ _ _ hr2
    have hf2 : w2.frozen? ⟨G + 1, 0, none⟩ = false := frozen_of_row _ _ _ _ _ hr2
    go_wp2
    refine ⟨.tuple #[.agg #[.int .i64 0, .int .i64 0], .bool false], by rw [results_cell2 rfl]; go_simp, rfl, ?_⟩
    exact ((((b1.trans (b2.mono (by omega))).setCell (p := ⟨G + 1, 0, none⟩) (by show G ≤ G + 1; omega) _).setCell (p := ⟨G, 0, none⟩) (Nat.le_refl _) _).setCell (p := ⟨G, 1, none⟩) (Nat.le_refl _) _).setCell (p := ⟨G + 1, 0, none⟩) (by show G ≤ G + 1; omega) _
  | true =>
    have hp2 := Hp.out
    rw [hpo, perV_ok hpo] at hp2
    have Hp2 := Lib.hid hp2
    have HRo := Lib.hid (fun W (hb : Below G w W) => roundOf_c W A m c rs (HA.out W hb) Hm.out hpo)
    clear hp2 hpo
    go_enter_defers Try.func76, Try.ntmps76
    go_wp2_with fail
    rw [Hw1.out]
    refine Hp2.out.mono ?_
    rintro e w2 ⟨rfl, b2⟩
    have hr2 := (b2.block (G + 1) (by omega)).trans Hr1.out
    have hT2 := (b2.block G (by omega)).trans HT1.out
    have hc2 : w2.cell? ⟨G + 1, 0, none⟩ = some (.bool false) := cell_of_row _ _ 0 _ _ _ hr2
    have hf2 : w2.frozen? ⟨G + 1, 0, none⟩ = false := frozen_of_row _ _ _ _ _ hr2
    have b3 : Below G w (w2.setCell ⟨G + 1, 0, none⟩ (.bool true)) := (b1.trans (b2.mono (by omega))).setCell (p := ⟨G + 1, 0, none⟩) (by show G ≤ G + 1; omega) _
    have hr3 : (w2.setCell ⟨G + 1, 0, none⟩ (.bool true)).heap[G + 1]? = some (.cells #[.bool true] 4 (0, 0)) := heap_setCell_same w2 (G + 1) 0 _ _ _ hr2
    have hT3 : (w2.setCell ⟨G + 1, 0, none⟩ (.bool true)).heap[G]? = some (.cells #[.int .i64 0, .int .i64 0] 77 (0, 0)) := (heap_setCell_other w2 ⟨G + 1, 0, none⟩ G _ hG1).trans hT2
    have hs3 : G + 1 < (w2.setCell ⟨G + 1, 0, none⟩ (.bool true)).heap.size := by simp; have := b2.size; omega
    go_wp2_with fail
    generalize w2.setCell ⟨G + 1, 0, none⟩ (.bool true) = w3 at b3 hr3 hs3 hT3
    clear hc2 hf2 hr2 hT2
    refine (HRo.out _ b3).mono ?_
    rintro e w4 ⟨h4, b4⟩
    have hs4 := b4.size
    have hr4 := (b4.block (G + 1) hs3).trans hr3
    have hT4 := (b4.block G (by omega)).trans hT3
    have hb4 := b3.trans (b4.mono (by omega))
    have hc4 : w4.cell? ⟨G + 1, 0, none⟩ = some (.bool true) := cell_of_row _ _ 0 _ _ _ hr4
    have hf4 : w4.frozen? ⟨G + 1, 0, none⟩ = false := frozen_of_row _ _ _ _ _ hr4
    have fin : ∀ (w9 : World) (ok : Bool) (x y : Int), w9.heap[G]? = some (.cells #[.int .i64 x, .int .i64 y] 77 (0, 0)) → w9.heap[G + 1]? = some (.cells #[.bool ok] 4 (0, 0)) → ∀ (tmps : Array Value), tmps.getD 4 undef = .pointer (some ⟨G, 0, none⟩) → tmps.getD 5 undef = .pointer (some ⟨G + 1, 0, none⟩) →
        (results Try.f76 tmps).run Try.prog w9 = .ok (.tuple #[.agg #[.int .i64 x, .int .i64 y], .bool ok]) w9 := by
      intro w9 ok x y h1 h2 tmps e1 e2
      have c1 : w9.cell? ⟨G, 0, none⟩ = some (.int .i64 x) := cell_of_row _ _ 0 _ _ _ h1
      have c2 : w9.cell? ⟨G, 1, none⟩ = some (.int .i64 y) := cell_of_row _ _ 1 _ _ _ h1
      have c3 : w9.cell? ⟨G + 1, 0, none⟩ = some (.bool ok) := cell_of_row _ _ 0 _ _ _ h2
      rw [results_cell2 rfl, e1, e2]
      go_simp
    have Fin := Lib.hid fin
    clear fin
    rcases h4 with ⟨ho, rfl⟩ | ⟨ho, vb, vl, rfl, hB, hV⟩
    · have hok : ok = false := Hno.out ho
      obtain ⟨hx, hy⟩ := Hx0.out hok
      subst hok hx hy
      show Leaves _ _ _ _ _ _ _
      refine leaves_cons (f := 109) (args := #[.pointer (some ⟨G + 1, 0, none⟩)]) (by simp) (by simp [go_sem]) ?_
      refine (catchG_panicking ⟨G + 1, 0, none⟩ (.bool true) w4 hc4 hf4).mono ?_
      rintro e u' w5 ⟨rfl, rfl, rfl⟩
      have hr5 := heap_setCell_same (w4.alloc (.cells #[] 104)) (G + 1) 0 _ _ (.bool false) ((Below.heap_alloc w4 _ _ (by omega)).trans hr4)
      have hT5 := (heap_setCell_other (w4.alloc (.cells #[] 104)) ⟨G + 1, 0, none⟩ G (.bool false) hG1).trans ((Below.heap_alloc w4 _ _ (by omega)).trans hT4)
      refine ⟨_, Fin.out _ false 0 0 hT5 hr5 _ rfl rfl, rfl, ?_⟩
      exact (hb4.alloc (by omega) _).setCell (p := ⟨G + 1, 0, none⟩) (by show G ≤ G + 1; omega) _
    · go_wp2_with fail
      refine (Tell.out ho w4 vb vl hb4 hB (OwnI.mono hV (by omega))).mono ?_
      rintro e w5 ⟨h5, b5⟩
      have hs5 := b5.size
      have hr5 := (b5.block (G + 1) (by omega)).trans hr4
      have hT5 := (b5.block G (by omega)).trans hT4
      have hb5 := hb4.trans (b5.mono (by omega))
      have hc5 : w5.cell? ⟨G + 1, 0, none⟩ = some (.bool true) := cell_of_row _ _ 0 _ _ _ hr5
      have hf5 : w5.frozen? ⟨G + 1, 0, none⟩ = false := frozen_of_row _ _ _ _ _ hr5
      have ta5 : w5.cell? ⟨G, 0, none⟩ = some (.int .i64 0) := cell_of_row _ _ 0 _ _ _ hT5
      have tb5 : w5.cell? ⟨G, 1, none⟩ = some (.int .i64 0) := cell_of_row _ _ 1 _ _ _ hT5
      have tf5 : w5.frozen? ⟨G, 0, none⟩ = false := frozen_of_row _ _ _ _ _ hT5
      have tg5 : w5.frozen? ⟨G, 1, none⟩ = false := frozen_of_row _ _ _ _ _ hT5
      clear hc4 hf4 hr4
      rcases h5 with ⟨rfl, rfl⟩ | ⟨hok, rfl⟩
      · go_wp2
        have hT6 : (((w5.setCell ⟨G, 0, none⟩ (.int .i64 x)).setCell ⟨G, 1, none⟩ (.int .i64 y)).setCell ⟨G + 1, 0, none⟩ (.bool true)).heap[G]? = some (.cells #[.int .i64 x, .int .i64 y] 77 (0, 0)) :=
          (heap_setCell_other _ ⟨G + 1, 0, none⟩ G _ hG1).trans (heap_setCell_same _ G 1 _ _ _ (heap_setCell_same w5 G 0 _ _ _ hT5))
        have hr6 : (((w5.setCell ⟨G, 0, none⟩ (.int .i64 x)).setCell ⟨G, 1, none⟩ (.int .i64 y)).setCell ⟨G + 1, 0, none⟩ (.bool true)).heap[G + 1]? = some (.cells #[.bool true] 4 (0, 0)) :=
          heap_setCell_same _ (G + 1) 0 _ _ _ ((heap_setCell_other _ ⟨G, 1, none⟩ (G + 1) _ h1G).trans ((heap_setCell_other w5 ⟨G, 0, none⟩ (G + 1) _ h1G).trans hr5))
        have hb6 : Below G w (((w5.setCell ⟨G, 0, none⟩ (.int .i64 x)).setCell ⟨G, 1, none⟩ (.int .i64 y)).setCell ⟨G + 1, 0, none⟩ (.bool true)) :=
          ((hb5.setCell (p := ⟨G, 0, none⟩) (Nat.le_refl _) _).setCell (p := ⟨G, 1, none⟩) (Nat.le_refl _) _).setCell (p := ⟨G + 1, 0, none⟩) (by show G ≤ G + 1; omega) _
        have hs6 : G + 1 < (((w5.setCell ⟨G, 0, none⟩ (.int .i64 x)).setCell ⟨G, 1, none⟩ (.int .i64 y)).setCell ⟨G + 1, 0, none⟩ (.bool true)).heap.size := by simp; omega
        generalize ((w5.setCell ⟨G, 0, none⟩ (.int .i64 x)).setCell ⟨G, 1, none⟩ (.int .i64 y)).setCell ⟨G + 1, 0, none⟩ (.bool true) = w6 at hT6 hr6 hb6 hs6
        have hc6 : w6.cell? ⟨G + 1, 0, none⟩ = some (.bool true) := cell_of_row _ _ 0 _ _ _ hr6
        have hf6 : w6.frozen? ⟨G + 1, 0, none⟩ = false := frozen_of_row _ _ _ _ _ hr6
        refine leaves_cons (f := 109) (args := #[.pointer (some ⟨G + 1, 0, none⟩)]) (by simp) (by simp [go_sem]) ?_
        refine (catchG_idle ⟨G + 1, 0, none⟩ (.bool true) _ hc6 hf6).mono ?_
        rintro e u' w7 ⟨rfl, rfl, rfl⟩
        have hr7 := heap_setCell_same (w6.alloc (.cells #[] 104)) (G + 1) 0 _ _ (.bool true) ((Below.heap_alloc w6 _ _ (by omega)).trans hr6)
        have hT7 := (heap_setCell_other (w6.alloc (.cells #[] 104)) ⟨G + 1, 0, none⟩ G (.bool true) hG1).trans ((Below.heap_alloc w6 _ _ (by omega)).trans hT6)
        refine ⟨_, Fin.out _ true x y hT7 hr7 _ rfl rfl, rfl, ?_⟩
        exact (hb6.alloc (by omega) _).setCell (p := ⟨G + 1, 0, none⟩) (by show G ≤ G + 1; omega) _
      · obtain ⟨hx, hy⟩ := Hx0.out hok
        subst hok hx hy
        show Leaves _ _ _ _ _ _ _
        refine leaves_cons (f := 109) (args := #[.pointer (some ⟨G + 1, 0, none⟩)]) (by simp) (by simp [go_sem]) ?_
        refine (catchG_panicking ⟨G + 1, 0, none⟩ (.bool true) w5 hc5 hf5).mono ?_
        rintro e u' w7 ⟨rfl, rfl, rfl⟩
        have hr7 := heap_setCell_same (w5.alloc (.cells #[] 104)) (G + 1) 0 _ _ (.bool false) ((Below.heap_alloc w5 _ _ (by omega)).trans hr5)
        have hT7 := (heap_setCell_other (w5.alloc (.cells #[] 104)) ⟨G + 1, 0, none⟩ G (.bool false) hG1).trans ((Below.heap_alloc w5 _ _ (by omega)).trans hT5)
        refine ⟨_, Fin.out _ false 0 0 hT7 hr7 _ rfl rfl, rfl, ?_⟩
        exact (hb5.alloc (by omega) _).setCell (p := ⟨G + 1, 0, none⟩) (by show G ≤ G + 1; omega) _

end Go.Proofs.Ytoapidcbmlnjcaa
