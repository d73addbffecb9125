import Derived.Test.YtkpililllihgcaaJB
namespace Go.Proofs.Ytkpililllihgcaa
open Go.RowKit
set_option linter.unusedVariables false
set_option linter.unusedSimpArgs false

set_option maxRecDepth 100000 in
set_option maxHeartbeats 1600000 in
theorem quotient_c (w : World) (us xs : List Int) (hu : ∀ n, 1 ≤ n → n ≤ 200 → arI us n = u1 n) (hx : smallL xs) (h0 : ivL xs 0 = 1 ∨ ivL xs 0 = -1) (G : Nat) (hG : G ≤ 200) (hg : goodG xs G) :
    Calls Try.prog 75 #[.agg (tA (arI us)), .agg (tA (arI xs))] w fun en w' => (∃ q, en = .returned (.agg (tA q)) ∧ ∀ n, 1 ≤ n → n ≤ G → q n = ivL (unL xs G) (n - 1)) ∧ Below w.heap.size w w' := by
  have Hu := Lib.hid hu
  have Hfirst := Lib.hid (fun d r => un_first (a := xs) (G := G) (d := d) (r := r) hx h0 hg (by omega))
  have Hstep := Lib.hid (fun d k r => un_step (a := xs) (G := G) (d := d) (k := k) (r := r) hx hg (by omega))
  have Hz201 := Lib.hid zero201
  clear hu hx h0 hg
  have Hb := Lib.hid (fun j hj => tA_get (arI xs) (j := j) hj)
  obtain ⟨ca, hca⟩ : ∃ c, tA (arI us) = c := ⟨_, rfl⟩
  obtain ⟨cb, hcb⟩ : ∃ c, tA (arI xs) = c := ⟨_, rfl⟩
  have Hca := Lib.hid hca
  have Hcas : Hid (ca.size = 201) := by show _ = _; rw [← hca, tA_size]
  have Hcao : Hid (ca.all (·.oneCell') = true) := by show _ = _; rw [← hca]; exact tA_one _
  rw [hca]
  rw [hcb] at Hb ⊢
  clear hca hcb
  obtain ⟨U, hU⟩ : ∃ U, unL xs G = U := ⟨_, rfl⟩
  rw [hU] at Hfirst Hstep ⊢
  clear hU
  have Hs2 := Lib.hid size201
  have Hz3 : Hid (Try.zeroCells56.size = 201) := by show _ = _; rw [Hz201.out, tA_size]
  obtain ⟨W0, hW0⟩ : ∃ W0, ((((w.alloc (.cells ca 56)).alloc (.cells cb 56)).alloc (.cells Try.zeroCells56 56)).alloc (.cells Try.zeroCells56 56)).alloc (.cells Try.zeroCells56 56) = W0 := ⟨_, rfl⟩
  have b0 : Below w.heap.size w W0 := by rw [← hW0]; exact (((((Below.refl _ w).alloc (Nat.le_refl _) _).alloc (by simp) _).alloc (by simp; omega) _).alloc (by simp; omega) _).alloc (by simp; omega) _
  have hP4 : ((((w.alloc (.cells ca 56)).alloc (.cells cb 56)).alloc (.cells Try.zeroCells56 56)).alloc (.cells Try.zeroCells56 56)).heap[w.heap.size]? = some (.cells ca 56 (0, 0)) :=
    (heap_alloc_old _ _ (by first | (simp; done) | (simp; omega))).trans ((heap_alloc_old _ _ (by first | (simp; done) | (simp; omega))).trans ((heap_alloc_old _ _ (by simp)).trans (heap_alloc_new w _)))
  have hQ : W0.heap[w.heap.size + 1]? = some (.cells cb 56 (0, 0)) := by
    rw [← hW0]
    have h := heap_alloc_new (w.alloc (.cells ca 56)) (.cells cb 56)
    rw [World.size_alloc] at h
    exact (heap_alloc_old _ _ (by first | (simp; done) | (simp; omega))).trans ((heap_alloc_old _ _ (by first | (simp; done) | (simp; omega))).trans ((heap_alloc_old _ _ (by simp)).trans h))
  have hR : W0.heap[w.heap.size + 1 + 1]? = some (.cells Try.zeroCells56 56 (0, 0)) := by
    rw [← hW0]
    have h := heap_alloc_new ((w.alloc (.cells ca 56)).alloc (.cells cb 56)) (.cells Try.zeroCells56 56)
    rw [World.size_alloc, World.size_alloc] at h
    exact (heap_alloc_old _ _ (by first | (simp; done) | (simp; omega))).trans ((heap_alloc_old _ _ (by simp)).trans h)
  have hZ : W0.heap[w.heap.size + 1 + 1 + 1]? = some (.cells Try.zeroCells56 56 (0, 0)) := by
    rw [← hW0]
    have h := heap_alloc_new (((w.alloc (.cells ca 56)).alloc (.cells cb 56)).alloc (.cells Try.zeroCells56 56)) (.cells Try.zeroCells56 56)
    rw [World.size_alloc, World.size_alloc, World.size_alloc] at h
    exact (heap_alloc_old _ _ (by simp)).trans h
  have hY : W0.heap[w.heap.size + 1 + 1 + 1 + 1]? = some (.cells Try.zeroCells56 56 (0, 0)) := by
    rw [← hW0]
    have h := heap_alloc_new ((((w.alloc (.cells ca 56)).alloc (.cells cb 56)).alloc (.cells Try.zeroCells56 56)).alloc (.cells Try.zeroCells56 56)) (.cells Try.zeroCells56 56)
    rw [World.size_alloc, World.size_alloc, World.size_alloc, World.size_alloc] at h
    exact h
  have HW0 := Lib.hid hW0
  have HP4 := Lib.hid hP4
  have HQ := Lib.hid hQ
  have HR := Lib.hid hR
  have HZ := Lib.hid hZ
  have HY := Lib.hid hY
  have B0 := Lib.hid b0
  have hY5 : ((((((w.alloc (.cells ca 56)).alloc (.cells cb 56)).alloc (.cells Try.zeroCells56 56)).alloc (.cells Try.zeroCells56 56)).alloc (.cells Try.zeroCells56 56))).heap[w.heap.size + 1 + 1 + 1 + 1]? = some (.cells Try.zeroCells56 56 (0, 0)) := by rw [hW0]; exact hY
  have HY5 := Lib.hid hY5
  clear hW0 hP4 hQ hR hZ hY b0 hY5
  go_enter Try.func75, Try.ntmps75
  go_wp2_with (first | (refine wpList_load_row rfl 56 (.tmp 2) rfl w.heap.size rfl _ _ _ _ HP4.out Try.underlying56 rfl (Hs2.out.trans (by rw [Hcas.out])) ?_) | (refine wpList_store_row rfl 56 (.tmp 6) (.tmp 9) rfl (w.heap.size + 1 + 1 + 1 + 1) ca rfl rfl _ _ HY5.out (Hs2.out.trans (by rw [Hcas.out])) (by rw [Hcas.out]; exact Hz3.out) Hcao.out ?_))
  obtain ⟨W1, hW1⟩ : ∃ W1, W0.setRow (w.heap.size + 1 + 1 + 1 + 1) ca = W1 := ⟨_, rfl⟩
  have b01 : Below (w.heap.size + 1 + 1 + 1 + 1) W0 W1 := by rw [← hW1]; exact ⟨rfl, rfl, rfl, by simp, fun i hi => setRow_other _ _ _ _ (by omega)⟩
  have HQ1 := Lib.hid ((b01.block (w.heap.size + 1) (by omega)).trans HQ.out)
  have HR1 := Lib.hid ((b01.block (w.heap.size + 1 + 1) (by omega)).trans HR.out)
  have HZ1 := Lib.hid ((b01.block (w.heap.size + 1 + 1 + 1) (by omega)).trans HZ.out)
  have HY1 : Hid (W1.heap[w.heap.size + 1 + 1 + 1 + 1]? = some (.cells ca 56 (0, 0))) := by
    show _ = _
    rw [← hW1]
    exact setRow_heap _ _ _ _ _ _ HY.out
  have B1 := Lib.hid (B0.out.trans (b01.mono (by omega)))
  rw [HW0.out, hW1]
  clear hW1 b01 HW0 HQ HR HZ HY B0 HP4 HY5
  clear W0
  have hsz : w.heap.size + 1 + 1 + 1 + 1 < W1.heap.size := (Array.getElem?_eq_some_iff.1 HY1.out).1
  go_loopw [7, 8] (fun d _ wr => ∃ (E : Nat) (q r : Nat → Int), 1 ≤ E ∧ E ≤ 201 ∧ d = .int .i64 (E : Int) ∧ wr.heap[w.heap.size + 1 + 1 + 1]? = some (.cells (tA q) 56 (0, 0)) ∧ wr.heap[w.heap.size + 1 + 1 + 1 + 1]? = some (.cells (tA r) 56 (0, 0)) ∧ (∀ e, 1 ≤ e → e < E → e ≤ G → q e = ivL U (e - 1)) ∧ (∀ n, E ≤ n → n ≤ G → r n = u1 n - ovS U xs n (E - 1)) ∧ Below (w.heap.size + 1 + 1 + 1) W1 wr) (fun d _ _ => 202 - (intOf d).toNat)
  case atStart => exact ⟨1, fun _ => 0, arI us, Nat.le_refl _, by omega, rfl, by rw [← Hz201.out]; exact HZ1.out, by rw [Hca.out]; exact HY1.out, fun e h1 h2 => by omega, fun n h1 h9 => by rw [Hu.out n h1 (by omega), Nat.sub_self, ovS, Int.sub_zero], Below.refl _ _⟩
  case round =>
    obtain ⟨E, q, r, hE1, hE9, rfl, hq, hr, hqn, hrn, hbel⟩ := hrel
    have Hq := Lib.hid hq
    have Hr := Lib.hid hr
    have Hqn := Lib.hid hqn
    have Hrn := Lib.hid hrn
    clear hq hr hqn hrn
    by_cases hlt : E ≤ 200
    · have hE2 : (E : Int) < 201 := by omega
      have hE3 : (E : Int) ≤ 200 := by omega
      have hc1 := cell_of_row wr (w.heap.size + 1) 1 _ _ _ ((hbel.block (w.heap.size + 1) (by omega)).trans HQ1.out) |>.trans (Hb.out 1 (by omega))
      have hcr := cell_of_row wr (w.heap.size + 1 + 1 + 1 + 1) E _ _ _ Hr.out |>.trans (tA_get r (by omega))
      have hcq := cell_of_row wr (w.heap.size + 1 + 1 + 1) E _ _ _ Hq.out |>.trans (tA_get q (by omega))
      have hfq : wr.frozen? ⟨w.heap.size + 1 + 1 + 1, E, none⟩ = false := frozen_of_row wr (w.heap.size + 1 + 1 + 1) E _ _ Hq.out
      have Hx1 := Lib.hid (fun (h : E ≤ G) => Hfirst.out E _ hE1 h (Hrn.out E (Nat.le_refl _) h))
      obtain ⟨V, hV⟩ : ∃ V, r E = V := ⟨_, rfl⟩
      obtain ⟨B, hB⟩ : ∃ B, arI xs 1 = B := ⟨_, rfl⟩
      obtain ⟨Z0, hZ0⟩ : ∃ Z0, V * B = Z0 := ⟨_, rfl⟩
      obtain ⟨X, hX⟩ : ∃ X, IntKind.i64.wrap Z0 = X := ⟨_, rfl⟩
      rw [hV] at hcr Hx1
      rw [hB] at hc1 Hx1
      rw [hZ0, hX] at Hx1
      have hbel2 := hbel.drew.setCell (Nat.le_refl (w.heap.size + 1 + 1 + 1)) (p := ⟨w.heap.size + 1 + 1 + 1, E, none⟩) (.int .i64 X)
      have Hq2 := Lib.hid (show (wr.drew.setCell ⟨w.heap.size + 1 + 1 + 1, E, none⟩ (.int .i64 X)).heap[w.heap.size + 1 + 1 + 1]? = some (.cells (tA (upF q E X)) 56 (0, 0)) by
        have h := heap_setCell_same wr.drew (w.heap.size + 1 + 1 + 1) E (tA q) 56 (.int .i64 X) Hq.out
        rw [tA_set q X (by omega)] at h
        exact h)
      have Hr2 := Lib.hid ((heap_setCell_other wr.drew ⟨w.heap.size + 1 + 1 + 1, E, none⟩ (w.heap.size + 1 + 1 + 1 + 1) (.int .i64 X) (by simp)).trans Hr.out)
      have Hbel2 := Lib.hid hbel2
      clear hV hB hbel2
      go_wp2_with fail
      go_still_tail 7, (by kernel_rfl)
      go_wp2
      go_loopw [8] (fun i wr => ∃ (k : Nat) (r : Nat → Int), 1 ≤ k ∧ k ≤ 201 ∧ i = .int .i64 (k : Int) ∧ wr.heap[w.heap.size + 1 + 1 + 1]? = some (.cells (tA (upF q E X)) 56 (0, 0)) ∧ wr.heap[w.heap.size + 1 + 1 + 1 + 1]? = some (.cells (tA r) 56 (0, 0)) ∧ (∀ n, E < n → n ≤ G → r n = u1 n - ovM U xs n E k) ∧ Below (w.heap.size + 1 + 1 + 1) W1 wr) (fun i _ => 202 - (intOf i).toNat)
      case atStart => exact ⟨1, r, Nat.le_refl _, by omega, rfl, Hq2.out, Hr2.out, fun n h1 h9 => by rw [Hrn.out n (by omega) h9, ovM_start U xs (by omega) hE1], Hbel2.out⟩
      case round =>
        clear hcr hcq hfq hbel Hq2 Hr2 Hbel2 hc1
        obtain ⟨k, r2, hk1, hk9, rfl, hq, hr, hrn, hbel⟩ := hrel
        have Hq2 := Lib.hid hq
        have Hr2 := Lib.hid hr
        have Hrn2 := Lib.hid hrn
        clear hq hr hrn
        obtain ⟨P, hP⟩ : ∃ P, E * k = P := ⟨_, rfl⟩
        have hPi : (E : Int) * (k : Int) = (P : Int) := by rw [← hP, Int.natCast_mul]
        have hPk : k ≤ P := by rw [← hP]; exact Nat.le_mul_of_pos_left k (by omega)
        have hP9 : P ≤ 40401 := by have := Nat.mul_le_mul (show E ≤ 201 by omega) (show k ≤ 201 by omega); omega
        have HP2 := Lib.hid hP
        clear hP
        have hw1 : IntKind.i64.wrap (P : Int) = (P : Int) := IntWalk.i64_in _ (by omega)
        by_cases hin : P ≤ 200
        · have hP2 : (P : Int) < 201 := by omega
          have hk2 : (k : Int) < 201 := by omega
          have hcy := cell_of_row wr (w.heap.size + 1) k _ _ _ ((hbel.block (w.heap.size + 1) (by omega)).trans HQ1.out) |>.trans (Hb.out k (by omega))
          have hcz := cell_of_row wr (w.heap.size + 1 + 1 + 1 + 1) P _ _ _ Hr2.out |>.trans (tA_get r2 (by omega))
          have hcx := cell_of_row wr (w.heap.size + 1 + 1 + 1) E _ _ _ Hq2.out |>.trans (tA_get (upF q E X) (by omega))
          rw [upF_at] at hcx
          have hfz : wr.frozen? ⟨w.heap.size + 1 + 1 + 1 + 1, P, none⟩ = false := frozen_of_row wr (w.heap.size + 1 + 1 + 1 + 1) P _ _ Hr2.out
          have Hst := Lib.hid (fun (h1 : E < P) (h2 : P ≤ G) => Hstep.out E k (r2 P) hE1 (by rw [HP2.out]; exact h1) (by rw [HP2.out]; exact h2) (by rw [HP2.out]; exact Hrn2.out P h1 h2))
          rw [HP2.out] at Hst
          obtain ⟨V2, hV2⟩ : ∃ V, r2 P = V := ⟨_, rfl⟩
          obtain ⟨Y, hY⟩ : ∃ Y, arI xs k = Y := ⟨_, rfl⟩
          obtain ⟨T0, hT0⟩ : ∃ T0, X * Y = T0 := ⟨_, rfl⟩
          obtain ⟨T, hT⟩ : ∃ T, IntKind.i64.wrap T0 = T := ⟨_, rfl⟩
          obtain ⟨S, hS⟩ : ∃ S, IntKind.i64.wrap (V2 - T) = S := ⟨_, rfl⟩
          rw [hV2] at hcz Hst
          rw [hY] at hcy Hst
          have Hst2 := Lib.hid (fun (h1 : E < P) (h2 : P ≤ G) => show S = u1 P - ovM U xs P E (k + 1) by
            have h := Hst.out h1 h2
            rw [← Hx1.out (by omega), hT0, hT, hS] at h
            exact h)
          clear hV2 hY Hst
          go_wp2_with fail
          go_still_tail 13, (by kernel_rfl)
          go_wp2
          go_roundw
          case rel =>
            refine ⟨k + 1, upF r2 P S, by omega, by omega, by go_num, (heap_setCell_other wr.drew ⟨w.heap.size + 1 + 1 + 1 + 1, P, none⟩ (w.heap.size + 1 + 1 + 1) (.int .i64 S) (by simp)).trans Hq2.out, ?_, fun n h1 h9 => ?_, hbel.drew.setCell (by simp) _⟩
            · have h := heap_setCell_same wr.drew (w.heap.size + 1 + 1 + 1 + 1) P (tA r2) 56 (.int .i64 S) Hr2.out
              rw [tA_set r2 S (by omega)] at h
              exact h
            · by_cases hnP : n = P
              · subst hnP; rw [upF_at]; exact Hst2.out h1 h9
              · rw [upF_ne r2 S hnP, Hrn2.out n h1 h9, ov_other (by rw [HP2.out]; exact hnP)]
          case measure => simp [intOf]; omega
        · have Hend := Lib.hid (fun n (h9 : n ≤ 200) => ovM_end U xs (n := n) (d := E) (k := k) (m := 200) hE1 (by rw [Nat.mul_comm, HP2.out]; omega) h9)
          go_wp2
          go_roundw
          case rel =>
            refine ⟨E + 1, upF q E X, r2, by omega, by omega, by go_num, Hq2.out, Hr2.out, fun e h1 h2 h3 => ?_, fun n h1 h9 => ?_, hbel⟩
            · by_cases heE : e = E
              · subst heE; rw [upF_at]; exact Hx1.out h3
              · rw [upF_ne q X heE]; exact Hqn.out e h1 (by omega) h3
            · rw [Hrn2.out n (by omega) h9, Hend.out n (by omega), show E + 1 - 1 = E by omega]
          case measure => simp [intOf]; omega
    · have HE := Lib.hid (show E = 201 by omega)
      have Hr2 := Lib.hid ((hbel.block (w.heap.size + 1 + 1) (by omega)).trans HR1.out)
      have b9 := B1.out.trans (hbel.mono (by omega))
      go_wp2_with (first | (refine wpList_load_row rfl 56 (.tmp 5) rfl (w.heap.size + 1 + 1 + 1) rfl _ _ _ _ Hq.out Try.underlying56 rfl (Hs2.out.trans (by rw [tA_size])) ?_) | (refine wpList_store_row rfl 56 (.tmp 4) (.tmp 42) rfl (w.heap.size + 1 + 1) (tA q) rfl rfl _ _ Hr2.out (Hs2.out.trans (by rw [tA_size])) (by rw [tA_size]; exact Hz3.out) (tA_one _) ?_))
      refine bodyPost_ret (results_cell_row rfl _ _ (w.heap.size + 1 + 1) _ (tA q) _ _ rfl (setRow_heap wr _ _ _ _ _ Hr2.out) Try.underlying56 rfl (Hs2.out.trans (by rw [tA_size]))) rfl ⟨⟨q, rfl, fun n h1 h9 => ?_⟩, ?_⟩
      · exact Hqn.out n h1 (by rw [HE.out]; omega) h9
      · exact b9.trans ⟨rfl, rfl, rfl, by simp, fun i hi => setRow_other wr _ _ _ (by omega)⟩
end Go.Proofs.Ytkpililllihgcaa
