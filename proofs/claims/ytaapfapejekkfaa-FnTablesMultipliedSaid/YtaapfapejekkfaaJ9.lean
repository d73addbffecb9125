import Derived.Test.YtaapfapejekkfaaJ8
import Derived.StillTailTactics
namespace Go.Proofs.Ytaapfapejekkfaa
open Go.RowKit
set_option linter.unusedVariables false
set_option linter.unusedSimpArgs false

set_option maxRecDepth 100000 in
set_option maxHeartbeats 1600000 in
theorem over_c (w : World) (xs ys : List Int) (hx : smallL xs) (hy : smallL ys) :
    Calls Try.prog 240 #[.agg (tA (arI xs)), .agg (tA (arI ys))] w fun en w' => (∃ q, en = .returned (.agg (tA q)) ∧ ∀ n, 1 ≤ n → n ≤ 200 → q n = ovF xs ys n) ∧ Below w.heap.size w w' := by
  have Hx := Lib.hid hx
  have Hy := Lib.hid hy
  have Hz201 := Lib.hid zero201
  clear hx hy
  have Ha := Lib.hid (fun j hj => tA_get (arI xs) (j := j) hj)
  have Hb := Lib.hid (fun j hj => tA_get (arI ys) (j := j) hj)
  obtain ⟨ca, hca⟩ : ∃ c, tA (arI xs) = c := ⟨_, rfl⟩
  obtain ⟨cb, hcb⟩ : ∃ c, tA (arI ys) = c := ⟨_, rfl⟩
  rw [hca] at Ha ⊢
  rw [hcb] at Hb ⊢
  clear hca hcb
  go_enter Try.func240, Try.ntmps240
  go_wp2
  obtain ⟨W0, hW0⟩ : ∃ W0, (((w.alloc (.cells ca 152)).alloc (.cells cb 152)).alloc (.cells Try.zeroCells152 152)).alloc (.cells Try.zeroCells152 152) = W0 := ⟨_, rfl⟩
  have b0 : Below w.heap.size w W0 := by rw [← hW0]; exact ((((Below.refl _ w).alloc (Nat.le_refl _) _).alloc (by simp) _).alloc (by simp; omega) _).alloc (by simp; omega) _
  have hP : W0.heap[w.heap.size]? = some (.cells ca 152 (0, 0)) := by
    rw [← hW0]
    exact (heap_alloc_old _ _ (by first | (simp; done) | (simp; omega))).trans ((heap_alloc_old _ _ (by first | (simp; done) | (simp; omega))).trans ((heap_alloc_old _ _ (by simp)).trans (heap_alloc_new w _)))
  have hQ : W0.heap[w.heap.size + 1]? = some (.cells cb 152 (0, 0)) := by
    rw [← hW0]
    have h := heap_alloc_new (w.alloc (.cells ca 152)) (.cells cb 152)
    rw [World.size_alloc] at h
    exact (heap_alloc_old _ _ (by first | (simp; done) | (simp; omega))).trans ((heap_alloc_old _ _ (by simp)).trans h)
  have hR : W0.heap[w.heap.size + 1 + 1]? = some (.cells Try.zeroCells152 152 (0, 0)) := by
    rw [← hW0]
    have h := heap_alloc_new ((w.alloc (.cells ca 152)).alloc (.cells cb 152)) (.cells Try.zeroCells152 152)
    rw [World.size_alloc, World.size_alloc] at h
    exact (heap_alloc_old _ _ (by simp)).trans h
  have hZ : W0.heap[w.heap.size + 1 + 1 + 1]? = some (.cells Try.zeroCells152 152 (0, 0)) := by
    rw [← hW0]
    have h := heap_alloc_new (((w.alloc (.cells ca 152)).alloc (.cells cb 152)).alloc (.cells Try.zeroCells152 152)) (.cells Try.zeroCells152 152)
    rw [World.size_alloc, World.size_alloc, World.size_alloc] at h
    exact h
  rw [hW0]
  clear hW0
  have hsz : w.heap.size + 1 + 1 + 1 < W0.heap.size := (Array.getElem?_eq_some_iff.1 hZ).1
  have HP := Lib.hid hP
  have HQ := Lib.hid hQ
  have HR := Lib.hid hR
  have HZ := Lib.hid hZ
  have B0 := Lib.hid b0
  clear hP hQ hR hZ b0
  go_loopw [6, 7] (fun d _ wr => ∃ (E : Nat) (f : Nat → Int), 1 ≤ E ∧ E ≤ 201 ∧ d = .int .i64 (E : Int) ∧ wr.heap[w.heap.size + 1 + 1 + 1]? = some (.cells (tA f) 152 (0, 0)) ∧ (∀ n, 1 ≤ n → n ≤ 200 → f n = ovS xs ys n (E - 1)) ∧ Below (w.heap.size + 1 + 1 + 1) W0 wr) (fun d _ _ => 202 - (intOf d).toNat)
  case atStart => exact ⟨1, fun _ => 0, Nat.le_refl _, by omega, rfl, by rw [← Hz201.out]; exact HZ.out, fun n _ _ => rfl, Below.refl _ _⟩
  case round =>
    obtain ⟨E, f, hE1, hE9, rfl, hf, hfn, hbel⟩ := hrel
    have Hf := Lib.hid hf
    have Hfn := Lib.hid hfn
    have Hbel := Lib.hid hbel
    clear hf hfn hbel
    by_cases hlt : E ≤ 200
    · have hE2 : (E : Int) < 201 := by omega
      have hE3 : (E : Int) ≤ 200 := by omega
      go_wp2_with fail
      go_loopw [7] (fun i wr => ∃ (k : Nat) (f : Nat → Int), 1 ≤ k ∧ k ≤ 201 ∧ i = .int .i64 (k : Int) ∧ wr.heap[w.heap.size + 1 + 1 + 1]? = some (.cells (tA f) 152 (0, 0)) ∧ (∀ n, 1 ≤ n → n ≤ 200 → f n = ovM xs ys n E k) ∧ Below (w.heap.size + 1 + 1 + 1) W0 wr) (fun i _ => 202 - (intOf i).toNat)
      case atStart => exact ⟨1, f, Nat.le_refl _, by omega, rfl, Hf.out, fun n h1 h9 => by rw [Hfn.out n h1 h9, ovM_start xs ys h1 hE1], Hbel.out⟩
      case round =>
        clear Hf Hfn Hbel
        clear f
        obtain ⟨k, f, hk1, hk9, rfl, hf, hfn, hbel⟩ := hrel
        have Hf := Lib.hid hf
        have Hfn := Lib.hid hfn
        have hs := hbel.size
        clear hf hfn
        obtain ⟨P, hP⟩ : ∃ P, E * k = P := ⟨_, rfl⟩
        have hPi : (E : Int) * (k : Int) = (P : Int) := by rw [← hP, Int.natCast_mul]
        have hPk : k ≤ P := by rw [← hP]; exact Nat.le_mul_of_pos_left k (by omega)
        have hP9 : P ≤ 40401 := by have := Nat.mul_le_mul (show E ≤ 201 by omega) (show k ≤ 201 by omega); omega
        have HP2 := Lib.hid hP
        clear hP
        have hw1 : IntKind.i64.wrap (P : Int) = (P : Int) := IntWalk.i64_in _ (by omega)
        by_cases hin : P ≤ 200
        · have hP2 : (P : Int) < 201 := by omega
          have hk2 : (k : Int) < 201 := by omega
          have hcx := cell_of_row wr w.heap.size E _ _ _ ((hbel.block w.heap.size (by omega)).trans HP.out) |>.trans (Ha.out E (by omega))
          have hcy := cell_of_row wr (w.heap.size + 1) k _ _ _ ((hbel.block (w.heap.size + 1) (by omega)).trans HQ.out) |>.trans (Hb.out k (by omega))
          have hcz := cell_of_row wr (w.heap.size + 1 + 1 + 1) P _ _ _ Hf.out |>.trans (tA_get f (by omega))
          have hfz : wr.frozen? ⟨w.heap.size + 1 + 1 + 1, P, none⟩ = false := frozen_of_row wr (w.heap.size + 1 + 1 + 1) P _ _ Hf.out
          have Hst := Lib.hid (ov_step Hx.out Hy.out (d := E) (k := k) hE1 (by omega) hk1 (Hfn.out (E * k) (by rw [HP2.out]; omega) (by rw [HP2.out]; exact hin)))
          rw [HP2.out] at Hst
          obtain ⟨V, hV⟩ : ∃ V, f P = V := ⟨_, rfl⟩
          obtain ⟨X, hX⟩ : ∃ X, arI xs E = X := ⟨_, rfl⟩
          obtain ⟨Y, hY⟩ : ∃ Y, arI ys k = Y := ⟨_, rfl⟩
          obtain ⟨Z0, hZ0⟩ : ∃ Z0, X * Y = Z0 := ⟨_, rfl⟩
          obtain ⟨Z, hZ⟩ : ∃ Z, IntKind.i64.wrap Z0 = Z := ⟨_, rfl⟩
          obtain ⟨U, hU⟩ : ∃ U, IntKind.i64.wrap (V + Z) = U := ⟨_, rfl⟩
          rw [hV] at hcz Hst
          rw [hX] at hcx Hst
          rw [hY] at hcy Hst
          rw [hZ0, hZ, hU] at Hst
          clear hV hX hY
          go_wp2_with fail
          go_still_tail 13, (by kernel_rfl)
          go_wp2
          go_roundw
          case rel =>
            refine ⟨k + 1, upF f P U, by omega, by omega, by go_num, ?_, fun n h1 h9 => ?_, hbel.drew.setCell (Nat.le_refl _) _⟩
            · have h := heap_setCell_same wr.drew (w.heap.size + 1 + 1 + 1) P (tA f) 152 (.int .i64 U) Hf.out
              rw [tA_set f U (by omega)] at h
              exact h
            · by_cases hnP : n = P
              · subst hnP; rw [upF_at, Hst.out]
              · rw [upF_ne f U hnP, Hfn.out n h1 h9, ov_other (by rw [HP2.out]; exact hnP)]
          case measure => simp [intOf]; omega
        · have Hend := Lib.hid (fun n (h9 : n ≤ 200) => ovM_end xs ys (n := n) (d := E) (k := k) (m := 200) hE1 (by rw [Nat.mul_comm, HP2.out]; omega) h9)
          go_wp2
          go_roundw
          case rel => exact ⟨E + 1, f, by omega, by omega, by go_num, Hf.out, fun n h1 h9 => by rw [Hfn.out n h1 h9, Hend.out n h9, show E + 1 - 1 = E by omega], hbel⟩
          case measure => simp [intOf]; omega
    · have HE := Lib.hid (show E = 201 by omega)
      have Hs2 := Lib.hid size201
      have Hr2 := Lib.hid ((Hbel.out.block (w.heap.size + 1 + 1) (by omega)).trans HR.out)
      have Hz3 : Hid (Try.zeroCells152.size = 201) := by show _ = _; rw [Hz201.out, tA_size]
      have b9 := B0.out.trans (Hbel.out.mono (by omega))
      go_wp2_with (first | (refine wpList_load_row rfl 152 (.tmp 5) rfl (w.heap.size + 1 + 1 + 1) rfl _ _ _ _ Hf.out Try.underlying152 rfl (Hs2.out.trans (by rw [tA_size])) ?_) | (refine wpList_store_row rfl 152 (.tmp 4) (.tmp 32) rfl (w.heap.size + 1 + 1) (tA f) rfl rfl _ _ Hr2.out (Hs2.out.trans (by rw [tA_size])) (by rw [tA_size]; exact Hz3.out) (tA_one _) ?_))
      refine bodyPost_ret (results_cell_row rfl _ _ (w.heap.size + 1 + 1) _ (tA f) _ _ rfl (setRow_heap wr _ _ _ _ _ Hr2.out) Try.underlying152 rfl (Hs2.out.trans (by rw [tA_size]))) rfl ⟨⟨f, rfl, fun n h1 h9 => ?_⟩, ?_⟩
      · rw [Hfn.out n h1 h9, HE.out]
        exact ovS_all xs ys h1 h9
      · exact b9.trans ⟨rfl, rfl, rfl, by simp, fun i hi => setRow_other wr _ _ _ (by omega)⟩
end Go.Proofs.Ytaapfapejekkfaa
