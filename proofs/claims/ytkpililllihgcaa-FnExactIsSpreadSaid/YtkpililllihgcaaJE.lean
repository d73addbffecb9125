import Derived.Test.YtkpililllihgcaaJ8
import Derived.Test.YtkpililllihgcaaYD
import Derived.StillTailTactics
import Derived.ChangeKeysEq
import Derived.Laws.StructEq
import Derived.Deep.RegionLaw
namespace Go.Proofs.Ytkpililllihgcaa
open Go.RowKit
set_option linter.unusedVariables false
set_option linter.unusedSimpArgs false

set_option maxRecDepth 100000 in
set_option maxHeartbeats 400000 in
theorem leastPart_c (w : World) (n : Nat) (h2 : 2 ≤ n) (h9 : n ≤ 1000) :
    Calls Try.prog 96 #[.int .i64 (n : Int)] w fun en w' => en = .returned (.int .i64 (lsP n : Int)) ∧ w = w' := by
  have Hmore := Lib.hid (fun j => lsP_more (n := n) (j := j) h2)
  have Hstop := Lib.hid (lsP_stop h2)
  have hp2 := leastF_ge h2
  have hpn := leastF_le n
  have hk1 := str_pos hp2 (by omega) (leastF_dvd n)
  have hPle := (lsP_facts h2).2.2.2.2.2.2
  have Hls : Hid (lsP n = leastF n ^ strK (leastF n) n) := rfl
  have hlf := leastFactor_c (n : Int) w (by omega) (by omega)
  rw [Int.toNat_natCast] at hlf
  have Hlf := Lib.hid hlf
  obtain ⟨p, hp⟩ : ∃ p, leastF n = p := ⟨_, rfl⟩
  rw [hp] at Hmore Hstop hp2 hpn hk1 Hls Hlf
  obtain ⟨K, hK⟩ : ∃ K, strK p n = K := ⟨_, rfl⟩
  rw [hK] at Hmore hk1 Hls
  obtain ⟨T, hT⟩ : ∃ T, lsP n = T := ⟨_, rfl⟩
  rw [hT] at Hstop hPle Hls ⊢
  have hz : ((p : Int) == 0) = false := beq_eq_false_iff_ne.2 (by omega)
  clear hlf hp hK hT
  go_enter Try.func96, Try.ntmps96
  go_wp2_with fail
  refine Hlf.out.mono ?_
  rintro e w1 ⟨rfl, rfl⟩
  go_wp2
  go_loop [4] (fun v => ∃ j a : Nat, v = .int .i64 (a : Int) ∧ 1 ≤ j ∧ j ≤ K ∧ Hid (a = p ^ j)) (fun v => 2000 - (intOf v).toNat)
  case atStart => exact ⟨1, p, rfl, Nat.le_refl _, hk1, (Nat.pow_one p).symm⟩
  case round =>
    obtain ⟨j, a, rfl, hj1, hjK, ha⟩ := hrel
    have hale : a ≤ T := by rw [ha.out, Hls.out]; exact Nat.pow_le_pow_right (by omega) hjK
    have ha2 : 2 ≤ a := by rw [ha.out]; exact Nat.le_trans hp2 (Nat.le_self_pow (by omega) _)
    have hza : ((a : Int) == 0) = false := beq_eq_false_iff_ne.2 (by omega)
    have hq := Nat.div_le_self n a
    obtain ⟨Q, hQ⟩ : ∃ Q, n / a = Q := ⟨_, rfl⟩
    have hQi : (n : Int) / (a : Int) = (Q : Int) := by rw [← hQ, Int.natCast_ediv]
    have HQ := Lib.hid hQ
    rw [hQ] at hq
    clear hQ
    by_cases hlt : j < K
    · have hm : Q % p = 0 := by rw [← HQ.out, ha.out]; exact Hmore.out j hlt
      have hmi : ((Q : Int) % (p : Int) == 0) = true := by rw [← Int.natCast_emod, hm]; rfl
      have hnext : a * p = p ^ (j + 1) := by rw [Nat.pow_succ, ← ha.out]
      have hle2 : a * p ≤ T := by rw [hnext, Hls.out]; exact Nat.pow_le_pow_right (by omega) (by omega)
      have hlt2 : a + a ≤ a * p := by have := Nat.mul_le_mul (Nat.le_refl a) hp2; omega
      obtain ⟨b, hb⟩ : ∃ b, a * p = b := ⟨_, rfl⟩
      have hbi : (a : Int) * (p : Int) = (b : Int) := by rw [← hb, Int.natCast_mul]
      rw [hb] at hnext hle2 hlt2
      have Hn := Lib.hid hnext
      clear hm hnext hb
      go_wp2
      go_round
      case rel => exact ⟨j + 1, b, rfl, by omega, by omega, Hn.out⟩
      case measure => simp [intOf]; omega
    · have hjK2 : j = K := by omega
      have haT : a = T := by rw [ha.out, Hls.out, hjK2]
      have hm : Q % p ≠ 0 := by rw [← HQ.out, haT]; exact Hstop.out
      have hmi : ((Q : Int) % (p : Int) == 0) = false := by rw [← Int.natCast_emod]; exact beq_eq_false_iff_ne.2 (by omega)
      have HaT := Lib.hid haT
      clear hm haT hjK2
      go_wp2
      go_ret
      exact ⟨by rw [← HaT.out]; rfl, rfl⟩
def sqF (xs : List Int) (m n : Nat) : Int := if n ≤ m then spI xs n else 0
set_option maxRecDepth 100000 in
set_option maxHeartbeats 1600000 in
theorem spread_c (w : World) (xs : List Int) (m : Nat) (h1 : 1 ≤ m) (h9 : m ≤ 200) :
    Calls Try.prog 79 #[.agg (tA (arI xs)), .int .i64 (m : Int)] w fun en w' => en = .returned (.agg (tA (sqF xs m))) ∧ Below w.heap.size w w' := by
  have Hz201 := Lib.hid zero201
  have Ha := Lib.hid (fun j hj => tA_get (arI xs) (j := j) hj)
  obtain ⟨ca, hca⟩ : ∃ c, tA (arI xs) = c := ⟨_, rfl⟩
  rw [hca] at Ha ⊢
  clear hca
  have Hcz : Hid (Try.zeroCells56.setIfInBounds 1 (.int .i64 1) = tA (upF (fun _ => 0) 1 1)) := by
    show _ = _
    rw [Hz201.out, tA_set _ 1 (by omega)]
  obtain ⟨W0, hW0⟩ : ∃ W0, ((w.alloc (.cells ca 56)).alloc (.cells Try.zeroCells56 56)).alloc (.cells (Try.zeroCells56.setIfInBounds 1 (.int .i64 1)) 56) = W0 := ⟨_, rfl⟩
  have b0 : Below w.heap.size w W0 := by rw [← hW0]; exact (((Below.refl _ w).alloc (Nat.le_refl _) _).alloc (by simp) _).alloc (by simp; omega) _
  have hP : W0.heap[w.heap.size]? = some (.cells ca 56 (0, 0)) := by
    rw [← hW0]
    exact (heap_alloc_old _ _ (by first | (simp; done) | (simp; omega))).trans ((heap_alloc_old _ _ (by simp)).trans (heap_alloc_new w _))
  have hR : W0.heap[w.heap.size + 1]? = some (.cells Try.zeroCells56 56 (0, 0)) := by
    rw [← hW0]
    have h := heap_alloc_new (w.alloc (.cells ca 56)) (.cells Try.zeroCells56 56)
    rw [World.size_alloc] at h
    exact (heap_alloc_old _ _ (by simp)).trans h
  have hZ : W0.heap[w.heap.size + 1 + 1]? = some (.cells (tA (upF (fun _ => 0) 1 1)) 56 (0, 0)) := by
    rw [← hW0, ← Hcz.out]
    have h := heap_alloc_new ((w.alloc (.cells ca 56)).alloc (.cells Try.zeroCells56 56)) (.cells (Try.zeroCells56.setIfInBounds 1 (.int .i64 1)) 56)
    rw [World.size_alloc, World.size_alloc] at h
    exact h
  have hz1 : Try.zeroCells56[1]? = some (.int .i64 0) := by rw [Hz201.out]; exact tA_get _ (by omega)
  have HW0 := Lib.hid hW0
  have HP := Lib.hid hP
  have HR := Lib.hid hR
  have HZ1 := Lib.hid hZ
  have B0 := Lib.hid b0
  clear hP hR hZ b0 hW0
  go_enter Try.func79, Try.ntmps79
  go_wp2
  rw [HW0.out]
  clear hz1 HW0
  have hsz : w.heap.size + 1 + 1 < W0.heap.size := (Array.getElem?_eq_some_iff.1 HZ1.out).1
  go_loopw [6, 7] (fun d _ wr => ∃ (E : Nat) (f : Nat → Int), 2 ≤ E ∧ E ≤ m + 1 ∧ d = .int .i64 (E : Int) ∧ wr.heap[w.heap.size + 1 + 1]? = some (.cells (tA f) 56 (0, 0)) ∧ (∀ i, i < E → f i = spI xs i) ∧ (∀ i, E ≤ i → f i = 0) ∧ Below (w.heap.size + 1 + 1) W0 wr) (fun d _ _ => 202 - (intOf d).toNat)
  case atStart => exact ⟨2, _, Nat.le_refl _, by omega, rfl, HZ1.out, fun i hi => by
      have : i = 0 ∨ i = 1 := by omega
      rcases this with rfl | rfl <;> rfl, fun i hi => upF_ne _ _ (by omega), Below.refl _ _⟩
  case round =>
    obtain ⟨E, f, hE2, hE9, rfl, hf, hfn, hfz, hbel⟩ := hrel
    have Hf := Lib.hid hf
    have Hfn := Lib.hid hfn
    have Hfz := Lib.hid hfz
    clear hf hfn hfz
    by_cases hlt : E ≤ m
    · obtain ⟨l1, l2, l3, l4, l5, l6, l7⟩ := lsP_facts (n := E) hE2
      have hsp := spI_at (xs := xs) hE2
      have Hc := Lib.hid (fun W => leastPart_c W E hE2 (by omega))
      obtain ⟨p, hp⟩ : ∃ p, lsP E = p := ⟨_, rfl⟩
      rw [hp] at l2 l5 l7 hsp Hc
      obtain ⟨r, hr⟩ : ∃ r, E / p = r := ⟨_, rfl⟩
      have hri : (E : Int) / (p : Int) = (r : Int) := by rw [← hr, Int.natCast_ediv]
      rw [hr] at l5 hsp
      have hzp : ((p : Int) == 0) = false := beq_eq_false_iff_ne.2 (by omega)
      have hpz : ¬ p = 0 := by omega
      have hwp : IntKind.i64.wrap (p : Int) = (p : Int) := IntWalk.i64_in _ (by omega)
      have hwr : IntKind.i64.wrap (r : Int) = (r : Int) := IntWalk.i64_in _ (by omega)
      have hwE : IntKind.i64.wrap (E : Int) = (E : Int) := IntWalk.i64_in _ (by omega)
      have hp3 : (p : Int) < 201 := by omega
      have hr3 : (r : Int) < 201 := by omega
      have hE3 : (E : Int) < 201 := by omega
      have hcx := cell_of_row wr w.heap.size p _ _ _ ((hbel.block w.heap.size (by omega)).trans HP.out) |>.trans (Ha.out p (by omega))
      have hcy := cell_of_row wr (w.heap.size + 1 + 1) r _ _ _ Hf.out |>.trans (tA_get f (by omega))
      have hcz := cell_of_row wr (w.heap.size + 1 + 1) E _ _ _ Hf.out |>.trans (tA_get f (by omega))
      have hff : wr.frozen? ⟨w.heap.size + 1 + 1, E, none⟩ = false := frozen_of_row wr (w.heap.size + 1 + 1) E _ _ Hf.out
      rw [Hfn.out r l5] at hcy
      obtain ⟨X, hX⟩ : ∃ X, arI xs p = X := ⟨_, rfl⟩
      obtain ⟨Y, hY⟩ : ∃ Y, spI xs r = Y := ⟨_, rfl⟩
      obtain ⟨Z0, hZ0⟩ : ∃ Z, X * Y = Z := ⟨_, rfl⟩
      obtain ⟨Z, hZ⟩ : ∃ Z, IntKind.i64.wrap Z0 = Z := ⟨_, rfl⟩
      rw [hX] at hcx hsp
      rw [hY] at hcy hsp
      rw [hZ0, hZ] at hsp
      have Hsp := Lib.hid hsp
      clear hp l1 l3 l4 l6 hr hX hY hsp
      go_wp2_with fail
      refine (Hc.out _).mono ?_
      rintro e w1 ⟨rfl, rfl⟩
      go_wp2_with fail
      go_still_tail 10, (by kernel_rfl)
      go_wp2
      go_roundw
      case rel =>
        refine ⟨E + 1, upF f E Z, by omega, by omega, by go_num, ?_, fun i hi => ?_, fun i hi => ?_, hbel.drew.setCell (Nat.le_refl _) _⟩
        · have h := heap_setCell_same wr.drew (w.heap.size + 1 + 1) E (tA f) 56 (.int .i64 Z) Hf.out
          rw [tA_set f Z (by omega)] at h
          exact h
        · by_cases hiE : i = E
          · subst hiE; rw [upF_at, Hsp.out]
          · rw [upF_ne f Z hiE]; exact Hfn.out i (by omega)
        · rw [upF_ne f Z (by omega)]; exact Hfz.out i (by omega)
      case measure => simp [intOf]; omega
    · have HE := Lib.hid (show E = m + 1 by omega)
      have Hs2 := Lib.hid size201
      have Hr2 := Lib.hid ((hbel.block (w.heap.size + 1) (by omega)).trans HR.out)
      have Hz3 : Hid (Try.zeroCells56.size = 201) := by show _ = _; rw [Hz201.out, tA_size]
      have b9 := B0.out.trans (hbel.mono (by omega))
      have Hfin : Hid (tA (sqF xs m) = tA f) := tA_congr fun j hj => by
        rw [sqF]
        by_cases hjm : j ≤ m
        · rw [if_pos hjm, Hfn.out j (by rw [HE.out]; omega)]
        · rw [if_neg hjm, Hfz.out j (by rw [HE.out]; omega)]
      go_wp2_with (first | (refine wpList_load_row rfl 56 (.tmp 5) rfl (w.heap.size + 1 + 1) rfl _ _ _ _ Hf.out Try.underlying56 rfl (Hs2.out.trans (by rw [tA_size])) ?_) | (refine wpList_store_row rfl 56 (.tmp 4) (.tmp 27) rfl (w.heap.size + 1) (tA f) rfl rfl _ _ Hr2.out (Hs2.out.trans (by rw [tA_size])) (by rw [tA_size]; exact Hz3.out) (tA_one _) ?_))
      refine bodyPost_ret (results_cell_row rfl _ _ (w.heap.size + 1) _ (tA f) _ _ rfl (setRow_heap wr _ _ _ _ _ Hr2.out) Try.underlying56 rfl (Hs2.out.trans (by rw [tA_size]))) rfl ⟨by rw [Hfin.out], ?_⟩
      exact b9.trans ⟨rfl, rfl, rfl, by simp, fun i hi => setRow_other wr _ _ _ (by omega)⟩
end Go.Proofs.Ytkpililllihgcaa
