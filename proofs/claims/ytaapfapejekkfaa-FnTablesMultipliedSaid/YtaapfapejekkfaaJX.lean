import Derived.Test.YtaapfapejekkfaaJ8
import Derived.Test.YtaapfapejekkfaaYD
import Derived.StillTailTactics
import Derived.ChangeKeysEq
import Derived.Laws.StructEq
import Derived.Deep.RegionLaw
import Derived.Test.YtaapfapejekkfaaJ9
import Derived.Test.YtaapfapejekkfaaSh
import Derived.Test.YtaapfapejekkfaaYC
import Derived.Test.YtaapfapejekkfaaJ7
namespace Go.Proofs.Ytaapfapejekkfaa
open Go.RowKit
set_option linter.unusedVariables false
set_option linter.unusedSimpArgs false

set_option maxRecDepth 100000 in
set_option maxHeartbeats 400000 in
theorem leastPart_c (w : World) (n : Nat) (h2 : 2 ≤ n) (h9 : n ≤ 1000) :
    Calls Try.prog 309 #[.int .i64 (n : Int)] w fun en w' => en = .returned (.int .i64 (lsP n : Int)) ∧ w = w' := by
  have Hmore := Lib.hid (fun j => lsP_more (n := n) (j := j) h2)
  have Hstop := Lib.hid (lsP_stop h2)
  have hp2 := leastF_ge h2
  have hpn := leastF_le n
  have hk1 := str_pos hp2 (by omega) (leastF_dvd n)
  have hPle := (lsP_facts h2).2.2.2.2.2.2
  have Hls : Hid (lsP n = leastF n ^ strK (leastF n) n) := rfl
  have hlf := leastFactor_c (n : Int) w (by omega) (by omega)
  rw [Int.toNat_natCast] at hlf
  have Hlf := Lib.hid hlf
  obtain ⟨p, hp⟩ : ∃ p, leastF n = p := ⟨_, rfl⟩
  rw [hp] at Hmore Hstop hp2 hpn hk1 Hls Hlf
  obtain ⟨K, hK⟩ : ∃ K, strK p n = K := ⟨_, rfl⟩
  rw [hK] at Hmore hk1 Hls
  obtain ⟨T, hT⟩ : ∃ T, lsP n = T := ⟨_, rfl⟩
  rw [hT] at Hstop hPle Hls ⊢
  have hz : ((p : Int) == 0) = false := beq_eq_false_iff_ne.2 (by omega)
  clear hlf hp hK hT
  go_enter Try.func309, Try.ntmps309
  go_wp2_with fail
  refine Hlf.out.mono ?_
  rintro e w1 ⟨rfl, rfl⟩
  go_wp2
  go_loop [4] (fun v => ∃ j a : Nat, v = .int .i64 (a : Int) ∧ 1 ≤ j ∧ j ≤ K ∧ Hid (a = p ^ j)) (fun v => 2000 - (intOf v).toNat)
  case atStart => exact ⟨1, p, rfl, Nat.le_refl _, hk1, (Nat.pow_one p).symm⟩
  case round =>
    obtain ⟨j, a, rfl, hj1, hjK, ha⟩ := hrel
    have hale : a ≤ T := by rw [ha.out, Hls.out]; exact Nat.pow_le_pow_right (by omega) hjK
    have ha2 : 2 ≤ a := by rw [ha.out]; exact Nat.le_trans hp2 (Nat.le_self_pow (by omega) _)
    have hza : ((a : Int) == 0) = false := beq_eq_false_iff_ne.2 (by omega)
    have hq := Nat.div_le_self n a
    obtain ⟨Q, hQ⟩ : ∃ Q, n / a = Q := ⟨_, rfl⟩
    have hQi : (n : Int) / (a : Int) = (Q : Int) := by rw [← hQ, Int.natCast_ediv]
    have HQ := Lib.hid hQ
    rw [hQ] at hq
    clear hQ
    by_cases hlt : j < K
    · have hm : Q % p = 0 := by rw [← HQ.out, ha.out]; exact Hmore.out j hlt
      have hmi : ((Q : Int) % (p : Int) == 0) = true := by rw [← Int.natCast_emod, hm]; rfl
      have hnext : a * p = p ^ (j + 1) := by rw [Nat.pow_succ, ← ha.out]
      have hle2 : a * p ≤ T := by rw [hnext, Hls.out]; exact Nat.pow_le_pow_right (by omega) (by omega)
      have hlt2 : a + a ≤ a * p := by have := Nat.mul_le_mul (Nat.le_refl a) hp2; omega
      obtain ⟨b, hb⟩ : ∃ b, a * p = b := ⟨_, rfl⟩
      have hbi : (a : Int) * (p : Int) = (b : Int) := by rw [← hb, Int.natCast_mul]
      rw [hb] at hnext hle2 hlt2
      have Hn := Lib.hid hnext
      clear hm hnext hb
      go_wp2
      go_round
      case rel => exact ⟨j + 1, b, rfl, by omega, by omega, Hn.out⟩
      case measure => simp [intOf]; omega
    · have hjK2 : j = K := by omega
      have haT : a = T := by rw [ha.out, Hls.out, hjK2]
      have hm : Q % p ≠ 0 := by rw [← HQ.out, haT]; exact Hstop.out
      have hmi : ((Q : Int) % (p : Int) == 0) = false := by rw [← Int.natCast_emod]; exact beq_eq_false_iff_ne.2 (by omega)
      have HaT := Lib.hid haT
      clear hm haT hjK2
      go_wp2
      go_ret
      exact ⟨by rw [← HaT.out]; rfl, rfl⟩
def sqF (xs : List Int) (m n : Nat) : Int := if n ≤ m then spI xs n else 0
set_option maxRecDepth 100000 in
set_option maxHeartbeats 1600000 in
theorem spread_c (w : World) (xs : List Int) (m : Nat) (h1 : 1 ≤ m) (h9 : m ≤ 200) :
    Calls Try.prog 245 #[.agg (tA (arI xs)), .int .i64 (m : Int)] w fun en w' => en = .returned (.agg (tA (sqF xs m))) ∧ Below w.heap.size w w' := by
  have Hz201 := Lib.hid zero201
  have Ha := Lib.hid (fun j hj => tA_get (arI xs) (j := j) hj)
  obtain ⟨ca, hca⟩ : ∃ c, tA (arI xs) = c := ⟨_, rfl⟩
  rw [hca] at Ha ⊢
  clear hca
  have Hcz : Hid (Try.zeroCells152.setIfInBounds 1 (.int .i64 1) = tA (upF (fun _ => 0) 1 1)) := by
    show _ = _
    rw [Hz201.out, tA_set _ 1 (by omega)]
  obtain ⟨W0, hW0⟩ : ∃ W0, ((w.alloc (.cells ca 152)).alloc (.cells Try.zeroCells152 152)).alloc (.cells (Try.zeroCells152.setIfInBounds 1 (.int .i64 1)) 152) = W0 := ⟨_, rfl⟩
  have b0 : Below w.heap.size w W0 := by rw [← hW0]; exact (((Below.refl _ w).alloc (Nat.le_refl _) _).alloc (by simp) _).alloc (by simp; omega) _
  have hP : W0.heap[w.heap.size]? = some (.cells ca 152 (0, 0)) := by
    rw [← hW0]
    exact (heap_alloc_old _ _ (by first | (simp; done) | (simp; omega))).trans ((heap_alloc_old _ _ (by simp)).trans (heap_alloc_new w _))
  have hR : W0.heap[w.heap.size + 1]? = some (.cells Try.zeroCells152 152 (0, 0)) := by
    rw [← hW0]
    have h := heap_alloc_new (w.alloc (.cells ca 152)) (.cells Try.zeroCells152 152)
    rw [World.size_alloc] at h
    exact (heap_alloc_old _ _ (by simp)).trans h
  have hZ : W0.heap[w.heap.size + 1 + 1]? = some (.cells (tA (upF (fun _ => 0) 1 1)) 152 (0, 0)) := by
    rw [← hW0, ← Hcz.out]
    have h := heap_alloc_new ((w.alloc (.cells ca 152)).alloc (.cells Try.zeroCells152 152)) (.cells (Try.zeroCells152.setIfInBounds 1 (.int .i64 1)) 152)
    rw [World.size_alloc, World.size_alloc] at h
    exact h
  have hz1 : Try.zeroCells152[1]? = some (.int .i64 0) := by rw [Hz201.out]; exact tA_get _ (by omega)
  have HW0 := Lib.hid hW0
  have HP := Lib.hid hP
  have HR := Lib.hid hR
  have HZ1 := Lib.hid hZ
  have B0 := Lib.hid b0
  clear hP hR hZ b0 hW0
  go_enter Try.func245, Try.ntmps245
  go_wp2
  rw [HW0.out]
  clear hz1 HW0
  have hsz : w.heap.size + 1 + 1 < W0.heap.size := (Array.getElem?_eq_some_iff.1 HZ1.out).1
  go_loopw [6, 7] (fun d _ wr => ∃ (E : Nat) (f : Nat → Int), 2 ≤ E ∧ E ≤ m + 1 ∧ d = .int .i64 (E : Int) ∧ wr.heap[w.heap.size + 1 + 1]? = some (.cells (tA f) 152 (0, 0)) ∧ (∀ i, i < E → f i = spI xs i) ∧ (∀ i, E ≤ i → f i = 0) ∧ Below (w.heap.size + 1 + 1) W0 wr) (fun d _ _ => 202 - (intOf d).toNat)
  case atStart => exact ⟨2, _, Nat.le_refl _, by omega, rfl, HZ1.out, fun i hi => by
      have : i = 0 ∨ i = 1 := by omega
      rcases this with rfl | rfl <;> rfl, fun i hi => upF_ne _ _ (by omega), Below.refl _ _⟩
  case round =>
    obtain ⟨E, f, hE2, hE9, rfl, hf, hfn, hfz, hbel⟩ := hrel
    have Hf := Lib.hid hf
    have Hfn := Lib.hid hfn
    have Hfz := Lib.hid hfz
    clear hf hfn hfz
    by_cases hlt : E ≤ m
    · obtain ⟨l1, l2, l3, l4, l5, l6, l7⟩ := lsP_facts (n := E) hE2
      have hsp := spI_at (xs := xs) hE2
      have Hc := Lib.hid (fun W => leastPart_c W E hE2 (by omega))
      obtain ⟨p, hp⟩ : ∃ p, lsP E = p := ⟨_, rfl⟩
      rw [hp] at l2 l5 l7 hsp Hc
      obtain ⟨r, hr⟩ : ∃ r, E / p = r := ⟨_, rfl⟩
      have hri : (E : Int) / (p : Int) = (r : Int) := by rw [← hr, Int.natCast_ediv]
      rw [hr] at l5 hsp
      have hzp : ((p : Int) == 0) = false := beq_eq_false_iff_ne.2 (by omega)
      have hpz : ¬ p = 0 := by omega
      have hwp : IntKind.i64.wrap (p : Int) = (p : Int) := IntWalk.i64_in _ (by omega)
      have hwr : IntKind.i64.wrap (r : Int) = (r : Int) := IntWalk.i64_in _ (by omega)
      have hwE : IntKind.i64.wrap (E : Int) = (E : Int) := IntWalk.i64_in _ (by omega)
      have hp3 : (p : Int) < 201 := by omega
      have hr3 : (r : Int) < 201 := by omega
      have hE3 : (E : Int) < 201 := by omega
      have hcx := cell_of_row wr w.heap.size p _ _ _ ((hbel.block w.heap.size (by omega)).trans HP.out) |>.trans (Ha.out p (by omega))
      have hcy := cell_of_row wr (w.heap.size + 1 + 1) r _ _ _ Hf.out |>.trans (tA_get f (by omega))
      have hcz := cell_of_row wr (w.heap.size + 1 + 1) E _ _ _ Hf.out |>.trans (tA_get f (by omega))
      have hff : wr.frozen? ⟨w.heap.size + 1 + 1, E, none⟩ = false := frozen_of_row wr (w.heap.size + 1 + 1) E _ _ Hf.out
      rw [Hfn.out r l5] at hcy
      obtain ⟨X, hX⟩ : ∃ X, arI xs p = X := ⟨_, rfl⟩
      obtain ⟨Y, hY⟩ : ∃ Y, spI xs r = Y := ⟨_, rfl⟩
      obtain ⟨Z0, hZ0⟩ : ∃ Z, X * Y = Z := ⟨_, rfl⟩
      obtain ⟨Z, hZ⟩ : ∃ Z, IntKind.i64.wrap Z0 = Z := ⟨_, rfl⟩
      rw [hX] at hcx hsp
      rw [hY] at hcy hsp
      rw [hZ0, hZ] at hsp
      have Hsp := Lib.hid hsp
      clear hp l1 l3 l4 l6 hr hX hY hsp
      go_wp2_with fail
      refine (Hc.out _).mono ?_
      rintro e w1 ⟨rfl, rfl⟩
      go_wp2_with fail
      go_still_tail 10, (by kernel_rfl)
      go_wp2
      go_roundw
      case rel =>
        refine ⟨E + 1, upF f E Z, by omega, by omega, by go_num, ?_, fun i hi => ?_, fun i hi => ?_, hbel.drew.setCell (Nat.le_refl _) _⟩
        · have h := heap_setCell_same wr.drew (w.heap.size + 1 + 1) E (tA f) 152 (.int .i64 Z) Hf.out
          rw [tA_set f Z (by omega)] at h
          exact h
        · by_cases hiE : i = E
          · subst hiE; rw [upF_at, Hsp.out]
          · rw [upF_ne f Z hiE]; exact Hfn.out i (by omega)
        · rw [upF_ne f Z (by omega)]; exact Hfz.out i (by omega)
      case measure => simp [intOf]; omega
    · have HE := Lib.hid (show E = m + 1 by omega)
      have Hs2 := Lib.hid size201
      have Hr2 := Lib.hid ((hbel.block (w.heap.size + 1) (by omega)).trans HR.out)
      have Hz3 : Hid (Try.zeroCells152.size = 201) := by show _ = _; rw [Hz201.out, tA_size]
      have b9 := B0.out.trans (hbel.mono (by omega))
      have Hfin : Hid (tA (sqF xs m) = tA f) := tA_congr fun j hj => by
        rw [sqF]
        by_cases hjm : j ≤ m
        · rw [if_pos hjm, Hfn.out j (by rw [HE.out]; omega)]
        · rw [if_neg hjm, Hfz.out j (by rw [HE.out]; omega)]
      go_wp2_with (first | (refine wpList_load_row rfl 152 (.tmp 5) rfl (w.heap.size + 1 + 1) rfl _ _ _ _ Hf.out Try.underlying152 rfl (Hs2.out.trans (by rw [tA_size])) ?_) | (refine wpList_store_row rfl 152 (.tmp 4) (.tmp 27) rfl (w.heap.size + 1) (tA f) rfl rfl _ _ Hr2.out (Hs2.out.trans (by rw [tA_size])) (by rw [tA_size]; exact Hz3.out) (tA_one _) ?_))
      refine bodyPost_ret (results_cell_row rfl _ _ (w.heap.size + 1) _ (tA f) _ _ rfl (setRow_heap wr _ _ _ _ _ Hr2.out) Try.underlying152 rfl (Hs2.out.trans (by rw [tA_size]))) rfl ⟨by rw [Hfin.out], ?_⟩
      exact b9.trans ⟨rfl, rfl, rfl, by simp, fun i hi => setRow_other wr _ _ _ (by omega)⟩
end Go.Proofs.Ytaapfapejekkfaa

namespace Go.Proofs.Ytaapfapejekkfaa
open Go.RowKit
set_option maxRecDepth 200000
set_option linter.unusedVariables false
set_option linter.unusedSimpArgs false

theorem plainI2 : Try.prog.plainKey 3 = true := by kernel_rfl
theorem cellsI2 : Try.prog.cellsOf 3 = 1 := by kernel_rfl
theorem eqGuardT : Try.prog.eqGuardType Try.prog.depth 152 = false := by kernel_rfl
theorem run_eqItems_tA (d : Nat) (p q : Nat → Int) (w : World) : ∀ is : List Nat, (∀ i, i ∈ is → i < 201) →
    (Op.eqItems (d + 1) 3 1 (tA p) (tA q) is).run Try.prog w = .ok (decide (∀ i, i ∈ is → p i = q i)) w
  | [], _ => by simp [Op.eqItems]
  | i :: is, h => by
    have hi := h i (List.mem_cons_self ..)
    have p1 := run_part_plain w plainI2 (show (tA p)[i * 1]? = some (.int .i64 (p i)) by rw [Nat.mul_one]; exact tA_get p (by omega))
    have p2 := run_part_plain w plainI2 (show (tA q)[i * 1]? = some (.int .i64 (q i)) by rw [Nat.mul_one]; exact tA_get q (by omega))
    have p3 := run_equalIn_int (P := Try.prog) w d 3 .i64 .i64 (p i) (q i) Try.underlying3
    have ih := run_eqItems_tA d p q w is fun j hj => h j (List.mem_cons_of_mem _ hj)
    simp only [Op.eqItems, Sem.run_bind, p1, p2, p3, Result.andThen_ok]
    by_cases he : p i = q i
    · have hb : (p i == q i) = true := beq_iff_eq.2 he
      rw [hb]
      simp only [Bool.not_true, Bool.false_eq_true, if_false, ih]
      congr 1
      simp [he]
    · have hb : (p i == q i) = false := beq_eq_false_iff_ne.2 he
      rw [hb]
      simp [he]
theorem run_eq_tA (p q : Nat → Int) (w : World) : (binOp .eql 152 (.agg (tA p)) (.agg (tA q))).run Try.prog w = .ok (.bool (decide (∀ i, i ∈ List.range 201 → p i = q i))) w := by
  obtain ⟨i, hi, hz, hs, hy⟩ := info_full info_I
  have h := run_equalIn_array (P := Try.prog) w 9999 (tA p) (tA q) Try.underlying152 hi
  rw [cellsI2, run_eqItems_tA 9998 p q w _ (fun i hi => List.mem_range.1 hi)] at h
  rw [run_eql_struct, h]
  rfl
theorem step_load_T {ops : Array Oper} {o : Oper} {a : Act} {w : World} {K : Act → World → Prop} {Q : Exit → Act → World → Prop} {E : Prop} (hg : o.guard = none) (x : Operand) (ho : o.op = .load 152 x) (g : Nat) (hx : a.eval x = .pointer (some ⟨g, 0, none⟩)) (cs : Array Value) (hw : w.heap[g]? = some (.cells cs 152 (0, 0))) (hs : cs.size = 201)
    (h : K (a.put o.dst (.agg cs)) w) : if Region.wanted o (yielded ops a.tmps) = true then Oper.wp Try.prog o a w K Q else E := by
  rw [if_pos (show Region.wanted o (yielded ops a.tmps) = true by simp [Region.wanted, hg])]
  exact wp_load_row 152 x ho g hx _ cs _ _ hw Try.underlying152 rfl (size201.trans (by rw [hs])) h
theorem step_eql_T {ops : Array Oper} {o : Oper} {a : Act} {w : World} {K : Act → World → Prop} {Q : Exit → Act → World → Prop} {E : Prop} (hg : o.guard = none) (x y : Operand) (t2 : TypeId) (ho : o.op = .binOp .eql 152 x y t2) (cs ds : Array Value) (hx : a.eval x = .agg cs) (hy : a.eval y = .agg ds) (b : Bool)
    (hr : (binOp .eql 152 (.agg cs) (.agg ds)).run Try.prog w = .ok (.bool b) w) (h : K (a.put o.dst (.bool b)) w) : if Region.wanted o (yielded ops a.tmps) = true then Oper.wp Try.prog o a w K Q else E := by
  rw [if_pos (show Region.wanted o (yielded ops a.tmps) = true by simp [Region.wanted, hg])]
  unfold Oper.wp execOp
  simp only [ho, hx, hy, Sem.run_bind, Result.andThen_ok, run_eqGuard_agg (P := Try.prog) w _ _ _ _ _ _ eqGuardT, hr, Sem.run_pure]
  exact h
theorem spread_eq {xs : List Int} {m : Nat} (hm : m = xs.length) (ht : tabB xs = true) : decide (∀ i, i ∈ List.range 201 → arI xs i = sqF xs m i) = isSV xs := by
  obtain ⟨h1, h2, h3⟩ := tabB_small ht
  rw [isSV_yes ht, isV1, Bool.eq_iff_iff, ← spread_iff h1 h2, decide_eq_true_eq]
  subst hm
  constructor
  · intro h i hi
    have := h i (List.mem_range.2 (by omega))
    rw [sqF, if_pos hi] at this
    exact this.symm
  · intro h i hi
    rw [sqF]
    by_cases hl : i ≤ xs.length
    · rw [if_pos hl]; exact (h i hl).symm
    · rw [if_neg hl, arI, if_neg (by omega), ivL, List.getD_eq_getElem?_getD, List.getElem?_eq_none (by omega)]; rfl
set_option maxRecDepth 100000 in
set_option maxHeartbeats 800000 in
theorem impl_IsSpread_c (w : World) (A : Option Addr) (m c : Nat) (xs : List Int) (hA : Il w A xs) (hm : m = xs.length) (hn : m ≤ 1048576) :
    Calls Try.prog 116 #[.slice A m c] w fun en w' => en = .returned (.tuple #[.bool (isSV xs), .bool (tabB xs)]) ∧ Below w.heap.size w w' := by
  have H1 := Lib.hid (fun W hW => isTable_c W A m c xs hW hm hn)
  cases hx : tabB xs with
  | false =>
    rw [isSV_no hx]
    rw [hx] at H1
    clear hm hx
    go_enter Try.func116, Try.ntmps116
    go_wp2_with fail
    refine (H1.out _ hA).mono ?_
    rintro e w1 ⟨rfl, rfl⟩
    go_wp2
    go_ret2
    exact ⟨rfl, Below.refl _ _⟩
  | true =>
    obtain ⟨_, m1, m9⟩ := tabB_small hx
    rw [← hm] at m1 m9
    rw [hx] at H1
    rw [← spread_eq hm hx]
    have H3 := Lib.hid (fun W hW => arrayOf_c W A m c xs hW hm m9)
    have Hsp := Lib.hid (fun W => spread_c W xs m m1 m9)
    have Heq := Lib.hid (fun W => run_eq_tA (arI xs) (sqF xs m) W)
    obtain ⟨b, hb⟩ : ∃ b, decide (∀ i, i ∈ List.range 201 → arI xs i = sqF xs m i) = b := ⟨_, rfl⟩
    rw [hb] at Heq ⊢
    have Hs2 := Lib.hid size201
    have Hz3 : Hid (Try.zeroCells152.size = 201) := by show _ = _; rw [zero201, tA_size]
    have Hcs : Hid ((tA (arI xs)).size = 201 ∧ (tA (arI xs)).all (·.oneCell') = true) := ⟨tA_size _, tA_one _⟩
    obtain ⟨ca, hca⟩ : ∃ c, tA (arI xs) = c := ⟨_, rfl⟩
    obtain ⟨cs, hcs⟩ : ∃ c, tA (sqF xs m) = c := ⟨_, rfl⟩
    rw [hca] at H3 Hsp Heq Hcs
    rw [hcs] at Hsp Heq
    clear hb hm hx hca hcs
    go_enter Try.func116, Try.ntmps116
    go_wp2_with fail
    refine (H1.out _ hA).mono ?_
    rintro e w1 ⟨rfl, rfl⟩
    go_wp2_with fail
    refine (H3.out _ hA).mono ?_
    rintro e w2 ⟨rfl, b2⟩
    have hz := heap_alloc_new w2 (.cells Try.zeroCells152 152)
    have hW : ((w2.alloc (.cells Try.zeroCells152 152)).setRow w2.heap.size ca).heap[w2.heap.size]? = some (.cells ca 152 (0, 0)) := setRow_heap _ _ _ _ _ _ hz
    have b05 : Below w.heap.size w ((w2.alloc (.cells Try.zeroCells152 152)).setRow w2.heap.size ca) := (b2.alloc b2.size _).trans ⟨rfl, rfl, rfl, by simp, fun i hi => setRow_other _ _ _ _ (by have := b2.size; omega)⟩
    have Hz := Lib.hid hz
    have HW := Lib.hid hW
    have B05 := Lib.hid b05
    clear hz hW b05
    go_wp2_with (refine wpList_store_row rfl 152 (.tmp 4) (.tmp 9) rfl w2.heap.size ca rfl rfl _ _ Hz.out (Hs2.out.trans (by rw [Hcs.out.1])) (by rw [Hcs.out.1]; exact Hz3.out) Hcs.out.2 ?_)
    obtain ⟨W, hWW⟩ : ∃ W, (w2.alloc (.cells Try.zeroCells152 152)).setRow w2.heap.size ca = W := ⟨_, rfl⟩
    rw [hWW] at HW B05 ⊢
    clear hWW Hz
    have hgs : w2.heap.size < W.drew.heap.size := (Array.getElem?_eq_some_iff.1 HW.out).1
    have Bd := Lib.hid (show Below w.heap.size w W.drew from B05.out.trans ⟨rfl, rfl, rfl, Nat.le_refl _, fun _ _ => rfl⟩)
    refine wp_region_any (by kernel_rfl) ?_
    try (change wpAny _ _ _ _ _ _ _ (World.drew _))
    refine wpAny_take (i := 2) (v := ?_) rfl (by kernel_rfl) (by kernel_rfl) (by kernel_rfl) (fun _ _ _ h => h) (Or.inl ⟨by rfl, ?_⟩) ?_
    rotate_left
    · intro w; go_simp; try with_reducible rfl
    refine wpAny_take (i := 3) (v := ?_) rfl (by kernel_rfl) (by kernel_rfl) (by kernel_rfl) (fun _ _ _ h => h) (Or.inl ⟨by rfl, ?_⟩) ?_
    rotate_left
    · intro w; go_simp; try with_reducible rfl
    refine wpAny_ready (rs := [0, 1]) (by kernel_rfl) (by simp) ?_
    refine AllReady.cons rfl (fun K hK => ?_) ?_
    · skip
      refine step_load_T rfl (.tmp 4) rfl w2.heap.size rfl ca (show W.drew.heap[w2.heap.size]? = _ from HW.out) Hcs.out.1 ?_
      refine hK _ _ ?_; clear hK K
      refine wpAny_ready (rs := [1]) (by kernel_rfl) (by simp) ?_
      refine AllReady.cons rfl (fun K hK => ?_) ?_
      · skip
        refine step_load_T rfl (.tmp 4) rfl w2.heap.size rfl ca (show W.drew.heap[w2.heap.size]? = _ from HW.out) Hcs.out.1 ?_
        refine hK _ _ ?_; clear hK K
        refine wpAny_ready (rs := [4]) (by kernel_rfl) (by simp) ?_
        refine AllReady.cons rfl (fun K hK => ?_) ?_
        · skip
          go_simp
          refine (Hsp.out _).mono ?_
          rintro e w5 ⟨rfl, b5⟩
          have HW5 := Lib.hid ((b5.block w2.heap.size hgs).trans HW.out)
          have B5 := Lib.hid (Bd.out.trans (b5.mono Bd.out.size))
          go_simp
          refine hK _ _ ?_; clear hK K
          refine wpAny_ready (rs := [5]) (by kernel_rfl) (by simp) ?_
          refine AllReady.cons rfl (fun K hK => ?_) ?_
          · skip
            refine step_eql_T rfl (.tmp 10) (.tmp 14) _ rfl ca cs rfl rfl b (Heq.out _) ?_
            refine hK _ _ ?_; clear hK K
            refine wpAny_ready (rs := [6]) (by kernel_rfl) (by simp) ?_
            refine AllReady.cons rfl (fun K hK => ?_) ?_
            · skip
              go_simp
              refine hK _ _ ?_; clear hK K
              refine wpAny_ready (rs := [7]) (by kernel_rfl) (by simp) ?_
              refine AllReady.cons rfl (fun K hK => ?_) ?_
              · skip
                go_simp
                refine hK _ _ ?_; clear hK K
                refine wpAny_done (by kernel_rfl) ?_ _
                go_wp2
                go_ret2
                exact ⟨rfl, B5.out⟩
              exact AllReady.nil
            exact AllReady.nil
          exact AllReady.nil
        exact AllReady.nil
      exact AllReady.nil
    refine AllReady.cons rfl (fun K hK => ?_) ?_
    · skip
      refine step_load_T rfl (.tmp 4) rfl w2.heap.size rfl ca (show W.drew.heap[w2.heap.size]? = _ from HW.out) Hcs.out.1 ?_
      refine hK _ _ ?_; clear hK K
      refine wpAny_ready (rs := [0, 4]) (by kernel_rfl) (by simp) ?_
      refine AllReady.cons rfl (fun K hK => ?_) ?_
      · skip
        refine step_load_T rfl (.tmp 4) rfl w2.heap.size rfl ca (show W.drew.heap[w2.heap.size]? = _ from HW.out) Hcs.out.1 ?_
        refine hK _ _ ?_; clear hK K
        refine wpAny_ready (rs := [4]) (by kernel_rfl) (by simp) ?_
        refine AllReady.cons rfl (fun K hK => ?_) ?_
        · skip
          go_simp
          refine (Hsp.out _).mono ?_
          rintro e w5 ⟨rfl, b5⟩
          have HW5 := Lib.hid ((b5.block w2.heap.size hgs).trans HW.out)
          have B5 := Lib.hid (Bd.out.trans (b5.mono Bd.out.size))
          go_simp
          refine hK _ _ ?_; clear hK K
          refine wpAny_ready (rs := [5]) (by kernel_rfl) (by simp) ?_
          refine AllReady.cons rfl (fun K hK => ?_) ?_
          · skip
            refine step_eql_T rfl (.tmp 10) (.tmp 14) _ rfl ca cs rfl rfl b (Heq.out _) ?_
            refine hK _ _ ?_; clear hK K
            refine wpAny_ready (rs := [6]) (by kernel_rfl) (by simp) ?_
            refine AllReady.cons rfl (fun K hK => ?_) ?_
            · skip
              go_simp
              refine hK _ _ ?_; clear hK K
              refine wpAny_ready (rs := [7]) (by kernel_rfl) (by simp) ?_
              refine AllReady.cons rfl (fun K hK => ?_) ?_
              · skip
                go_simp
                refine hK _ _ ?_; clear hK K
                refine wpAny_done (by kernel_rfl) ?_ _
                go_wp2
                go_ret2
                exact ⟨rfl, B5.out⟩
              exact AllReady.nil
            exact AllReady.nil
          exact AllReady.nil
        exact AllReady.nil
      refine AllReady.cons rfl (fun K hK => ?_) ?_
      · skip
        go_simp
        refine (Hsp.out _).mono ?_
        rintro e w5 ⟨rfl, b5⟩
        have HW5 := Lib.hid ((b5.block w2.heap.size hgs).trans HW.out)
        have B5 := Lib.hid (Bd.out.trans (b5.mono Bd.out.size))
        go_simp
        refine hK _ _ ?_; clear hK K
        refine wpAny_ready (rs := [0]) (by kernel_rfl) (by simp) ?_
        refine AllReady.cons rfl (fun K hK => ?_) ?_
        · skip
          refine step_load_T rfl (.tmp 4) rfl w2.heap.size rfl ca HW5.out Hcs.out.1 ?_
          refine hK _ _ ?_; clear hK K
          refine wpAny_ready (rs := [5]) (by kernel_rfl) (by simp) ?_
          refine AllReady.cons rfl (fun K hK => ?_) ?_
          · skip
            refine step_eql_T rfl (.tmp 10) (.tmp 14) _ rfl ca cs rfl rfl b (Heq.out _) ?_
            refine hK _ _ ?_; clear hK K
            refine wpAny_ready (rs := [6]) (by kernel_rfl) (by simp) ?_
            refine AllReady.cons rfl (fun K hK => ?_) ?_
            · skip
              go_simp
              refine hK _ _ ?_; clear hK K
              refine wpAny_ready (rs := [7]) (by kernel_rfl) (by simp) ?_
              refine AllReady.cons rfl (fun K hK => ?_) ?_
              · skip
                go_simp
                refine hK _ _ ?_; clear hK K
                refine wpAny_done (by kernel_rfl) ?_ _
                go_wp2
                go_ret2
                exact ⟨rfl, B5.out⟩
              exact AllReady.nil
            exact AllReady.nil
          exact AllReady.nil
        exact AllReady.nil
      exact AllReady.nil
    exact AllReady.nil
end Go.Proofs.Ytaapfapejekkfaa

namespace Go.Proofs.Ytaapfapejekkfaa
open Go.RowKit
set_option linter.unusedVariables false
set_option linter.unusedSimpArgs false

/-- The numbers 1, .., m of an array. -/
def qL (q : Nat → Int) (m : Nat) : List Int := (List.range m).map fun i => q (i + 1)
theorem qL_len (q : Nat → Int) (m : Nat) : (qL q m).length = m := by simp [qL]
theorem qL_at {q : Nat → Int} {m i : Nat} (h : i < m) : ivL (qL q m) i = q (i + 1) := by simp [qL, ivL, h]
theorem qL_ext {q : Nat → Int} {m : Nat} {l : List Int} (hl : l.length = m) (h : ∀ i, i < m → q (i + 1) = ivL l i) : qL q m = l := by
  apply List.ext_getElem
  · rw [qL_len, hl]
  · intro i h1 h2
    rw [qL_len] at h1
    have := h i h1
    simp [qL, this, ivL, h2]
def joR (q : Nat → Int) (m : Nat) : List Int := if tabB (qL q m) then qL q m else []
theorem joR_no {q : Nat → Int} {m : Nat} (h : tabB (qL q m) = false) : joR q m = [] := by rw [joR, h]; rfl
theorem joR_yes {q : Nat → Int} {m : Nat} (h : tabB (qL q m) = true) : joR q m = qL q m := by rw [joR, h]; rfl
theorem sliced_one (q : Nat → Int) {m : Nat} (hm : m ≤ 200) {W : World} {g : Nat} {t : TypeId} (h : W.heap[g]? = some (.cells (tA q) t (0, 0))) : ∀ j, j < (qL q m).length → W.cell? ⟨g, 1 + j, none⟩ = some (.int .i64 ((qL q m).getD j 0)) := fun j hj => by
  rw [qL_len] at hj
  rw [cell_of_row W g (1 + j) _ _ _ h, tA_get q (by omega), Nat.add_comm 1 j]
  have := qL_at (q := q) hj
  rw [ivL] at this
  rw [this]
set_option maxRecDepth 100000 in
theorem slice_arr {m : Nat} (hm : m ≤ 200) (g : Nat) (W : World) : (Instr.sliceAt 152 (Value.pointer (some ⟨g, 0, none⟩)) (some (Value.int .i64 1)) (some (Value.int .i64 ((m : Int) + 1))) none).run Try.prog W = .ok (.slice (some ⟨g, 1, none⟩) m 200) W := by
  have ht : Try.prog.underlying 152 = some (.array (Try.prog.arrayLen 152) (Try.prog.elem 152)) := by kernel_rfl
  have hl : Try.prog.arrayLen 152 = 201 := by kernel_rfl
  have hs : ∀ W : World, (sizeOf (Try.prog.elem 152)).run Try.prog W = .ok 1 W := fun _ => rfl
  rw [run_sliceAt_array_lh W _ _ ht .i64 .i64 1 ((m : Int) + 1) (by omega) (by omega) (by rw [hl]; omega), hs, hl]
  simp only [Result.andThen, slicedAt]
  by_cases h : (201 : Nat) = (1 : Int).toNat
  · exact absurd h (by decide)
  · rw [if_neg h]
    have e1 : ((m : Int) + 1).toNat - (1 : Int).toNat = m := by omega
    rw [e1]
    rfl
set_option maxRecDepth 100000 in
set_option maxHeartbeats 1600000 in
theorem joined_yes (w : World) (A : Option Addr) (m c : Nat) (xs : List Int) (hA : Il w A xs) (hm : m = xs.length) (A2 : Option Addr) (c2 : Nat) (ys : List Int) (hA2 : Il w A2 ys) (hm2 : m = ys.length)
    (hx : tabB xs = true) (hy : tabB ys = true) (f : Nat) (J : (Nat → Int) → Prop) (hcf : ∀ (args : Array Value) (w : World), Sem.run Try.prog (callFunc f args) w = .ok (.enter f args) w)
    (hf : ∀ W, Calls Try.prog f #[.agg (tA (arI xs)), .agg (tA (arI ys))] W fun en w' => (∃ q, en = .returned (.agg (tA q)) ∧ J q) ∧ Below W.heap.size W w') :
    Calls Try.prog 239 #[.slice A m c, .slice A2 m c2, .func (.func f) #[] #[]] w fun en w' => (∃ v q, en = .returned (.tuple #[v, .bool (tabB (qL q m))]) ∧ J q ∧ OwnI w' w.heap.size v (joR q m)) ∧ Below w.heap.size w w' := by
  obtain ⟨_, m1, m9⟩ := tabB_small hx
  rw [← hm] at m1 m9
  have Hm := Lib.hid hm
  have Hm2 := Lib.hid hm2
  have Hx := Lib.hid hx
  have Hy := Lib.hid hy
  have Hf := Lib.hid hf
  have H1 := Lib.hid (fun W hW => isTable_c W A m c xs hW hm (by omega))
  have H2 := Lib.hid (fun W hW => isTable_c W A2 m c2 ys hW hm2 (by omega))
  have H3 := Lib.hid (fun W hW => arrayOf_c W A m c xs hW hm m9)
  have H4 := Lib.hid (fun W hW => arrayOf_c W A2 m c2 ys hW hm2 m9)
  rw [hx] at H1
  rw [hy] at H2
  have Hz201 := Lib.hid zero201
  have Hs2 := Lib.hid size201
  have Hz3 : Hid (Try.zeroCells152.size = 201) := by show _ = _; rw [Hz201.out, tA_size]
  obtain ⟨ca, hca⟩ : ∃ c, tA (arI xs) = c := ⟨_, rfl⟩
  obtain ⟨cb, hcb⟩ : ∃ c, tA (arI ys) = c := ⟨_, rfl⟩
  rw [hca] at H3 Hf
  rw [hcb] at H4 Hf
  clear hm hm2 hx hy hf hca hcb
  go_enter Try.func239, Try.ntmps239
  go_wp2_with fail
  refine (H1.out _ hA).mono ?_
  rintro e w1 ⟨rfl, rfl⟩
  go_wp2_with fail
  refine (H2.out _ hA2).mono ?_
  rintro e w1 ⟨rfl, rfl⟩
  go_wp2_with fail
  refine (H3.out _ hA).mono ?_
  rintro e w2 ⟨rfl, b2⟩
  go_wp2_with fail
  refine (H4.out _ (hA2.below b2)).mono ?_
  rintro e w3 ⟨rfl, b3⟩
  have b03 := b2.trans (b3.mono b2.size)
  go_wp2_with fail
  refine (Hf.out _).mono ?_
  rintro e w4 ⟨⟨q, rfl, hq⟩, b4⟩
  have b04 := b03.trans (b4.mono b03.size)
  have Hq := Lib.hid hq
  have hz := heap_alloc_new w4 (.cells Try.zeroCells152 152)
  have hW : ((w4.alloc (.cells Try.zeroCells152 152)).setRow w4.heap.size (tA q)).heap[w4.heap.size]? = some (.cells (tA q) 152 (0, 0)) := setRow_heap _ _ _ _ _ _ hz
  have hcl := sliced_one q m9 hW
  have b05 : Below w.heap.size w ((w4.alloc (.cells Try.zeroCells152 152)).setRow w4.heap.size (tA q)) := (b04.alloc b04.size _).trans ⟨rfl, rfl, rfl, by simp, fun i hi => setRow_other _ _ _ _ (by have := b04.size; omega)⟩
  have Hz := Lib.hid hz
  have Hcl := Lib.hid hcl
  have B05 := Lib.hid b05
  have Hal := Lib.hid (tA_one q)
  have Hqs := Lib.hid (tA_size q)
  have Hql := Lib.hid (qL_len q m)
  obtain ⟨l, hl⟩ : ∃ l, qL q m = l := ⟨_, rfl⟩
  have Hl := Lib.hid hl
  rw [hl] at Hcl Hql
  obtain ⟨cq, hcq⟩ : ∃ c, tA q = c := ⟨_, rfl⟩
  rw [hcq] at Hcl B05 Hal Hqs ⊢
  have hsl := slice_arr m9
  clear hq hz hW hcl b05 hl hcq
  go_wp2_with (refine wpList_store_row rfl 152 (.tmp 8) (.tmp 30) rfl w4.heap.size cq rfl rfl _ _ Hz.out (Hs2.out.trans (by rw [Hqs.out])) (by rw [Hqs.out]; exact Hz3.out) Hal.out ?_)
  refine (Try.slices_Clone_int w4.heap.size 1 m _ l _ (by rw [Hql.out]; exact Nat.le_refl _) (by omega) Hcl.out).mono ?_
  rintro e w6 ⟨v6, rfl, o6, _, b6⟩
  have o6b : OwnI w6 ((w4.alloc (.cells Try.zeroCells152 152)).setRow w4.heap.size cq).heap.size v6 l := by
    rw [OwnI, Hql.out]
    rw [List.take_of_length_le (by rw [Hql.out]; exact Nat.le_refl _)] at o6
    exact o6
  have b06 := B05.out.trans (b6.mono B05.out.size)
  have o6c := OwnI.mono o6b B05.out.size
  obtain ⟨A6, c6, rfl⟩ := o6c.shape
  rw [Hql.out] at o6c
  have O6 := Lib.hid o6c
  have Hl6 := Lib.hid (fun W hW => isTable_c W A6 m c6 l hW Hql.out.symm (by omega))
  clear o6 o6b o6c
  rw [Hql.out]
  cases ht : tabB l with
  | false =>
    rw [ht] at Hl6
    go_wp2_with fail
    refine (Hl6.out _ (Il_of_own_n O6.out Hql.out.symm)).mono ?_
    rintro e w7 ⟨rfl, rfl⟩
    go_wp2
    go_ret2
    exact ⟨⟨_, q, by rw [Hl.out, ht]; rfl, Hq.out, by rw [joR_no (by rw [Hl.out]; exact ht)]; exact OwnI.nil _ _⟩, b06⟩
  | true =>
    rw [ht] at Hl6
    go_wp2_with fail
    refine (Hl6.out _ (Il_of_own_n O6.out Hql.out.symm)).mono ?_
    rintro e w7 ⟨rfl, rfl⟩
    go_wp2
    go_ret2
    exact ⟨⟨_, q, by rw [Hl.out, ht]; rfl, Hq.out, by rw [joR_yes (by rw [Hl.out]; exact ht), Hl.out]; exact O6.out⟩, b06⟩
set_option maxRecDepth 100000 in
set_option maxHeartbeats 1600000 in
theorem joined_no (w : World) (A : Option Addr) (m c : Nat) (xs : List Int) (hA : Il w A xs) (hm : m = xs.length) (hn : m ≤ 1048576) (A2 : Option Addr) (m2 c2 : Nat) (ys : List Int) (hA2 : Il w A2 ys) (hm2 : m2 = ys.length) (hn2 : m2 ≤ 1048576)
    (hp : ovP xs ys = false) (f : Nat) :
    Calls Try.prog 239 #[.slice A m c, .slice A2 m2 c2, .func (.func f) #[] #[]] w fun en w' => (∃ v, en = .returned (.tuple #[v, .bool false]) ∧ OwnI w' w.heap.size v []) ∧ Below w.heap.size w w' := by
  have H1 := Lib.hid (fun W hW => isTable_c W A m c xs hW hm hn)
  have H2 := Lib.hid (fun W hW => isTable_c W A2 m2 c2 ys hW hm2 hn2)
  cases hx : tabB xs with
  | false =>
    rw [hx] at H1
    clear hm hm2 hp hx
    go_enter Try.func239, Try.ntmps239
    go_wp2_with fail
    refine (H1.out _ hA).mono ?_
    rintro e w1 ⟨rfl, rfl⟩
    go_wp2
    go_ret2
    exact ⟨⟨_, rfl, OwnI.nil _ _⟩, Below.refl _ _⟩
  | true =>
    rw [hx] at H1
    cases hy : tabB ys with
    | false =>
      rw [hy] at H2
      clear hm hm2 hp hx hy
      go_enter Try.func239, Try.ntmps239
      go_wp2_with fail
      refine (H1.out _ hA).mono ?_
      rintro e w1 ⟨rfl, rfl⟩
      go_wp2_with fail
      refine (H2.out _ hA2).mono ?_
      rintro e w1 ⟨rfl, rfl⟩
      go_wp2
      go_ret2
      exact ⟨⟨_, rfl, OwnI.nil _ _⟩, Below.refl _ _⟩
    | true =>
      rw [hy] at H2
      have hne : m ≠ m2 := fun e => by
        rw [ovP, hx, hy, decide_eq_true (show xs.length = ys.length by omega)] at hp
        cases hp
      have hb : ((m : Int) != (m2 : Int)) = true := bne_iff_ne.2 (by omega)
      clear hm hm2 hp hx hy
      go_enter Try.func239, Try.ntmps239
      go_wp2_with fail
      refine (H1.out _ hA).mono ?_
      rintro e w1 ⟨rfl, rfl⟩
      go_wp2_with fail
      refine (H2.out _ hA2).mono ?_
      rintro e w1 ⟨rfl, rfl⟩
      go_wp2
      go_ret2
      exact ⟨⟨_, rfl, OwnI.nil _ _⟩, Below.refl _ _⟩
set_option maxRecDepth 100000 in
set_option maxHeartbeats 400000 in
theorem impl_OverDivisors_c (w : World) (A : Option Addr) (m c : Nat) (xs : List Int) (hA : Il w A xs) (hm : m = xs.length) (hn : m ≤ 1048576) (A2 : Option Addr) (m2 c2 : Nat) (ys : List Int) (hA2 : Il w A2 ys) (hm2 : m2 = ys.length) (hn2 : m2 ≤ 1048576) :
    Calls Try.prog 114 #[.slice A m c, .slice A2 m2 c2] w fun en w' => (∃ v, en = .returned (.tuple #[v, .bool (ovO xs ys)]) ∧ OwnI w' w.heap.size v (ovR xs ys)) ∧ Below w.heap.size w w' := by
  cases hp : ovP xs ys with
  | false =>
    have ho : ovO xs ys = false := by rw [ovO, hp]; rfl
    rw [ovR_no ho, ho]
    have Hj := Lib.hid (joined_no w A m c xs hA hm hn A2 m2 c2 ys hA2 hm2 hn2 hp 240)
    clear hm hm2 hA hA2 hp ho
    go_enter Try.func114, Try.ntmps114
    go_wp2_with fail
    refine Hj.out.mono ?_
    rintro e w1 ⟨⟨v, rfl, o1⟩, b1⟩
    go_wp2
    go_ret2
    exact ⟨⟨_, rfl, o1⟩, b1⟩
  | true =>
    have hp2 := hp
    simp only [ovP, Bool.and_eq_true, decide_eq_true_eq] at hp2
    obtain ⟨⟨p1, p2⟩, p3⟩ := hp2
    obtain rfl : m = m2 := by omega
    have Hj := Lib.hid (joined_yes w A m c xs hA hm A2 c2 ys hA2 hm2 p1 p2 240 (fun q => ∀ n, 1 ≤ n → n ≤ 200 → q n = ovF xs ys n) (fun _ _ => rfl) (fun W => over_c W xs ys (tabB_small p1).1 (tabB_small p2).1))
    have m9 := (tabB_small p1).2.2
    have Hq := Lib.hid (fun q (h : ∀ n, 1 ≤ n → n ≤ 200 → q n = ovF xs ys n) => show tabB (qL q m) = ovO xs ys ∧ joR q m = ovR xs ys by
      have e : qL q m = ovL xs ys xs.length := by
        rw [← hm]
        exact qL_ext (ovL_len _ _ _) fun i hi => by rw [ovL_at hi]; exact h (i + 1) (by omega) (by omega)
      rw [joR, e, ovR, ovO, hp, Bool.true_and]
      exact ⟨rfl, rfl⟩)
    clear hm hm2 hA hA2 hp p1 p2 p3
    go_enter Try.func114, Try.ntmps114
    go_wp2_with fail
    refine Hj.out.mono ?_
    rintro e w1 ⟨⟨v, q, rfl, hq, o1⟩, b1⟩
    obtain ⟨e1, e2⟩ := Hq.out q hq
    rw [e1]
    rw [e2] at o1
    go_wp2
    go_ret2
    exact ⟨⟨_, rfl, o1⟩, b1⟩
end Go.Proofs.Ytaapfapejekkfaa

namespace Go.Proofs.Ytaapfapejekkfaa
open Go.RowKit
set_option linter.unusedVariables false
set_option linter.unusedSimpArgs false

theorem smallL_tab {xs : List Int} (h : smallL xs) (h1 : 1 ≤ xs.length) (h9 : xs.length ≤ 200) : tabB xs = true := by
  rw [tabB, inB_true.2 ⟨by omega, by omega⟩, Bool.true_and]
  exact allB_true fun k _ => inB_true.2 (h k)
theorem ones_tab {M : Nat} (h1 : 1 ≤ M) (h9 : M ≤ 200) : tabB (tbL 0 M) = true := smallL_tab (tb0_small M) (by rw [tbL_len]; exact h1) (by rw [tbL_len]; exact h9)
set_option maxRecDepth 100000 in
set_option maxHeartbeats 400000 in
theorem impl_SumOverDivisors_c (w : World) (A : Option Addr) (m c : Nat) (xs : List Int) (hA : Il w A xs) (hm : m = xs.length) (hn : m ≤ 1048576) :
    Calls Try.prog 121 #[.slice A m c] w fun en w' => (∃ v, en = .returned (.tuple #[v, .bool (soO xs)]) ∧ OwnI w' w.heap.size v (soR xs)) ∧ Below w.heap.size w w' := by
  have Ht := Lib.hid (fun W => impl_TableOf_c W 0 (m : Int))
  by_cases hM : 1 ≤ m ∧ m ≤ 200
  · have ho : tbOk ((0 : Nat) : Int) (m : Int) = true := by rw [tbOk, show inB ((0 : Nat) : Int) 0 6 = true from rfl]; exact inB_true.2 ⟨by omega, by omega⟩
    have ha : tbA 0 (m : Int) = tbL 0 m := tbA_yes ho
    rw [show tbOk 0 (m : Int) = true from ho, ha] at Ht
    have Hov := Lib.hid (fun W hW A2 c2 hA2 => impl_OverDivisors_c W A m c xs hW hm hn A2 m c2 (tbL 0 m) hA2 (tbL_len 0 m).symm hn)
    have hoO : ovO xs (tbL 0 m) = soO xs := by
      rw [ovO, ovP, soO, soL, ones_tab hM.1 hM.2, ← hm, decide_eq_true (show m = (tbL 0 m).length from (tbL_len 0 m).symm), Bool.and_true, Bool.and_true]
    have hoR : ovR xs (tbL 0 m) = soR xs := by rw [ovR, hoO, soR, soL, ← hm]
    rw [hoO, hoR] at Hov
    have HA := Lib.hid hA
    have Hl := Lib.hid (tbL_len 0 m)
    obtain ⟨l, hl⟩ : ∃ l, tbL 0 m = l := ⟨_, rfl⟩
    rw [hl] at Ht Hov Hl
    clear ho ha hm hA hoO hoR hl
    go_enter Try.func121, Try.ntmps121
    go_wp2_with fail
    refine (Ht.out _).mono ?_
    rintro e w1 ⟨⟨v, rfl, o1⟩, b1⟩
    obtain ⟨A1, c1, rfl⟩ := o1.shape
    rw [Hl.out] at o1 ⊢
    have HI := Lib.hid (Il_of_own_n o1 Hl.out.symm)
    clear o1
    go_wp2_with fail
    refine (Hov.out _ (HA.out.below b1) _ _ HI.out).mono ?_
    rintro e w2 ⟨⟨v2, rfl, o2⟩, b2⟩
    have o2b := OwnI.mono o2 b1.size
    go_wp2
    go_ret2
    exact ⟨⟨_, rfl, o2b⟩, b1.trans (b2.mono b1.size)⟩
  · have hx : tabB xs = false := by rw [tabB, ← hm, show inB (m : Int) 1 200 = false from inB_false.2 (by omega)]; rfl
    have ho : tbOk 0 (m : Int) = false := by rw [tbOk, show inB (m : Int) 1 200 = false from inB_false.2 (by omega), Bool.and_false]
    have hs : soO xs = false := by rw [soO, hx]; rfl
    rw [soR_no hs, hs]
    rw [ho, tbA_no ho] at Ht
    clear hm hA hx ho hs hM
    go_enter Try.func121, Try.ntmps121
    go_wp2_with fail
    refine (Ht.out _).mono ?_
    rintro e w1 ⟨⟨v, rfl, o1⟩, b1⟩
    obtain ⟨A1, c1, rfl⟩ := o1.shape
    clear o1
    go_wp2
    go_ret2
    exact ⟨⟨_, rfl, OwnI.nil _ _⟩, b1⟩
end Go.Proofs.Ytaapfapejekkfaa

namespace Go.Proofs.Ytaapfapejekkfaa
open Go.RowKit
set_option linter.unusedVariables false
set_option linter.unusedSimpArgs false

set_option maxRecDepth 100000 in
set_option maxHeartbeats 1600000 in
theorem quotient_c (w : World) (us xs : List Int) (hu : ∀ n, 1 ≤ n → n ≤ 200 → arI us n = u1 n) (hx : smallL xs) (h0 : ivL xs 0 = 1 ∨ ivL xs 0 = -1) (G : Nat) (hG : G ≤ 200) (hg : goodG xs G) :
    Calls Try.prog 247 #[.agg (tA (arI us)), .agg (tA (arI xs))] w fun en w' => (∃ q, en = .returned (.agg (tA q)) ∧ ∀ n, 1 ≤ n → n ≤ G → q n = ivL (unL xs G) (n - 1)) ∧ Below w.heap.size w w' := by
  have Hu := Lib.hid hu
  have Hfirst := Lib.hid (fun d r => un_first (a := xs) (G := G) (d := d) (r := r) hx h0 hg (by omega))
  have Hstep := Lib.hid (fun d k r => un_step (a := xs) (G := G) (d := d) (k := k) (r := r) hx hg (by omega))
  have Hz201 := Lib.hid zero201
  clear hu hx h0 hg
  have Hb := Lib.hid (fun j hj => tA_get (arI xs) (j := j) hj)
  obtain ⟨ca, hca⟩ : ∃ c, tA (arI us) = c := ⟨_, rfl⟩
  obtain ⟨cb, hcb⟩ : ∃ c, tA (arI xs) = c := ⟨_, rfl⟩
  have Hca := Lib.hid hca
  have Hcas : Hid (ca.size = 201) := by show _ = _; rw [← hca, tA_size]
  have Hcao : Hid (ca.all (·.oneCell') = true) := by show _ = _; rw [← hca]; exact tA_one _
  rw [hca]
  rw [hcb] at Hb ⊢
  clear hca hcb
  obtain ⟨U, hU⟩ : ∃ U, unL xs G = U := ⟨_, rfl⟩
  rw [hU] at Hfirst Hstep ⊢
  clear hU
  have Hs2 := Lib.hid size201
  have Hz3 : Hid (Try.zeroCells152.size = 201) := by show _ = _; rw [Hz201.out, tA_size]
  obtain ⟨W0, hW0⟩ : ∃ W0, ((((w.alloc (.cells ca 152)).alloc (.cells cb 152)).alloc (.cells Try.zeroCells152 152)).alloc (.cells Try.zeroCells152 152)).alloc (.cells Try.zeroCells152 152) = W0 := ⟨_, rfl⟩
  have b0 : Below w.heap.size w W0 := by rw [← hW0]; exact (((((Below.refl _ w).alloc (Nat.le_refl _) _).alloc (by simp) _).alloc (by simp; omega) _).alloc (by simp; omega) _).alloc (by simp; omega) _
  have hP4 : ((((w.alloc (.cells ca 152)).alloc (.cells cb 152)).alloc (.cells Try.zeroCells152 152)).alloc (.cells Try.zeroCells152 152)).heap[w.heap.size]? = some (.cells ca 152 (0, 0)) :=
    (heap_alloc_old _ _ (by first | (simp; done) | (simp; omega))).trans ((heap_alloc_old _ _ (by first | (simp; done) | (simp; omega))).trans ((heap_alloc_old _ _ (by simp)).trans (heap_alloc_new w _)))
  have hQ : W0.heap[w.heap.size + 1]? = some (.cells cb 152 (0, 0)) := by
    rw [← hW0]
    have h := heap_alloc_new (w.alloc (.cells ca 152)) (.cells cb 152)
    rw [World.size_alloc] at h
    exact (heap_alloc_old _ _ (by first | (simp; done) | (simp; omega))).trans ((heap_alloc_old _ _ (by first | (simp; done) | (simp; omega))).trans ((heap_alloc_old _ _ (by simp)).trans h))
  have hR : W0.heap[w.heap.size + 1 + 1]? = some (.cells Try.zeroCells152 152 (0, 0)) := by
    rw [← hW0]
    have h := heap_alloc_new ((w.alloc (.cells ca 152)).alloc (.cells cb 152)) (.cells Try.zeroCells152 152)
    rw [World.size_alloc, World.size_alloc] at h
    exact (heap_alloc_old _ _ (by first | (simp; done) | (simp; omega))).trans ((heap_alloc_old _ _ (by simp)).trans h)
  have hZ : W0.heap[w.heap.size + 1 + 1 + 1]? = some (.cells Try.zeroCells152 152 (0, 0)) := by
    rw [← hW0]
    have h := heap_alloc_new (((w.alloc (.cells ca 152)).alloc (.cells cb 152)).alloc (.cells Try.zeroCells152 152)) (.cells Try.zeroCells152 152)
    rw [World.size_alloc, World.size_alloc, World.size_alloc] at h
    exact (heap_alloc_old _ _ (by simp)).trans h
  have hY : W0.heap[w.heap.size + 1 + 1 + 1 + 1]? = some (.cells Try.zeroCells152 152 (0, 0)) := by
    rw [← hW0]
    have h := heap_alloc_new ((((w.alloc (.cells ca 152)).alloc (.cells cb 152)).alloc (.cells Try.zeroCells152 152)).alloc (.cells Try.zeroCells152 152)) (.cells Try.zeroCells152 152)
    rw [World.size_alloc, World.size_alloc, World.size_alloc, World.size_alloc] at h
    exact h
  have HW0 := Lib.hid hW0
  have HP4 := Lib.hid hP4
  have HQ := Lib.hid hQ
  have HR := Lib.hid hR
  have HZ := Lib.hid hZ
  have HY := Lib.hid hY
  have B0 := Lib.hid b0
  have hY5 : ((((((w.alloc (.cells ca 152)).alloc (.cells cb 152)).alloc (.cells Try.zeroCells152 152)).alloc (.cells Try.zeroCells152 152)).alloc (.cells Try.zeroCells152 152))).heap[w.heap.size + 1 + 1 + 1 + 1]? = some (.cells Try.zeroCells152 152 (0, 0)) := by rw [hW0]; exact hY
  have HY5 := Lib.hid hY5
  clear hW0 hP4 hQ hR hZ hY b0 hY5
  go_enter Try.func247, Try.ntmps247
  go_wp2_with (first | (refine wpList_load_row rfl 152 (.tmp 2) rfl w.heap.size rfl _ _ _ _ HP4.out Try.underlying152 rfl (Hs2.out.trans (by rw [Hcas.out])) ?_) | (refine wpList_store_row rfl 152 (.tmp 6) (.tmp 9) rfl (w.heap.size + 1 + 1 + 1 + 1) ca rfl rfl _ _ HY5.out (Hs2.out.trans (by rw [Hcas.out])) (by rw [Hcas.out]; exact Hz3.out) Hcao.out ?_))
  obtain ⟨W1, hW1⟩ : ∃ W1, W0.setRow (w.heap.size + 1 + 1 + 1 + 1) ca = W1 := ⟨_, rfl⟩
  have b01 : Below (w.heap.size + 1 + 1 + 1 + 1) W0 W1 := by rw [← hW1]; exact ⟨rfl, rfl, rfl, by simp, fun i hi => setRow_other _ _ _ _ (by omega)⟩
  have HQ1 := Lib.hid ((b01.block (w.heap.size + 1) (by omega)).trans HQ.out)
  have HR1 := Lib.hid ((b01.block (w.heap.size + 1 + 1) (by omega)).trans HR.out)
  have HZ1 := Lib.hid ((b01.block (w.heap.size + 1 + 1 + 1) (by omega)).trans HZ.out)
  have HY1 : Hid (W1.heap[w.heap.size + 1 + 1 + 1 + 1]? = some (.cells ca 152 (0, 0))) := by
    show _ = _
    rw [← hW1]
    exact setRow_heap _ _ _ _ _ _ HY.out
  have B1 := Lib.hid (B0.out.trans (b01.mono (by omega)))
  rw [HW0.out, hW1]
  clear hW1 b01 HW0 HQ HR HZ HY B0 HP4 HY5
  clear W0
  have hsz : w.heap.size + 1 + 1 + 1 + 1 < W1.heap.size := (Array.getElem?_eq_some_iff.1 HY1.out).1
  go_loopw [7, 8] (fun d _ wr => ∃ (E : Nat) (q r : Nat → Int), 1 ≤ E ∧ E ≤ 201 ∧ d = .int .i64 (E : Int) ∧ wr.heap[w.heap.size + 1 + 1 + 1]? = some (.cells (tA q) 152 (0, 0)) ∧ wr.heap[w.heap.size + 1 + 1 + 1 + 1]? = some (.cells (tA r) 152 (0, 0)) ∧ (∀ e, 1 ≤ e → e < E → e ≤ G → q e = ivL U (e - 1)) ∧ (∀ n, E ≤ n → n ≤ G → r n = u1 n - ovS U xs n (E - 1)) ∧ Below (w.heap.size + 1 + 1 + 1) W1 wr) (fun d _ _ => 202 - (intOf d).toNat)
  case atStart => exact ⟨1, fun _ => 0, arI us, Nat.le_refl _, by omega, rfl, by rw [← Hz201.out]; exact HZ1.out, by rw [Hca.out]; exact HY1.out, fun e h1 h2 => by omega, fun n h1 h9 => by rw [Hu.out n h1 (by omega), Nat.sub_self, ovS, Int.sub_zero], Below.refl _ _⟩
  case round =>
    obtain ⟨E, q, r, hE1, hE9, rfl, hq, hr, hqn, hrn, hbel⟩ := hrel
    have Hq := Lib.hid hq
    have Hr := Lib.hid hr
    have Hqn := Lib.hid hqn
    have Hrn := Lib.hid hrn
    clear hq hr hqn hrn
    by_cases hlt : E ≤ 200
    · have hE2 : (E : Int) < 201 := by omega
      have hE3 : (E : Int) ≤ 200 := by omega
      have hc1 := cell_of_row wr (w.heap.size + 1) 1 _ _ _ ((hbel.block (w.heap.size + 1) (by omega)).trans HQ1.out) |>.trans (Hb.out 1 (by omega))
      have hcr := cell_of_row wr (w.heap.size + 1 + 1 + 1 + 1) E _ _ _ Hr.out |>.trans (tA_get r (by omega))
      have hcq := cell_of_row wr (w.heap.size + 1 + 1 + 1) E _ _ _ Hq.out |>.trans (tA_get q (by omega))
      have hfq : wr.frozen? ⟨w.heap.size + 1 + 1 + 1, E, none⟩ = false := frozen_of_row wr (w.heap.size + 1 + 1 + 1) E _ _ Hq.out
      have Hx1 := Lib.hid (fun (h : E ≤ G) => Hfirst.out E _ hE1 h (Hrn.out E (Nat.le_refl _) h))
      obtain ⟨V, hV⟩ : ∃ V, r E = V := ⟨_, rfl⟩
      obtain ⟨B, hB⟩ : ∃ B, arI xs 1 = B := ⟨_, rfl⟩
      obtain ⟨Z0, hZ0⟩ : ∃ Z0, V * B = Z0 := ⟨_, rfl⟩
      obtain ⟨X, hX⟩ : ∃ X, IntKind.i64.wrap Z0 = X := ⟨_, rfl⟩
      rw [hV] at hcr Hx1
      rw [hB] at hc1 Hx1
      rw [hZ0, hX] at Hx1
      have hbel2 := hbel.drew.setCell (Nat.le_refl (w.heap.size + 1 + 1 + 1)) (p := ⟨w.heap.size + 1 + 1 + 1, E, none⟩) (.int .i64 X)
      have Hq2 := Lib.hid (show (wr.drew.setCell ⟨w.heap.size + 1 + 1 + 1, E, none⟩ (.int .i64 X)).heap[w.heap.size + 1 + 1 + 1]? = some (.cells (tA (upF q E X)) 152 (0, 0)) by
        have h := heap_setCell_same wr.drew (w.heap.size + 1 + 1 + 1) E (tA q) 152 (.int .i64 X) Hq.out
        rw [tA_set q X (by omega)] at h
        exact h)
      have Hr2 := Lib.hid ((heap_setCell_other wr.drew ⟨w.heap.size + 1 + 1 + 1, E, none⟩ (w.heap.size + 1 + 1 + 1 + 1) (.int .i64 X) (by simp)).trans Hr.out)
      have Hbel2 := Lib.hid hbel2
      clear hV hB hbel2
      go_wp2_with fail
      go_still_tail 7, (by kernel_rfl)
      go_wp2
      go_loopw [8] (fun i wr => ∃ (k : Nat) (r : Nat → Int), 1 ≤ k ∧ k ≤ 201 ∧ i = .int .i64 (k : Int) ∧ wr.heap[w.heap.size + 1 + 1 + 1]? = some (.cells (tA (upF q E X)) 152 (0, 0)) ∧ wr.heap[w.heap.size + 1 + 1 + 1 + 1]? = some (.cells (tA r) 152 (0, 0)) ∧ (∀ n, E < n → n ≤ G → r n = u1 n - ovM U xs n E k) ∧ Below (w.heap.size + 1 + 1 + 1) W1 wr) (fun i _ => 202 - (intOf i).toNat)
      case atStart => exact ⟨1, r, Nat.le_refl _, by omega, rfl, Hq2.out, Hr2.out, fun n h1 h9 => by rw [Hrn.out n (by omega) h9, ovM_start U xs (by omega) hE1], Hbel2.out⟩
      case round =>
        clear hcr hcq hfq hbel Hq2 Hr2 Hbel2 hc1
        obtain ⟨k, r2, hk1, hk9, rfl, hq, hr, hrn, hbel⟩ := hrel
        have Hq2 := Lib.hid hq
        have Hr2 := Lib.hid hr
        have Hrn2 := Lib.hid hrn
        clear hq hr hrn
        obtain ⟨P, hP⟩ : ∃ P, E * k = P := ⟨_, rfl⟩
        have hPi : (E : Int) * (k : Int) = (P : Int) := by rw [← hP, Int.natCast_mul]
        have hPk : k ≤ P := by rw [← hP]; exact Nat.le_mul_of_pos_left k (by omega)
        have hP9 : P ≤ 40401 := by have := Nat.mul_le_mul (show E ≤ 201 by omega) (show k ≤ 201 by omega); omega
        have HP2 := Lib.hid hP
        clear hP
        have hw1 : IntKind.i64.wrap (P : Int) = (P : Int) := IntWalk.i64_in _ (by omega)
        by_cases hin : P ≤ 200
        · have hP2 : (P : Int) < 201 := by omega
          have hk2 : (k : Int) < 201 := by omega
          have hcy := cell_of_row wr (w.heap.size + 1) k _ _ _ ((hbel.block (w.heap.size + 1) (by omega)).trans HQ1.out) |>.trans (Hb.out k (by omega))
          have hcz := cell_of_row wr (w.heap.size + 1 + 1 + 1 + 1) P _ _ _ Hr2.out |>.trans (tA_get r2 (by omega))
          have hcx := cell_of_row wr (w.heap.size + 1 + 1 + 1) E _ _ _ Hq2.out |>.trans (tA_get (upF q E X) (by omega))
          rw [upF_at] at hcx
          have hfz : wr.frozen? ⟨w.heap.size + 1 + 1 + 1 + 1, P, none⟩ = false := frozen_of_row wr (w.heap.size + 1 + 1 + 1 + 1) P _ _ Hr2.out
          have Hst := Lib.hid (fun (h1 : E < P) (h2 : P ≤ G) => Hstep.out E k (r2 P) hE1 (by rw [HP2.out]; exact h1) (by rw [HP2.out]; exact h2) (by rw [HP2.out]; exact Hrn2.out P h1 h2))
          rw [HP2.out] at Hst
          obtain ⟨V2, hV2⟩ : ∃ V, r2 P = V := ⟨_, rfl⟩
          obtain ⟨Y, hY⟩ : ∃ Y, arI xs k = Y := ⟨_, rfl⟩
          obtain ⟨T0, hT0⟩ : ∃ T0, X * Y = T0 := ⟨_, rfl⟩
          obtain ⟨T, hT⟩ : ∃ T, IntKind.i64.wrap T0 = T := ⟨_, rfl⟩
          obtain ⟨S, hS⟩ : ∃ S, IntKind.i64.wrap (V2 - T) = S := ⟨_, rfl⟩
          rw [hV2] at hcz Hst
          rw [hY] at hcy Hst
          have Hst2 := Lib.hid (fun (h1 : E < P) (h2 : P ≤ G) => show S = u1 P - ovM U xs P E (k + 1) by
            have h := Hst.out h1 h2
            rw [← Hx1.out (by omega), hT0, hT, hS] at h
            exact h)
          clear hV2 hY Hst
          go_wp2_with fail
          go_still_tail 13, (by kernel_rfl)
          go_wp2
          go_roundw
          case rel =>
            refine ⟨k + 1, upF r2 P S, by omega, by omega, by go_num, (heap_setCell_other wr.drew ⟨w.heap.size + 1 + 1 + 1 + 1, P, none⟩ (w.heap.size + 1 + 1 + 1) (.int .i64 S) (by simp)).trans Hq2.out, ?_, fun n h1 h9 => ?_, hbel.drew.setCell (by simp) _⟩
            · have h := heap_setCell_same wr.drew (w.heap.size + 1 + 1 + 1 + 1) P (tA r2) 152 (.int .i64 S) Hr2.out
              rw [tA_set r2 S (by omega)] at h
              exact h
            · by_cases hnP : n = P
              · subst hnP; rw [upF_at]; exact Hst2.out h1 h9
              · rw [upF_ne r2 S hnP, Hrn2.out n h1 h9, ov_other (by rw [HP2.out]; exact hnP)]
          case measure => simp [intOf]; omega
        · have Hend := Lib.hid (fun n (h9 : n ≤ 200) => ovM_end U xs (n := n) (d := E) (k := k) (m := 200) hE1 (by rw [Nat.mul_comm, HP2.out]; omega) h9)
          go_wp2
          go_roundw
          case rel =>
            refine ⟨E + 1, upF q E X, r2, by omega, by omega, by go_num, Hq2.out, Hr2.out, fun e h1 h2 h3 => ?_, fun n h1 h9 => ?_, hbel⟩
            · by_cases heE : e = E
              · subst heE; rw [upF_at]; exact Hx1.out h3
              · rw [upF_ne q X heE]; exact Hqn.out e h1 (by omega) h3
            · rw [Hrn2.out n (by omega) h9, Hend.out n (by omega), show E + 1 - 1 = E by omega]
          case measure => simp [intOf]; omega
    · have HE := Lib.hid (show E = 201 by omega)
      have Hr2 := Lib.hid ((hbel.block (w.heap.size + 1 + 1) (by omega)).trans HR1.out)
      have b9 := B1.out.trans (hbel.mono (by omega))
      go_wp2_with (first | (refine wpList_load_row rfl 152 (.tmp 5) rfl (w.heap.size + 1 + 1 + 1) rfl _ _ _ _ Hq.out Try.underlying152 rfl (Hs2.out.trans (by rw [tA_size])) ?_) | (refine wpList_store_row rfl 152 (.tmp 4) (.tmp 42) rfl (w.heap.size + 1 + 1) (tA q) rfl rfl _ _ Hr2.out (Hs2.out.trans (by rw [tA_size])) (by rw [tA_size]; exact Hz3.out) (tA_one _) ?_))
      refine bodyPost_ret (results_cell_row rfl _ _ (w.heap.size + 1 + 1) _ (tA q) _ _ rfl (setRow_heap wr _ _ _ _ _ Hr2.out) Try.underlying152 rfl (Hs2.out.trans (by rw [tA_size]))) rfl ⟨⟨q, rfl, fun n h1 h9 => ?_⟩, ?_⟩
      · exact Hqn.out n h1 (by rw [HE.out]; omega) h9
      · exact b9.trans ⟨rfl, rfl, rfl, by simp, fun i hi => setRow_other wr _ _ _ (by omega)⟩
end Go.Proofs.Ytaapfapejekkfaa

namespace Go.Proofs.Ytaapfapejekkfaa
open Go.RowKit
set_option linter.unusedVariables false
set_option linter.unusedSimpArgs false

theorem tb6_at {M i : Nat} (h : i < M) : ivL (tbL 6 M) i = u1 (i + 1) := by simp [ivL, tbL, h, tbF, u1]
theorem tb6_small (M : Nat) : smallL (tbL 6 M) := fun k => by
  by_cases hk : k < M
  · rw [tb6_at hk, u1]; split <;> omega
  · have : ivL (tbL 6 M) k = 0 := by rw [ivL, List.getD_eq_getElem?_getD, List.getElem?_eq_none (by rw [tbL_len]; omega)]; rfl
    omega
theorem tb6_arI {M : Nat} (hM : 1 ≤ M) : ∀ n, 1 ≤ n → n ≤ 200 → arI (tbL 6 M) n = u1 n := fun n h1 h9 => by
  rw [arI, if_neg (by omega)]
  by_cases hk : n - 1 < M
  · rw [tb6_at hk, show n - 1 + 1 = n by omega]
  · rw [ivL, List.getD_eq_getElem?_getD, List.getElem?_eq_none (by rw [tbL_len]; omega), u1, if_neg (by omega)]; rfl
/-- What the machine's quotient tells of a table undone. -/
theorem un_result {xs : List Int} {m G : Nat} {q : Nat → Int} (hx : tabB xs = true) (hm : m = xs.length) (h0 : ivL xs 0 = 1 ∨ ivL xs 0 = -1)
    (hG : (tabB (unL xs m) = true ∧ G = m) ∨ (tabB (unL xs m) = false ∧ 1 ≤ G ∧ G ≤ m ∧ ¬ (-1000000 ≤ ivL (unL xs G) (G - 1) ∧ ivL (unL xs G) (G - 1) ≤ 1000000)))
    (hq : ∀ n, 1 ≤ n → n ≤ G → q n = ivL (unL xs G) (n - 1)) : tabB (qL q m) = unO xs ∧ joR q m = unR xs := by
  rcases hG with ⟨h1, rfl⟩ | ⟨h1, h2, h3, h4⟩
  · have e : qL q G = unL xs G := qL_ext (unL_len _ _) fun i hi => hq (i + 1) (by omega) (by omega)
    have ho : unO xs = true := by rw [unO, hx, decide_eq_true h0, ← hm, h1]; rfl
    rw [joR, e, h1, unR_yes ho, ho, ← hm]
    exact ⟨rfl, rfl⟩
  · have ho : unO xs = false := by rw [unO, ← hm, h1, Bool.and_false]
    have ht : tabB (qL q m) = false := by
      rw [tabB, Bool.and_eq_false_iff]
      right
      refine allB_false (k := G - 1) (by rw [qL_len]; omega) (inB_false.2 ?_)
      rw [qL_at (by omega), show G - 1 + 1 = G by omega, hq G h2 (Nat.le_refl _)]
      exact h4
    rw [joR_no ht, unR_no ho, ho, ht]
    exact ⟨rfl, rfl⟩
set_option maxRecDepth 100000 in
set_option maxHeartbeats 800000 in
theorem impl_UndoTable_c (w : World) (A : Option Addr) (m c : Nat) (xs : List Int) (hA : Il w A xs) (hm : m = xs.length) (hn : m ≤ 1048576) :
    Calls Try.prog 119 #[.slice A m c] w fun en w' => (∃ v, en = .returned (.tuple #[v, .bool (unO xs)]) ∧ OwnI w' w.heap.size v (unR xs)) ∧ Below w.heap.size w w' := by
  have Ht := Lib.hid (fun W => impl_TableOf_c W 6 (m : Int))
  by_cases hM : 1 ≤ m ∧ m ≤ 200
  · obtain ⟨M1, M9⟩ := hM
    have ho : tbOk ((6 : Nat) : Int) (m : Int) = true := by rw [tbOk, show inB ((6 : Nat) : Int) 0 6 = true from rfl]; exact inB_true.2 ⟨by omega, by omega⟩
    have ha : tbA 6 (m : Int) = tbL 6 m := tbA_yes ho
    rw [show tbOk 6 (m : Int) = true from ho, ha] at Ht
    have Hl := Lib.hid (tbL_len 6 m)
    have HA := Lib.hid hA
    obtain ⟨b, off, hb1, hb2, hb3⟩ := hA (by omega)
    have hc0 := hb3 0 (by omega)
    rw [Nat.add_zero] at hc0
    have m0 : (0 : Int) < (m : Int) := by omega
    by_cases h0 : ivL xs 0 = 1 ∨ ivL xs 0 = -1
    · cases hx : tabB xs with
      | false =>
        have hs : unO xs = false := by rw [unO, hx]; rfl
        rw [unR_no hs, hs]
        have hp : ovP (tbL 6 m) xs = false := by rw [ovP, hx, Bool.and_false]; rfl
        have Hj := Lib.hid (fun W A1 c1 (h1 : Il W A1 (tbL 6 m)) h2 => joined_no W A1 m c1 (tbL 6 m) h1 (tbL_len 6 m).symm hn A m c xs h2 hm hn hp 247)
        obtain ⟨l, hl⟩ : ∃ l, tbL 6 m = l := ⟨_, rfl⟩
        rw [hl] at Ht Hl Hj
        subst hb1
        obtain ⟨a0, ha0⟩ : ∃ a, ivL xs 0 = a := ⟨_, rfl⟩
        rw [ha0] at h0 hc0
        clear ho ha hm hA hl hx hs hp hb3 ha0
        have hg : (a0 != 1 && a0 != -1) = false := by rcases h0 with rfl | rfl <;> rfl
        rcases h0 with rfl | rfl
        all_goals
          go_enter Try.func119, Try.ntmps119
          go_wp2_with fail
          refine (Ht.out _).mono ?_
          rintro e w1 ⟨⟨v, rfl, o1⟩, b1⟩
          obtain ⟨A1, c1, rfl⟩ := o1.shape
          rw [Hl.out] at o1 ⊢
          have HI := Lib.hid (Il_of_own_n o1 Hl.out.symm)
          have hc1 := (b1.cell (p := ⟨b, off, none⟩) hb2).trans hc0
          clear o1
          go_wp2_with fail
          refine (Hj.out _ _ _ HI.out (HA.out.below b1)).mono ?_
          rintro e w2 ⟨⟨v2, rfl, o2⟩, b2⟩
          have o2b := OwnI.mono o2 b1.size
          go_wp2
          go_ret2
          exact ⟨⟨_, rfl, o2b⟩, b1.trans (b2.mono b1.size)⟩
      | true =>
        obtain ⟨x1, x2, x3⟩ := tabB_small hx
        obtain ⟨G, hG9, hgood, hGG⟩ : ∃ G, G ≤ 200 ∧ goodG xs G ∧ ((tabB (unL xs m) = true ∧ G = m) ∨ (tabB (unL xs m) = false ∧ 1 ≤ G ∧ G ≤ m ∧ ¬ (-1000000 ≤ ivL (unL xs G) (G - 1) ∧ ivL (unL xs G) (G - 1) ≤ 1000000))) := by
          rcases un_far (a := xs) M1 M9 with ⟨a, b⟩ | ⟨a, G, g1, g2, g3, g4⟩
          · exact ⟨m, M9, b, .inl ⟨a, rfl⟩⟩
          · exact ⟨G, by omega, g3, .inr ⟨a, g1, g2, g4⟩⟩
        have Hq := Lib.hid (fun q hq => un_result (q := q) hx hm h0 hGG hq)
        have Hj := Lib.hid (fun W A1 c1 (h1 : Il W A1 (tbL 6 m)) h2 => joined_yes W A1 m c1 (tbL 6 m) h1 (tbL_len 6 m).symm A c xs h2 hm (smallL_tab (tb6_small m) (by rw [tbL_len]; exact M1) (by rw [tbL_len]; exact M9)) hx 247 (fun q => ∀ n, 1 ≤ n → n ≤ G → q n = ivL (unL xs G) (n - 1)) (fun _ _ => rfl) (fun W2 => quotient_c W2 (tbL 6 m) xs (tb6_arI M1) x1 h0 G hG9 hgood))
        obtain ⟨l, hl⟩ : ∃ l, tbL 6 m = l := ⟨_, rfl⟩
        rw [hl] at Ht Hl Hj
        subst hb1
        obtain ⟨a0, ha0⟩ : ∃ a, ivL xs 0 = a := ⟨_, rfl⟩
        rw [ha0] at h0 hc0
        clear ho ha hm hA hl hx hb3 ha0 x1 hgood hGG
        rcases h0 with rfl | rfl
        all_goals
          go_enter Try.func119, Try.ntmps119
          go_wp2_with fail
          refine (Ht.out _).mono ?_
          rintro e w1 ⟨⟨v, rfl, o1⟩, b1⟩
          obtain ⟨A1, c1, rfl⟩ := o1.shape
          rw [Hl.out] at o1 ⊢
          have HI := Lib.hid (Il_of_own_n o1 Hl.out.symm)
          have hc1 := (b1.cell (p := ⟨b, off, none⟩) hb2).trans hc0
          clear o1
          go_wp2_with fail
          refine (Hj.out _ _ _ HI.out (HA.out.below b1)).mono ?_
          rintro e w2 ⟨⟨v2, q, rfl, hq, o2⟩, b2⟩
          obtain ⟨e1, e2⟩ := Hq.out q hq
          rw [e1]
          rw [e2] at o2
          have o2b := OwnI.mono o2 b1.size
          go_wp2
          go_ret2
          exact ⟨⟨_, rfl, o2b⟩, b1.trans (b2.mono b1.size)⟩
    · have hs : unO xs = false := by rw [unO, decide_eq_false h0, Bool.and_false]; rfl
      rw [unR_no hs, hs]
      obtain ⟨l, hl⟩ : ∃ l, tbL 6 m = l := ⟨_, rfl⟩
      rw [hl] at Ht Hl
      subst hb1
      obtain ⟨a0, ha0⟩ : ∃ a, ivL xs 0 = a := ⟨_, rfl⟩
      rw [ha0] at h0 hc0
      have z1 : (a0 != 1) = true := bne_iff_ne.2 (by omega)
      have z2 : (a0 != -1) = true := bne_iff_ne.2 (by omega)
      clear ho ha hm hA hl hs hb3 ha0 h0
      go_enter Try.func119, Try.ntmps119
      go_wp2_with fail
      refine (Ht.out _).mono ?_
      rintro e w1 ⟨⟨v, rfl, o1⟩, b1⟩
      obtain ⟨A1, c1, rfl⟩ := o1.shape
      have hc1 := (b1.cell (p := ⟨b, off, none⟩) hb2).trans hc0
      clear o1
      go_wp2
      go_ret2
      exact ⟨⟨_, rfl, OwnI.nil _ _⟩, b1⟩
  · have hx : tabB xs = false := by rw [tabB, ← hm, show inB (m : Int) 1 200 = false from inB_false.2 (by omega)]; rfl
    have ho : tbOk 6 (m : Int) = false := by rw [tbOk, show inB (m : Int) 1 200 = false from inB_false.2 (by omega), Bool.and_false]
    have hs : unO xs = false := by rw [unO, hx]; rfl
    rw [unR_no hs, hs]
    rw [ho, tbA_no ho] at Ht
    clear hm hA hx ho hs hM
    go_enter Try.func119, Try.ntmps119
    go_wp2_with fail
    refine (Ht.out _).mono ?_
    rintro e w1 ⟨⟨v, rfl, o1⟩, b1⟩
    obtain ⟨A1, c1, rfl⟩ := o1.shape
    clear o1
    go_wp2
    go_ret2
    exact ⟨⟨_, rfl, OwnI.nil _ _⟩, b1⟩
end Go.Proofs.Ytaapfapejekkfaa
