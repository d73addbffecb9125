import Derived.Test.YtaapfapejekkfaaYB
import Derived.Test.YtaapfapejekkfaaY3
namespace Go.Proofs.Ytaapfapejekkfaa
open Go.RowKit
set_option linter.unusedVariables false
set_option linter.unusedSimpArgs false

theorem l1Abs_c (a : Int) (w : World) (h1 : -1000000 ≤ a) (h2 : a ≤ 1000000) :
    Calls Try.prog 248 #[.int .i64 a] w fun e w' => e = .returned (.int .i64 (a.natAbs : Int)) ∧ w = w' := by
  have hm : ∀ W, Calls Try.prog 288 #[.int .i64 a, .int .i64 (-a)] W fun e w' => e = .returned (.int .i64 (a.natAbs : Int)) ∧ W = w' := fun W => by
    by_cases h : -a < a
    · rw [show (a.natAbs : Int) = a by omega]
      go_enter Try.func288, Try.ntmps288
      go_wp2
      go_ret
      exact ⟨rfl, rfl⟩
    · rw [show (a.natAbs : Int) = -a by omega]
      go_enter Try.func288, Try.ntmps288
      go_wp2
      go_ret
      exact ⟨rfl, rfl⟩
  have Hm := Lib.hid hm
  clear hm
  go_enter Try.func248, Try.ntmps248
  go_wp2_with fail
  refine (Hm.out _).mono ?_
  rintro e w1 ⟨rfl, rfl⟩
  go_wp2
  go_ret
  exact ⟨rfl, rfl⟩

theorem unL_small {a : List Int} {n : Nat} (h : tabB (unL a n) = true) : smallL (unL a n) := (tabB_small h).1
theorem tab_prefix {a : List Int} {n m : Nat} (hn : 1 ≤ n) (hm : n ≤ m) (h : tabB (unL a m) = true) : tabB (unL a n) = true := by
  obtain ⟨s, l1, l2⟩ := tabB_small h
  rw [unL_len] at l1 l2
  rw [tabB, unL_len, inB_true.2 ⟨by omega, by omega⟩, Bool.true_and]
  refine allB_true fun k hk => ?_
  rw [unL_len] at hk
  have h2 := s k
  have h3 := unL_past (a := a) (i := k) (n := n) (d := m - n) hk
  rw [show n + (m - n) = m by omega] at h3
  rw [h3] at h2
  exact inB_true.2 h2
theorem unf_bound {a l : List Int} (ha : smallL a) (hl : smallL l) (n : Nat) (x : Int) : -((1000000000000 : Nat) : Int) ≤ unf a l n x ∧ unf a l n x ≤ ((1000000000000 : Nat) : Int) := by
  rw [unf]
  split
  · have := mul_small (hl (x.toNat - 1)) (ha (n / x.toNat - 1)); omega
  · omega
def unO (xs : List Int) : Bool := tabB xs && decide (ivL xs 0 = 1 ∨ ivL xs 0 = -1) && tabB (unL xs xs.length)
def unR (xs : List Int) : List Int := if unO xs then unL xs xs.length else []
theorem unR_no {xs : List Int} (h : unO xs = false) : unR xs = [] := by rw [unR, h]; rfl
theorem unR_yes {xs : List Int} (h : unO xs = true) : unR xs = unL xs xs.length := by rw [unR, h]; rfl
theorem unR_len (xs : List Int) : (unR xs).length ≤ 1048576 := by
  cases h : unO xs with
  | false => rw [unR_no h]; exact Nat.zero_le _
  | true =>
    rw [unR_yes h, unL_len]
    simp only [unO, Bool.and_eq_true] at h
    have := (tabB_small h.1.1).2.2
    omega
set_option maxRecDepth 100000 in
set_option maxHeartbeats 3000000 in
theorem spec_UndoTable_c (w : World) (A : Option Addr) (m c : Nat) (xs : List Int) (hA : Il w A xs) (hm : m = xs.length) (hn : m ≤ 1048576) :
    Calls Try.prog 120 #[.slice A m c] w fun en w' => (∃ v, en = .returned (.tuple #[v, .bool (unO xs)]) ∧ OwnI w' w.heap.size v (unR xs)) ∧ Below w.heap.size w w' := by
  have Hm := Lib.hid hm
  clear hm
  have Hno := Lib.hid (fun h => unR_no (xs := xs) h)
  cases hg : tabB xs with
  | false =>
    have ho : unO xs = false := by rw [unO, hg]; rfl
    rw [Hno.out ho, ho]
    have Hg := Lib.hid (hg ▸ dvIs_c w A m c xs hA Hm.out hn)
    clear hg ho
    go_enter Try.func120, Try.ntmps120
    go_wp2_with fail
    refine Hg.out.mono ?_
    rintro e w1 ⟨rfl, rfl⟩
    go_wp2
    go_ret2
    exact ⟨⟨_, rfl, OwnI.nil _ _⟩, Below.refl _ _⟩
  | true =>
    obtain ⟨x1, x2, x3⟩ := tabB_small hg
    have Hgt := Lib.hid hg
    have Hg := Lib.hid (hg ▸ dvIs_c w A m c xs hA Hm.out hn)
    have Hx := Lib.hid x1
    have hm1 : 1 ≤ m := by have := Hm.out; omega
    have hm9 : m ≤ 200 := by have := Hm.out; omega
    obtain ⟨b, off, rfl, hb, hr⟩ := hA (by have := Hm.out; omega)
    have hc0 := hr 0 (by have := Hm.out; omega)
    rw [Nat.add_zero] at hc0
    have hm0 : (0 : Int) < (m : Int) := by omega
    have Hr := Lib.hid hr
    have hI := Hx.out 0
    have Ha := fun W => l1Abs_c (ivL xs 0) W hI.1 hI.2
    obtain ⟨X0, hX0⟩ : ∃ X0, ivL xs 0 = X0 := ⟨_, rfl⟩
    have HX0 := Lib.hid hX0
    rw [hX0] at hc0 hI Ha
    have HA := Lib.hid Ha
    clear hg x1 x2 x3 hr Ha hX0
    by_cases h0 : X0.natAbs = 1
    · have ho : unO xs = tabB (unL xs m) := by rw [unO, Hgt.out, decide_eq_true (show ivL xs 0 = 1 ∨ ivL xs 0 = -1 by rw [HX0.out]; omega), Hm.out]; rfl
      have HO := Lib.hid ho
      have HY : Hid (unO xs = true → unR xs = unL xs m) := fun h => by rw [unR_yes h, Hm.out]
      have Hpre := Lib.hid (fun n (h1 : 1 ≤ n) (h2 : n ≤ m) h => tab_prefix (a := xs) (n := n) (m := m) h1 h2 h)
      rw [h0] at HA
      have hX1 : X0 = 1 ∨ X0 = -1 := by omega
      have hmk : ∀ w : World, (Instr.makeSlice 48 (.int .i64 (m : Int)) (.int .i64 (m : Int))).run Try.prog w = .ok (.slice (some ⟨w.heap.size, 0, none⟩) m m) (w.alloc (.cells (madeCells (Value.cells (.int .i64 0)) (m * 1)) 3)) := fun w => mk_full Try.underlying48 info_I m (by omega) (by omega) w
      have hmo : (w.alloc (.cells (madeCells #[.int .i64 0] m) 3)).ownsRow w.heap.size 3 1 (.slice (some ⟨w.heap.size, 0, none⟩) m m) m (madeCells #[.int .i64 0] m).toList := by
        have h := mk_owns (e := 3) #[.int .i64 0] 1 m (by unfold maxLen; omega) w
        rwa [Nat.mul_one] at h
      have Hmo := Lib.hid hmo
      clear ho h0 hmo
      go_enter Try.func120, Try.ntmps120
      go_wp2_with fail
      refine Hg.out.mono ?_
      rintro e w1 ⟨rfl, rfl⟩
      go_wp2_with fail
      refine (HA.out _).mono ?_
      rintro e w1 ⟨rfl, rfl⟩
      go_wp2
      clear hmk
      go_loopw [5] (fun i wr => ∃ k : Nat, k ≤ m ∧ i = .int .i64 ((k : Int) + 1) ∧ (∃ zs, wr.ownsRow w.heap.size 3 1 (.slice (some ⟨w.heap.size, 0, none⟩) m m) m zs ∧ ∀ j, j < k → zs[j]? = some (.int .i64 (ivL (unL xs k) j))) ∧ (1 ≤ k → tabB (unL xs k) = true) ∧ Below w.heap.size w wr) (fun i _ => m + 2 - (intOf i).toNat)
      case atStart => exact ⟨0, Nat.zero_le _, rfl, ⟨_, Hmo.out, fun j hj => by omega⟩, fun h => by omega, (Below.refl _ _).alloc (Nat.le_refl _) _⟩
      case round =>
        obtain ⟨k, hk, rfl, ⟨zs, hown, hzs⟩, htab, hbel⟩ := hrel
        have Hown := Lib.hid hown
        have Hzs := Lib.hid hzs
        have Htab := Lib.hid htab
        have hs := hbel.size
        have Hbel := Lib.hid hbel
        clear hown hzs htab hbel
        by_cases hlt : k < m
        · have heL : (k : Int) < (m : Int) := by omega
          have heL2 : (k : Int) + 1 ≤ (m : Int) := by omega
          have Hsm : Hid (smallL (unL xs k)) := by
            rcases Nat.eq_zero_or_pos k with e | e
            · subst e; exact fun j => by simp [unL, ivL]
            · exact unL_small (Htab.out e)
          have Hd := fun W => dvList_c W (k + 1) (by omega) (by omega)
          rw [show ((k + 1 : Nat) : Int) = (k : Int) + 1 by omega] at Hd
          have Hmem := fun z => dvD_mem (n := k + 1) (z := z)
          have hDl : (dvD (k + 1)).length ≤ k + 1 := flF_len _ _ _
          have HV : Hid (unV xs (unL xs k) (k + 1) = ((if k = 0 then 1 else 0) - suF (unf xs (unL xs k) (k + 1)) (dvD (k + 1))) * X0) := by
            show _ = _
            rw [unV, HX0.out]
            simp
          obtain ⟨D, hD⟩ : ∃ D, dvD (k + 1) = D := ⟨_, rfl⟩
          rw [hD] at Hd Hmem hDl HV
          have HD := Lib.hid Hd
          have HMem := Lib.hid Hmem
          have Hsb := Lib.hid (fun j (hj : j ≤ D.length) => suT_bound (f := unf xs (unL xs k) (k + 1)) (l := D) (b := 1000000000000) (fun x _ => unf_bound Hx.out Hsm.out _ x) j hj)
          have Hsa := Lib.hid (suT_all (f := unf xs (unL xs k) (k + 1)) (l := D))
          have Hss := Lib.hid (fun j (hj : j < D.length) => suT_succ (f := unf xs (unL xs k) (k + 1)) (l := D) (k := j) hj)
          clear hD Hd Hmem
          rcases Nat.eq_zero_or_pos k with e0 | e0
          · have hk0 : (((k : Int) + 1) == 1) = true := by rw [beq_iff_eq]; omega
            rw [if_pos e0] at HV
            clear e0
            go_wp2_with fail
            refine (HD.out _).mono ?_
            rintro e w3 ⟨⟨v3, rfl, o3⟩, b3⟩
            have Hown3 := Lib.hid (own_below Hown.out b3)
            have hbel3 := Hbel.out.trans (b3.mono hs)
            obtain ⟨A3, c3, rfl⟩ := o3.shape
            have I3 := Lib.hid (Il_of_own o3)
            clear o3
            go_wp2
            go_loopw [6, 8, 33] (fun s _ i wr => ∃ j q : Nat, j ≤ D.length ∧ i = .int .i64 (j : Int) ∧ s = .int .i64 (1 - suT (unf xs (unL xs k) (k + 1)) D j) ∧ wr = w3.drewN q) (fun _ _ i _ => D.length - (intOf i).toNat)
            case atStart => exact ⟨0, 0, Nat.zero_le _, rfl, by simp [suT, suF], rfl⟩
            case round =>
              obtain ⟨j, q, hj, rfl, rfl, rfl⟩ := hrel
              have hb0 := Hsb.out j hj
              have hj9 : j ≤ 200 := by omega
              by_cases hjl : j < D.length
              · obtain ⟨bd, od, rfl, hbd, hrd⟩ := I3.out (by omega)
                have hcd := hrd j hjl
                obtain ⟨d, hd0, d1, d2, d3⟩ := (HMem.out (ivL D j)).1 (by simp [ivL, hjl])
                have Hst := Lib.hid (Hss.out j hjl)
                rw [hd0] at hcd Hst
                obtain ⟨S, hS⟩ : ∃ S, suT (unf xs (unL xs k) (k + 1)) D j = S := ⟨_, rfl⟩
                rw [hS] at hb0 Hst ⊢
                have hS9 : -200000000000000 ≤ S ∧ S ≤ 200000000000000 := by omega
                have hSS := Lib.hid hS
                clear hS hb0 hd0 hrd
                by_cases hdk : d < k + 1
                · have hdI : (d : Int) < (k : Int) + 1 := by omega
                  obtain ⟨Q, hQ⟩ : ∃ Q, (k + 1) / d = Q := ⟨_, rfl⟩
                  have hQi : ((k : Int) + 1) / (d : Int) = (Q : Int) := by rw [← hQ, Int.natCast_ediv]; rfl
                  have hQ1 : 1 ≤ Q := by rw [← hQ]; exact Nat.div_pos d2 (by omega)
                  have hQ9 : Q ≤ k + 1 := by rw [← hQ]; exact Nat.div_le_self _ _
                  have hz : ((d : Int) == 0) = false := beq_eq_false_iff_ne.2 (by omega)
                  have hzn : ¬ d = 0 := by omega
                  have hcl := (World.ownsRow.cellAt Hown3.out (d - 1) (by omega)).trans (Hzs.out (d - 1) (by omega))
                  have hcr := ((Hbel.out.trans (b3.mono hs)).cell (p := ⟨b, off + (Q - 1), none⟩) hb).trans (Hr.out (Q - 1) (by have := Hm.out; omega))
                  have hmb := mul_small (Hsm.out (d - 1)) (Hx.out (Q - 1))
                  have Hu : Hid (unf xs (unL xs k) (k + 1) (d : Int) = ivL (unL xs k) (d - 1) * ivL xs (Q - 1)) := by
                    show _ = _
                    rw [unf, if_pos (by omega), Int.toNat_natCast, hQ]
                  have hdp : (d : Int) - 1 = ((d - 1 : Nat) : Int) := by omega
                  have hQp : (Q : Int) - 1 = ((Q - 1 : Nat) : Int) := by omega
                  obtain ⟨d', hd'⟩ : ∃ d', d - 1 = d' := ⟨_, rfl⟩
                  obtain ⟨Q', hQ'⟩ : ∃ Q', Q - 1 = Q' := ⟨_, rfl⟩
                  have hdL : (d' : Int) < (m : Int) := by omega
                  have hQL : (Q' : Int) < (m : Int) := by omega
                  rw [hd'] at hcl hmb Hu hdp
                  rw [hQ'] at hcr hmb Hu hQp
                  obtain ⟨X, hX⟩ : ∃ X, ivL (unL xs k) d' = X := ⟨_, rfl⟩
                  obtain ⟨Y, hY⟩ : ∃ Y, ivL xs Q' = Y := ⟨_, rfl⟩
                  rw [hX] at hcl hmb Hu
                  rw [hY] at hcr hmb Hu
                  obtain ⟨Z, hZ⟩ : ∃ Z, X * Y = Z := ⟨_, rfl⟩
                  rw [hZ] at hmb Hu
                  have He : Hid (suT (unf xs (unL xs k) (k + 1)) D (j + 1) = S + Z) := by show _ = _; rw [Hst.out, Hu.out]
                  have hw1 : IntKind.i64.wrap (Q : Int) = (Q : Int) := IntWalk.i64_in _ (by omega)
                  have hw2 : IntKind.i64.wrap (Q' : Int) = (Q' : Int) := IntWalk.i64_in _ (by omega)
                  have hw3 : IntKind.i64.wrap (d' : Int) = (d' : Int) := IntWalk.i64_in _ (by omega)
                  have hw4 : IntKind.i64.wrap Z = Z := IntWalk.i64_in _ (by omega)
                  have hw5 : IntKind.i64.wrap (1 - S - Z) = 1 - S - Z := IntWalk.i64_in _ (by omega)
                  clear hd' hQ' hX hY hQ Hst
                  go_wp2_with fail
                  go_quiet (fail)
                  go_wp2
                  go_roundw
                  case rel => exact ⟨j + 1, _, by omega, by go_num, by rw [He.out]; go_num, rfl⟩
                  case measure => simp [intOf]; omega
                · have hdI : ((k : Int) + 1) ≤ (d : Int) := by omega
                  have He : Hid (suT (unf xs (unL xs k) (k + 1)) D (j + 1) = S) := by show _ = _; rw [Hst.out, unf, if_neg (by omega), Int.add_zero]
                  clear Hst
                  go_wp2
                  go_roundw
                  case rel => exact ⟨j + 1, _, by omega, by go_num, by rw [He.out], rfl⟩
                  case measure => simp [intOf]; omega
              · have Hj := Lib.hid (show j = D.length by omega)
                obtain ⟨S, hS⟩ : ∃ S, suT (unf xs (unL xs k) (k + 1)) D j = S := ⟨_, rfl⟩
                have HW : Hid (unV xs (unL xs k) (k + 1) = (1 - S) * X0) := by show _ = _; rw [HV.out, ← Hsa.out, ← Hj.out, hS]
                rw [hS] at hb0 ⊢
                have hS9 : -200000000000000 ≤ S ∧ S ≤ 200000000000000 := by omega
                obtain ⟨U, hU⟩ : ∃ U, (1 - S) * X0 = U := ⟨_, rfl⟩
                have hU9 : -200000000000001 ≤ U ∧ U ≤ 200000000000001 := by
                  rw [← hU]
                  rcases hX1 with e | e <;> rw [e] <;> omega
                rw [hU] at HW
                have HN := Lib.hid (show unL xs (k + 1) = unL xs k ++ [U] by rw [unL, HW.out])
                clear hS hb0
                obtain ⟨x0, hx0, hf0⟩ := own_get Hown3.out k (by omega)
                have hc0' := hbel3.cell (p := ⟨b, off, none⟩) hb |>.trans hc0
                go_wp2_with fail
                have b35 : Below w.heap.size w ((w3.drewN q).setCell ⟨w.heap.size, k, none⟩ (.int .i64 U)) := (below_drewN hbel3 q).setCell (Nat.le_refl _) _
                have h5 := ((own_below Hown3.out (below_drewN (Below.refl _ _) q)).stored k (.int .i64 U)).1
                have hxl : zs.length = m * 1 := Hown.out.1
                have Hz5 : Hid (∀ j, j < k + 1 → (zs.set k (.int .i64 U))[j]? = some (.int .i64 (ivL (unL xs (k + 1)) j))) := fun j hj => by
                  have hlk := unL_len xs k
                  rw [HN.out]
                  rcases Nat.lt_succ_iff_lt_or_eq.1 hj with h | h
                  · rw [List.getElem?_set_ne (by omega), Hzs.out j h, ivL, ivL, List.getD_eq_getElem?_getD, List.getD_eq_getElem?_getD, List.getElem?_append_left (by omega)]
                  · subst h
                    rw [List.getElem?_set_self (by omega), ivL, List.getD_eq_getElem?_getD, List.getElem?_append_right (by omega), hlk, Nat.sub_self]
                    rfl
                have I5 : Hid (Il ((w3.drewN q).setCell ⟨w.heap.size, k, none⟩ (.int .i64 U)) (some ⟨w.heap.size, 0, none⟩) (unL xs (k + 1))) := fun _ => by
                  refine ⟨w.heap.size, 0, rfl, (own_form h5 (by omega)).elim fun g hg => by cases hg.1; exact hg.2.2, fun j hj => ?_⟩
                  rw [unL_len] at hj
                  rw [Nat.zero_add]
                  exact (World.ownsRow.cellAt h5 j (by omega)).trans (Hz5.out j hj)
                have H5 := Lib.hid h5
                clear h5 hx0 hf0
                cases ht : tabB (unL xs (k + 1)) with
                | false =>
                  have Ht := Lib.hid (ht ▸ dvIs_c _ _ (k + 1) m (unL xs (k + 1)) I5.out (unL_len _ _).symm (by omega))
                  have Ho : Hid (unO xs = false) := by
                    show _ = _
                    rw [HO.out]
                    cases h : tabB (unL xs m) with
                    | false => rfl
                    | true => rw [Hpre.out (k + 1) (by omega) (by omega) h] at ht; cases ht
                  clear ht
                  refine Ht.out.mono ?_
                  rintro e w6 ⟨rfl, rfl⟩
                  go_wp2
                  go_ret2
                  exact ⟨⟨_, by rw [Ho.out]; rfl, by rw [Hno.out Ho.out]; exact OwnI.nil _ _⟩, b35⟩
                | true =>
                  have Ht := Lib.hid (ht ▸ dvIs_c _ _ (k + 1) m (unL xs (k + 1)) I5.out (unL_len _ _).symm (by omega))
                  have HT := Lib.hid ht
                  clear ht
                  refine Ht.out.mono ?_
                  rintro e w6 ⟨rfl, rfl⟩
                  go_wp2
                  go_roundw
                  case rel => exact ⟨k + 1, by omega, by go_num, ⟨_, H5.out, Hz5.out⟩, fun _ => HT.out, b35⟩
                  case measure => simp [intOf]; omega
          · have hk0 : (((k : Int) + 1) == 1) = false := beq_eq_false_iff_ne.2 (by omega)
            rw [if_neg (by omega)] at HV
            clear e0
            go_wp2_with fail
            refine (HD.out _).mono ?_
            rintro e w3 ⟨⟨v3, rfl, o3⟩, b3⟩
            have Hown3 := Lib.hid (own_below Hown.out b3)
            have hbel3 := Hbel.out.trans (b3.mono hs)
            obtain ⟨A3, c3, rfl⟩ := o3.shape
            have I3 := Lib.hid (Il_of_own o3)
            clear o3
            go_wp2
            go_loopw [6, 8, 33] (fun s _ i wr => ∃ j q : Nat, j ≤ D.length ∧ i = .int .i64 (j : Int) ∧ s = .int .i64 (0 - suT (unf xs (unL xs k) (k + 1)) D j) ∧ wr = w3.drewN q) (fun _ _ i _ => D.length - (intOf i).toNat)
            case atStart => exact ⟨0, 0, Nat.zero_le _, rfl, by simp [suT, suF], rfl⟩
            case round =>
              obtain ⟨j, q, hj, rfl, rfl, rfl⟩ := hrel
              have hb0 := Hsb.out j hj
              have hj9 : j ≤ 200 := by omega
              by_cases hjl : j < D.length
              · obtain ⟨bd, od, rfl, hbd, hrd⟩ := I3.out (by omega)
                have hcd := hrd j hjl
                obtain ⟨d, hd0, d1, d2, d3⟩ := (HMem.out (ivL D j)).1 (by simp [ivL, hjl])
                have Hst := Lib.hid (Hss.out j hjl)
                rw [hd0] at hcd Hst
                obtain ⟨S, hS⟩ : ∃ S, suT (unf xs (unL xs k) (k + 1)) D j = S := ⟨_, rfl⟩
                rw [hS] at hb0 Hst ⊢
                have hS9 : -200000000000000 ≤ S ∧ S ≤ 200000000000000 := by omega
                have hSS := Lib.hid hS
                clear hS hb0 hd0 hrd
                by_cases hdk : d < k + 1
                · have hdI : (d : Int) < (k : Int) + 1 := by omega
                  obtain ⟨Q, hQ⟩ : ∃ Q, (k + 1) / d = Q := ⟨_, rfl⟩
                  have hQi : ((k : Int) + 1) / (d : Int) = (Q : Int) := by rw [← hQ, Int.natCast_ediv]; rfl
                  have hQ1 : 1 ≤ Q := by rw [← hQ]; exact Nat.div_pos d2 (by omega)
                  have hQ9 : Q ≤ k + 1 := by rw [← hQ]; exact Nat.div_le_self _ _
                  have hz : ((d : Int) == 0) = false := beq_eq_false_iff_ne.2 (by omega)
                  have hzn : ¬ d = 0 := by omega
                  have hcl := (World.ownsRow.cellAt Hown3.out (d - 1) (by omega)).trans (Hzs.out (d - 1) (by omega))
                  have hcr := ((Hbel.out.trans (b3.mono hs)).cell (p := ⟨b, off + (Q - 1), none⟩) hb).trans (Hr.out (Q - 1) (by have := Hm.out; omega))
                  have hmb := mul_small (Hsm.out (d - 1)) (Hx.out (Q - 1))
                  have Hu : Hid (unf xs (unL xs k) (k + 1) (d : Int) = ivL (unL xs k) (d - 1) * ivL xs (Q - 1)) := by
                    show _ = _
                    rw [unf, if_pos (by omega), Int.toNat_natCast, hQ]
                  have hdp : (d : Int) - 1 = ((d - 1 : Nat) : Int) := by omega
                  have hQp : (Q : Int) - 1 = ((Q - 1 : Nat) : Int) := by omega
                  obtain ⟨d', hd'⟩ : ∃ d', d - 1 = d' := ⟨_, rfl⟩
                  obtain ⟨Q', hQ'⟩ : ∃ Q', Q - 1 = Q' := ⟨_, rfl⟩
                  have hdL : (d' : Int) < (m : Int) := by omega
                  have hQL : (Q' : Int) < (m : Int) := by omega
                  rw [hd'] at hcl hmb Hu hdp
                  rw [hQ'] at hcr hmb Hu hQp
                  obtain ⟨X, hX⟩ : ∃ X, ivL (unL xs k) d' = X := ⟨_, rfl⟩
                  obtain ⟨Y, hY⟩ : ∃ Y, ivL xs Q' = Y := ⟨_, rfl⟩
                  rw [hX] at hcl hmb Hu
                  rw [hY] at hcr hmb Hu
                  obtain ⟨Z, hZ⟩ : ∃ Z, X * Y = Z := ⟨_, rfl⟩
                  rw [hZ] at hmb Hu
                  have He : Hid (suT (unf xs (unL xs k) (k + 1)) D (j + 1) = S + Z) := by show _ = _; rw [Hst.out, Hu.out]
                  have hw1 : IntKind.i64.wrap (Q : Int) = (Q : Int) := IntWalk.i64_in _ (by omega)
                  have hw2 : IntKind.i64.wrap (Q' : Int) = (Q' : Int) := IntWalk.i64_in _ (by omega)
                  have hw3 : IntKind.i64.wrap (d' : Int) = (d' : Int) := IntWalk.i64_in _ (by omega)
                  have hw4 : IntKind.i64.wrap Z = Z := IntWalk.i64_in _ (by omega)
                  have hw5 : IntKind.i64.wrap (-S - Z) = -S - Z := IntWalk.i64_in _ (by omega)
                  clear hd' hQ' hX hY hQ Hst
                  go_wp2_with fail
                  go_quiet (fail)
                  go_wp2
                  go_roundw
                  case rel => exact ⟨j + 1, _, by omega, by go_num, by rw [He.out]; go_num, rfl⟩
                  case measure => simp [intOf]; omega
                · have hdI : ((k : Int) + 1) ≤ (d : Int) := by omega
                  have He : Hid (suT (unf xs (unL xs k) (k + 1)) D (j + 1) = S) := by show _ = _; rw [Hst.out, unf, if_neg (by omega), Int.add_zero]
                  clear Hst
                  go_wp2
                  go_roundw
                  case rel => exact ⟨j + 1, _, by omega, by go_num, by rw [He.out], rfl⟩
                  case measure => simp [intOf]; omega
              · have Hj := Lib.hid (show j = D.length by omega)
                obtain ⟨S, hS⟩ : ∃ S, suT (unf xs (unL xs k) (k + 1)) D j = S := ⟨_, rfl⟩
                have HW : Hid (unV xs (unL xs k) (k + 1) = -S * X0) := by show _ = _; rw [HV.out, ← Hsa.out, ← Hj.out, hS, Int.zero_sub]
                rw [hS] at hb0 ⊢
                have hS9 : -200000000000000 ≤ S ∧ S ≤ 200000000000000 := by omega
                obtain ⟨U, hU⟩ : ∃ U, -S * X0 = U := ⟨_, rfl⟩
                have hU9 : -200000000000001 ≤ U ∧ U ≤ 200000000000001 := by
                  rw [← hU]
                  rcases hX1 with e | e <;> rw [e] <;> omega
                rw [hU] at HW
                have HN := Lib.hid (show unL xs (k + 1) = unL xs k ++ [U] by rw [unL, HW.out])
                clear hS hb0
                obtain ⟨x0, hx0, hf0⟩ := own_get Hown3.out k (by omega)
                have hc0' := hbel3.cell (p := ⟨b, off, none⟩) hb |>.trans hc0
                go_wp2_with fail
                have b35 : Below w.heap.size w ((w3.drewN q).setCell ⟨w.heap.size, k, none⟩ (.int .i64 U)) := (below_drewN hbel3 q).setCell (Nat.le_refl _) _
                have h5 := ((own_below Hown3.out (below_drewN (Below.refl _ _) q)).stored k (.int .i64 U)).1
                have hxl : zs.length = m * 1 := Hown.out.1
                have Hz5 : Hid (∀ j, j < k + 1 → (zs.set k (.int .i64 U))[j]? = some (.int .i64 (ivL (unL xs (k + 1)) j))) := fun j hj => by
                  have hlk := unL_len xs k
                  rw [HN.out]
                  rcases Nat.lt_succ_iff_lt_or_eq.1 hj with h | h
                  · rw [List.getElem?_set_ne (by omega), Hzs.out j h, ivL, ivL, List.getD_eq_getElem?_getD, List.getD_eq_getElem?_getD, List.getElem?_append_left (by omega)]
                  · subst h
                    rw [List.getElem?_set_self (by omega), ivL, List.getD_eq_getElem?_getD, List.getElem?_append_right (by omega), hlk, Nat.sub_self]
                    rfl
                have I5 : Hid (Il ((w3.drewN q).setCell ⟨w.heap.size, k, none⟩ (.int .i64 U)) (some ⟨w.heap.size, 0, none⟩) (unL xs (k + 1))) := fun _ => by
                  refine ⟨w.heap.size, 0, rfl, (own_form h5 (by omega)).elim fun g hg => by cases hg.1; exact hg.2.2, fun j hj => ?_⟩
                  rw [unL_len] at hj
                  rw [Nat.zero_add]
                  exact (World.ownsRow.cellAt h5 j (by omega)).trans (Hz5.out j hj)
                have H5 := Lib.hid h5
                clear h5 hx0 hf0
                cases ht : tabB (unL xs (k + 1)) with
                | false =>
                  have Ht := Lib.hid (ht ▸ dvIs_c _ _ (k + 1) m (unL xs (k + 1)) I5.out (unL_len _ _).symm (by omega))
                  have Ho : Hid (unO xs = false) := by
                    show _ = _
                    rw [HO.out]
                    cases h : tabB (unL xs m) with
                    | false => rfl
                    | true => rw [Hpre.out (k + 1) (by omega) (by omega) h] at ht; cases ht
                  clear ht
                  refine Ht.out.mono ?_
                  rintro e w6 ⟨rfl, rfl⟩
                  go_wp2
                  go_ret2
                  exact ⟨⟨_, by rw [Ho.out]; rfl, by rw [Hno.out Ho.out]; exact OwnI.nil _ _⟩, b35⟩
                | true =>
                  have Ht := Lib.hid (ht ▸ dvIs_c _ _ (k + 1) m (unL xs (k + 1)) I5.out (unL_len _ _).symm (by omega))
                  have HT := Lib.hid ht
                  clear ht
                  refine Ht.out.mono ?_
                  rintro e w6 ⟨rfl, rfl⟩
                  go_wp2
                  go_roundw
                  case rel => exact ⟨k + 1, by omega, by go_num, ⟨_, H5.out, Hz5.out⟩, fun _ => HT.out, b35⟩
                  case measure => simp [intOf]; omega
        · have Hk := Lib.hid (show k = m by omega)
          have Ho : Hid (unO xs = true) := by show _ = _; rw [HO.out, ← Hk.out]; exact Htab.out (by omega)
          have hz : Hid (zs = (unL xs m).map (Value.int .i64)) := cellsI_of (by rw [unL_len]; have := Hown.out.1; omega) fun j hj => by
            rw [unL_len] at hj
            rw [Hzs.out j (by omega), Hk.out]
          go_wp2
          go_ret2
          refine ⟨⟨_, by rw [Ho.out]; rfl, ?_⟩, Hbel.out⟩
          have h := Hown.out
          rw [hz.out] at h
          rw [HY.out Ho.out, OwnI, unL_len]
          exact h
    · have ho : unO xs = false := by rw [unO, decide_eq_false (show ¬ (ivL xs 0 = 1 ∨ ivL xs 0 = -1) by rw [HX0.out]; omega), Bool.and_false]; rfl
      rw [Hno.out ho, ho]
      have hne : ((X0.natAbs : Int) != 1) = true := bne_iff_ne.2 (by omega)
      obtain ⟨Z, hZ⟩ : ∃ Z, (X0.natAbs : Int) = Z := ⟨_, rfl⟩
      rw [hZ] at HA hne
      clear ho h0 hZ
      go_enter Try.func120, Try.ntmps120
      go_wp2_with fail
      refine Hg.out.mono ?_
      rintro e w1 ⟨rfl, rfl⟩
      go_wp2_with fail
      refine (HA.out _).mono ?_
      rintro e w1 ⟨rfl, rfl⟩
      go_wp2
      go_ret2
      exact ⟨⟨_, rfl, OwnI.nil _ _⟩, Below.refl _ _⟩

end Go.Proofs.Ytaapfapejekkfaa
