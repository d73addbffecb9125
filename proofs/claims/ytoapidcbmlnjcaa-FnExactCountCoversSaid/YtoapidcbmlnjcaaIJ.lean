import Derived.Test.YtoapidcbmlnjcaaII
import Derived.Test.YtoapidcbmlnjcaaIG
namespace Go.Proofs.Ytoapidcbmlnjcaa
open Go.RowKit
set_option linter.unusedVariables false
set_option linter.unusedSimpArgs false

set_option maxRecDepth 100000 in
set_option maxHeartbeats 800000 in
theorem isPrimeList_c (w : World) (A : Option Addr) (m c : Nat) (xs : List Int) (hA : Il w A xs) (hm : m = xs.length) (hn : m ≤ 1048576) (hmc : m ≤ c) :
    Calls Try.prog 91 #[.slice A m c] w fun en w' => en = .returned (.bool (gpP xs)) ∧ Below w.heap.size w w' := by
  have Hm := Lib.hid hm
  have HA := Lib.hid hA
  by_cases h5 : m ≤ 5
  · have h5i : (m : Int) ≤ 5 := by omega
    have hD := arePrimesTold_c w A m c xs hA hm hn hmc
    cases hd : dpB xs with
    | false =>
      rw [hd] at hD
      have HD := Lib.hid hD
      rw [gpP_bad hd]
      clear hm hA hd hD h5
      go_enter Try.func91, Try.ntmps91
      go_wp2_with fail
      refine HD.out.mono ?_
      rintro e w2 ⟨rfl, b2⟩
      go_wp2
      go_ret
      exact ⟨rfl, b2⟩
    | true =>
      rw [hd] at hD
      have HD := Lib.hid hD
      have hgp : gpP xs = srtB xs := by rw [gpP, hd, decide_eq_true (by omega), ris_srt hd]; rfl
      rw [hgp]
      have HS := Lib.hid (fun W (hb : Below w.heap.size w W) => isSorted_c W A m c xs (hA.below hb) hm hn)
      clear hm hA hd hD h5 hgp
      go_enter Try.func91, Try.ntmps91
      go_wp2_with fail
      refine HD.out.mono ?_
      rintro e w2 ⟨rfl, b2⟩
      go_wp2_with fail
      refine (HS.out _ b2).mono ?_
      rintro e w3 ⟨rfl, b3⟩
      go_wp2
      go_ret
      exact ⟨rfl, b2.trans (b3.mono b2.size)⟩
  · have h5i : 5 < (m : Int) := by omega
    rw [gpP_long (by omega)]
    clear hm hA h5
    go_enter Try.func91, Try.ntmps91
    go_wp2
    go_ret
    exact ⟨rfl, Below.refl _ _⟩
set_option maxRecDepth 100000 in
set_option maxHeartbeats 800000 in
theorem impl_RulesWithout_c (w : World) (A : Option Addr) (m c : Nat) (xs : List Int) (hA : Il w A xs) (hm : m = xs.length) (hn : m ≤ 1048576) (hmc : m ≤ c) :
    Calls Try.prog 53 #[.slice A m c] w fun en w' => (∃ v, en = .returned (.tuple #[v, .bool (gpP xs)]) ∧ OwnR w' w.heap.size v (rwV xs)) ∧ Below w.heap.size w w' := by
  have Hm := Lib.hid hm
  clear hm
  cases hg : gpP xs with
  | false =>
    rw [rwV_no hg]
    go_enter Try.func53, Try.ntmps53
    go_wp2_with fail
    refine (isPrimeList_c _ _ _ _ xs hA Hm.out hn hmc).mono ?_
    rintro e w1 ⟨rfl, b1⟩
    have hA_1 := hA.below b1
    go_wp2
    go_ret2
    exact ⟨⟨_, rfl, OwnR.nil _ _⟩, b1⟩
  | true =>
    rw [rwV_yes hg, ← chR_zero]
    have Hgg := Lib.hid hg
    have Hg := Lib.hid hg
    go_enter Try.func53, Try.ntmps53
    go_wp2_with fail
    refine (isPrimeList_c _ _ _ _ xs hA Hm.out hn hmc).mono ?_
    rintro e w1 ⟨rfl, b1⟩
    have hA_1 := hA.below b1
    have HC := Lib.hid (choiceOfRank_c _ A m c xs hA_1 Hm.out Hgg.out 0 (by omega))
    go_wp2_with fail
    refine HC.out.mono ?_
    rintro e w5 ⟨⟨v5, rfl, o5⟩, b5⟩
    obtain ⟨A5, n5, c5, hv5, -, -⟩ := o5.form
    subst hv5
    have O5 := Lib.hid o5
    clear o5
    go_wp2
    go_ret2
    exact ⟨⟨_, rfl, OwnR.mono O5.out (b1).size⟩, (b1).trans (b5.mono (b1).size)⟩
set_option maxRecDepth 100000 in
set_option maxHeartbeats 1600000 in
theorem impl_MostCovered_c (w : World) (A : Option Addr) (m c : Nat) (xs : List Int) (hA : Il w A xs) (hm : m = xs.length) (hn : m ≤ 1048576) (hmc : m ≤ c) :
    Calls Try.prog 56 #[.slice A m c] w fun en w' => en = .returned (.tuple #[.int .i64 (mcV xs), .bool (gpP xs)]) ∧ Below w.heap.size w w' := by
  have Hm := Lib.hid hm
  clear hm
  cases hg : gpP xs with
  | false =>
    rw [mcV_no hg]
    go_enter Try.func56, Try.ntmps56
    go_wp2_with fail
    refine (isPrimeList_c _ _ _ _ xs hA Hm.out hn hmc).mono ?_
    rintro e w1 ⟨rfl, b1⟩
    have hA_1 := hA.below b1
    go_wp2
    go_ret2
    exact ⟨rfl, b1⟩
  | true =>
    rw [mcV_yes hg, mostCovered_is hg]
    have Hgg := Lib.hid hg
    have hP9 := (gpP_prod hg).2
    have HL := Lib.hid (fun k => lcM_le xs k)
    have HV := Lib.hid (fun rs => lcV_le rs)
    have HS : Hid (∀ k, lcM xs (k + 1) = max (lcM xs k) (lcV (chR xs k))) := fun k => rfl
    have HCh := Lib.hid (fun W (hb : Il W A xs) r hr => choiceOfRank_c W A m c xs hb Hm.out Hgg.out r hr)
    have HGd := Lib.hid (fun r => chR_good Hgg.out r)
    obtain ⟨P, hP⟩ : ∃ P, prodN xs = P := ⟨_, rfl⟩
    rw [hP] at hP9 ⊢
    have HP := Lib.hid hP
    clear hP
    have Hg := Lib.hid hg
    go_enter Try.func56, Try.ntmps56
    go_wp2_with fail
    refine (isPrimeList_c _ _ _ _ xs hA Hm.out hn hmc).mono ?_
    rintro e w1 ⟨rfl, b1⟩
    have hA_1 := hA.below b1
    have HCc := Lib.hid (countChoices_c _ A m c xs hA_1 Hm.out Hgg.out)
    go_wp2_with fail
    refine HCc.out.mono ?_
    rw [HP.out]
    rintro e w5 ⟨rfl, rfl⟩
    have HA1 := Lib.hid hA_1
    go_wp2
    go_loopw [4, 5, 11] (fun t _ i wr => ∃ k : Nat, k ≤ P ∧ i = .int .i64 (k : Int) ∧ t = .int .i64 (lcM xs k : Int) ∧ Below w.heap.size w wr) (fun _ _ i _ => P - (intOf i).toNat)
    case atStart => exact ⟨0, Nat.zero_le _, rfl, rfl, b1⟩
    case round =>
      obtain ⟨k, hk, rfl, rfl, hbel⟩ := hrel
      have hs := hbel.size
      by_cases hlt : k < P
      · have hki : (k : Int) < (P : Int) := by omega
        have HC := Lib.hid (HCh.out wr (hA.below hbel) k (by omega))
        have hlm := HL.out k
        have hs1 := HS.out k
        have hgd := HGd.out k
        obtain ⟨R, hR⟩ : ∃ R, chR xs k = R := ⟨_, rfl⟩
        rw [hR] at HC hs1 hgd
        have hlv := HV.out R
        have Hgd := Lib.hid hgd
        have Hs1 := Lib.hid hs1
        obtain ⟨V, hV⟩ : ∃ V, lcV R = V := ⟨_, rfl⟩
        rw [hV] at hlv Hs1
        have HVe := Lib.hid hV
        obtain ⟨M, hM⟩ : ∃ M, lcM xs k = M := ⟨_, rfl⟩
        rw [hM] at hlm Hs1 ⊢
        clear hR hs1 hgd hV hM
        go_wp2_with fail
        refine HC.out.mono ?_
        rintro e w6 ⟨⟨v6, rfl, o6⟩, b6⟩
        obtain ⟨A6, n6, c6, rfl, e6, _⟩ := o6.form
        have HLc := Lib.hid (lengthCovered_c w6 A6 n6 c6 R (Rl_of_own o6 e6) e6 Hgd.out)
        clear o6 e6
        have hb6 := hbel.trans (b6.mono hs)
        go_wp2_with fail
        refine HLc.out.mono ?_
        rw [HVe.out]
        rintro e w7 ⟨rfl, b7⟩
        have hb7 := hb6.trans (b7.mono hb6.size)
        go_wp2
        go_roundw
        case rel => exact ⟨k + 1, by omega, by go_num, by rw [Hs1.out]; go_num, hb7⟩
        case measure => simp [intOf]; omega
      · have Hk := Lib.hid (show k = P by omega)
        go_wp2
        go_ret2
        exact ⟨by rw [← Hk.out]; rfl, hbel⟩

set_option maxRecDepth 100000 in
set_option maxHeartbeats 1600000 in
theorem impl_CountCovers_c (w : World) (A : Option Addr) (m c : Nat) (xs : List Int) (hA : Il w A xs) (hm : m = xs.length) (hn : m ≤ 1048576) (hmc : m ≤ c) (n : Int) :
    Calls Try.prog 60 #[.slice A m c, .int .i64 n] w fun en w' => en = .returned (.tuple #[.int .i64 (ccvV xs n), .bool (gqO xs n)]) ∧ Below w.heap.size w w' := by
  have Hm := Lib.hid hm
  clear hm
  cases hg : gpP xs with
  | false =>
    have ho : gqO xs n = false := by simp [gqO, *]
    rw [ccvV_no ho, ho]
    clear ho
    go_enter Try.func60, Try.ntmps60
    go_wp2_with fail
    refine (isPrimeList_c _ _ _ _ xs hA Hm.out hn hmc).mono ?_
    rintro e w1 ⟨rfl, b1⟩
    have hA_1 := hA.below b1
    go_wp2
    go_ret2
    exact ⟨rfl, b1⟩
  | true =>
    cases hh : inB n 0 40 with
    | false =>
      have ho : gqO xs n = false := by simp [gqO, *]
      rw [ccvV_no ho, ho]
      clear ho
      go_enter Try.func60, Try.ntmps60
      go_wp2_with fail
      refine (isPrimeList_c _ _ _ _ xs hA Hm.out hn hmc).mono ?_
      rintro e w1 ⟨rfl, b1⟩
      have hA_1 := hA.below b1
      go_wp2_with fail
      refine (isLength_c _ _).mono ?_
      rintro e w2 ⟨rfl, rfl⟩
      go_wp2
      go_ret2
      exact ⟨rfl, b1⟩
    | true =>
      have ho : gqO xs n = true := by simp [gqO, *]
      obtain ⟨n1, n2⟩ := inB_true.1 hh
      obtain ⟨N, rfl⟩ := Int.eq_ofNat_of_zero_le n1
      rw [ccvV_yes ho, ho, cvA_count hg (by omega)]
      clear ho
      have Hgg := Lib.hid hg
      have hP9 := (gpP_prod hg).2
      have HCh := Lib.hid (fun W (hb : Il W A xs) r hr => choiceOfRank_c W A m c xs hb Hm.out Hgg.out r hr)
      have HGd := Lib.hid (fun r => chR_good Hgg.out r)
      have HV := Lib.hid (fun rs => lcV_le rs)
      have HL := Lib.hid (fun k => ckF_le xs N k)
      have HY := Lib.hid (fun k => @ckF_yes xs N k)
      have HN := Lib.hid (fun k => @ckF_no xs N k)
      obtain ⟨P, hP⟩ : ∃ P, prodN xs = P := ⟨_, rfl⟩
      rw [hP] at hP9 ⊢
      have HP := Lib.hid hP
      clear hP
      have Hg := Lib.hid hg
      have Hh := Lib.hid hh
      go_enter Try.func60, Try.ntmps60
      go_wp2_with fail
      refine (isPrimeList_c _ _ _ _ xs hA Hm.out hn hmc).mono ?_
      rintro e w1 ⟨rfl, b1⟩
      have hA_1 := hA.below b1
      go_wp2_with fail
      refine (isLength_c _ _).mono ?_
      rintro e w2 ⟨rfl, rfl⟩
      have HCc := Lib.hid (countChoices_c _ A m c xs hA_1 Hm.out Hgg.out)
      go_wp2_with fail
      refine HCc.out.mono ?_
      rw [HP.out]
      rintro e w5 ⟨rfl, rfl⟩
      go_wp2
      go_loopw [6, 7, 18] (fun t _ i wr => ∃ k : Nat, k ≤ P ∧ i = .int .i64 (k : Int) ∧ t = .int .i64 (ckF xs N k : Int) ∧ Below w.heap.size w wr) (fun _ _ i _ => P - (intOf i).toNat)
      case atStart => exact ⟨0, Nat.zero_le _, rfl, rfl, b1⟩
      case round =>
        obtain ⟨k, hk, rfl, rfl, hbel⟩ := hrel
        have hs := hbel.size
        by_cases hlt : k < P
        · have hki : (k : Int) < (P : Int) := by omega
          have HC := Lib.hid (HCh.out wr (hA.below hbel) k (by omega))
          have hlm := HL.out k
          have hy := HY.out k
          have hno := HN.out k
          have hgd := HGd.out k
          obtain ⟨R, hR⟩ : ∃ R, chR xs k = R := ⟨_, rfl⟩
          rw [hR] at HC hy hno hgd
          have hlv := HV.out R
          have Hgd := Lib.hid hgd
          obtain ⟨V, hV⟩ : ∃ V, lcV R = V := ⟨_, rfl⟩
          rw [hV] at hlv hy hno
          have HVe := Lib.hid hV
          obtain ⟨M, hM⟩ : ∃ M, ckF xs N k = M := ⟨_, rfl⟩
          rw [hM] at hlm hy hno ⊢
          have Hy := Lib.hid hy
          have Hno := Lib.hid hno
          clear hR hgd hV hM hy hno
          by_cases hnv : N ≤ V
          · have hnvi : (N : Int) ≤ (V : Int) := by omega
            have HT := Lib.hid (Hy.out hnv)
            go_wp2_with fail
            refine HC.out.mono ?_
            rintro e w6 ⟨⟨v6, rfl, o6⟩, b6⟩
            obtain ⟨A6, n6, c6, rfl, e6, -⟩ := o6.form
            have HLc := Lib.hid (lengthCovered_c w6 A6 n6 c6 R (Rl_of_own o6 e6) e6 Hgd.out)
            clear o6 e6
            have hb6 := hbel.trans (b6.mono hs)
            go_wp2_with fail
            refine HLc.out.mono ?_
            rw [HVe.out]
            rintro e w7 ⟨rfl, b7⟩
            have hb7 := hb6.trans (b7.mono hb6.size)
            go_wp2
            go_roundw
            case rel => exact ⟨k + 1, by omega, by go_num, by rw [HT.out]; go_num, hb7⟩
            case measure => simp [intOf]; omega
          · have hnvi : (V : Int) < (N : Int) := by omega
            have HT := Lib.hid (Hno.out (by omega))
            go_wp2_with fail
            refine HC.out.mono ?_
            rintro e w6 ⟨⟨v6, rfl, o6⟩, b6⟩
            obtain ⟨A6, n6, c6, rfl, e6, -⟩ := o6.form
            have HLc := Lib.hid (lengthCovered_c w6 A6 n6 c6 R (Rl_of_own o6 e6) e6 Hgd.out)
            clear o6 e6
            have hb6 := hbel.trans (b6.mono hs)
            go_wp2_with fail
            refine HLc.out.mono ?_
            rw [HVe.out]
            rintro e w7 ⟨rfl, b7⟩
            have hb7 := hb6.trans (b7.mono hb6.size)
            go_wp2
            go_roundw
            case rel => exact ⟨k + 1, by omega, by go_num, by rw [HT.out], hb7⟩
            case measure => simp [intOf]; omega
        · have Hk := Lib.hid (show k = P by omega)
          go_wp2
          go_ret2
          exact ⟨by rw [← Hk.out]; rfl, hbel⟩
set_option maxRecDepth 100000 in
set_option maxHeartbeats 1600000 in
theorem impl_FirstCover_c (w : World) (A : Option Addr) (m c : Nat) (xs : List Int) (hA : Il w A xs) (hm : m = xs.length) (hn : m ≤ 1048576) (hmc : m ≤ c) (n : Int) :
    Calls Try.prog 58 #[.slice A m c, .int .i64 n] w fun en w' => (∃ v, en = .returned (.tuple #[v, .bool (fcO xs n)]) ∧ OwnR w' w.heap.size v (fcV xs n)) ∧ Below w.heap.size w w' := by
  have Hm := Lib.hid hm
  clear hm
  cases hg : gpP xs with
  | false =>
    have ho : fcO xs n = false := by simp [fcO, gqO, *]
    rw [fcV_no ho, ho]
    clear ho
    go_enter Try.func58, Try.ntmps58
    go_wp2_with fail
    refine (isPrimeList_c _ _ _ _ xs hA Hm.out hn hmc).mono ?_
    rintro e w1 ⟨rfl, b1⟩
    have hA_1 := hA.below b1
    go_wp2
    go_ret2
    exact ⟨⟨_, rfl, OwnR.nil _ _⟩, b1⟩
  | true =>
    cases hh : inB n 0 40 with
    | false =>
      have ho : fcO xs n = false := by simp [fcO, gqO, *]
      rw [fcV_no ho, ho]
      clear ho
      go_enter Try.func58, Try.ntmps58
      go_wp2_with fail
      refine (isPrimeList_c _ _ _ _ xs hA Hm.out hn hmc).mono ?_
      rintro e w1 ⟨rfl, b1⟩
      have hA_1 := hA.below b1
      go_wp2_with fail
      refine (isLength_c _ _).mono ?_
      rintro e w2 ⟨rfl, rfl⟩
      go_wp2
      go_ret2
      exact ⟨⟨_, rfl, OwnR.nil _ _⟩, b1⟩
    | true =>
      have hq : gqO xs n = true := by simp [gqO, *]
      obtain ⟨n1, n2⟩ := inB_true.1 hh
      obtain ⟨N, rfl⟩ := Int.eq_ofNat_of_zero_le n1
      have HNo : Hid ((∀ r, r < prodN xs → ¬ N ≤ lcV (chR xs r)) → fcO xs (N : Int) = false) := fun h => by rw [fcO, Int.toNat_natCast, cvA_none hg (by omega) h]; simp
      have HYes : Hid (∀ r, r < prodN xs → (∀ i, i < r → ¬ N ≤ lcV (chR xs i)) → N ≤ lcV (chR xs r) → fcO xs (N : Int) = true ∧ fcV xs (N : Int) = chR xs r) := fun r hr h1 h2 => by
        obtain ⟨g1, g2⟩ := cvA_first hg (by omega) hr h1 h2
        have ho : fcO xs (N : Int) = true := by rw [fcO, Int.toNat_natCast, hq, decide_eq_true g1]; rfl
        exact ⟨ho, by rw [fcV_yes ho, g2]⟩
      clear hq
      have Hgg := Lib.hid hg
      have hP9 := (gpP_prod hg).2
      have HCh := Lib.hid (fun W (hb : Il W A xs) r hr => choiceOfRank_c W A m c xs hb Hm.out Hgg.out r hr)
      have HGd := Lib.hid (fun r => chR_good Hgg.out r)
      have HV := Lib.hid (fun rs => lcV_le rs)
      obtain ⟨P, hP⟩ : ∃ P, prodN xs = P := ⟨_, rfl⟩
      rw [hP] at hP9 HNo HYes
      have HP := Lib.hid hP
      clear hP
      have Hg := Lib.hid hg
      have Hh := Lib.hid hh
      go_enter Try.func58, Try.ntmps58
      go_wp2_with fail
      refine (isPrimeList_c _ _ _ _ xs hA Hm.out hn hmc).mono ?_
      rintro e w1 ⟨rfl, b1⟩
      have hA_1 := hA.below b1
      go_wp2_with fail
      refine (isLength_c _ _).mono ?_
      rintro e w2 ⟨rfl, rfl⟩
      have HCc := Lib.hid (countChoices_c _ A m c xs hA_1 Hm.out Hgg.out)
      go_wp2_with fail
      refine HCc.out.mono ?_
      rw [HP.out]
      rintro e w5 ⟨rfl, rfl⟩
      go_wp2
      go_loopw [6, 7, 18] (fun _ _ i wr => ∃ k : Nat, k ≤ P ∧ i = .int .i64 (k : Int) ∧ (∀ j, j < k → ¬ N ≤ lcV (chR xs j)) ∧ Below w.heap.size w wr) (fun _ _ i _ => P - (intOf i).toNat)
      case atStart => exact ⟨0, Nat.zero_le _, rfl, fun j hj => by omega, b1⟩
      case round =>
        obtain ⟨k, hk, rfl, hall, hbel⟩ := hrel
        have Hall := Lib.hid hall
        have hs := hbel.size
        clear hall
        by_cases hlt : k < P
        · have hki : (k : Int) < (P : Int) := by omega
          have HC := Lib.hid (HCh.out wr (hA.below hbel) k (by omega))
          have hgd := HGd.out k
          have hy := HYes.out k hlt Hall.out
          have hall2 := fun (h : ¬ N ≤ lcV (chR xs k)) => show ∀ j, j < k + 1 → ¬ N ≤ lcV (chR xs j) from fun j hj => by
            rcases Nat.lt_succ_iff_lt_or_eq.1 hj with h1 | h1
            · exact Hall.out j h1
            · rw [h1]; exact h
          obtain ⟨R, hR⟩ : ∃ R, chR xs k = R := ⟨_, rfl⟩
          rw [hR] at HC hy hgd hall2
          have hlv := HV.out R
          have Hgd := Lib.hid hgd
          obtain ⟨V, hV⟩ : ∃ V, lcV R = V := ⟨_, rfl⟩
          rw [hV] at hlv hy hall2
          have HVe := Lib.hid hV
          have Hy := Lib.hid hy
          have Hall2 := Lib.hid hall2
          clear hR hgd hV hy hall2
          by_cases hnv : N ≤ V
          · have hnvi : (N : Int) ≤ (V : Int) := by omega
            have HT := Lib.hid (Hy.out hnv)
            go_wp2_with fail
            refine HC.out.mono ?_
            rintro e w6 ⟨⟨v6, rfl, o6⟩, b6⟩
            obtain ⟨A6, n6, c6, rfl, e6, -⟩ := o6.form
            have HLc := Lib.hid (lengthCovered_c w6 A6 n6 c6 R (Rl_of_own o6 e6) e6 Hgd.out)
            have O6 := Lib.hid o6
            clear o6 e6
            have hb6 := hbel.trans (b6.mono hs)
            have hs6 := b6.size
            go_wp2_with fail
            refine HLc.out.mono ?_
            rw [HVe.out]
            rintro e w7 ⟨rfl, b7⟩
            have hb7 := hb6.trans (b7.mono hb6.size)
            go_wp2
            go_ret2
            exact ⟨⟨_, by rw [HT.out.1]; rfl, by rw [HT.out.2]; exact OwnR.mono (OwnR.below O6.out b7) hbel.size⟩, hb7⟩
          · have hnvi : (V : Int) < (N : Int) := by omega
            have HT := Lib.hid (Hall2.out hnv)
            go_wp2_with fail
            refine HC.out.mono ?_
            rintro e w6 ⟨⟨v6, rfl, o6⟩, b6⟩
            obtain ⟨A6, n6, c6, rfl, e6, -⟩ := o6.form
            have HLc := Lib.hid (lengthCovered_c w6 A6 n6 c6 R (Rl_of_own o6 e6) e6 Hgd.out)
            clear o6 e6
            have hb6 := hbel.trans (b6.mono hs)
            go_wp2_with fail
            refine HLc.out.mono ?_
            rw [HVe.out]
            rintro e w7 ⟨rfl, b7⟩
            have hb7 := hb6.trans (b7.mono hb6.size)
            go_wp2
            go_roundw
            case rel => exact ⟨k + 1, by omega, by go_num, HT.out, hb7⟩
            case measure => simp [intOf]; omega
        · have HT := Lib.hid (HNo.out fun r hr => Hall.out r (by omega))
          go_wp2
          go_ret2
          exact ⟨⟨_, by rw [HT.out]; rfl, by rw [fcV_no HT.out]; exact OwnR.nil _ _⟩, hbel⟩

end Go.Proofs.Ytoapidcbmlnjcaa
