import Derived.Test.YtaapfapejekkfaaS0
import Derived.Test.YtaapfapejekkfaaB5
import Derived.IntWalk
namespace Go.Proofs.Ytaapfapejekkfaa
open Go.RowKit
set_option linter.unusedVariables false
set_option linter.unusedSimpArgs false

theorem whB_no {rs : List (Int × Int)} (h : goodL rs = false) : whB rs = false := by rw [whB, h]; rfl
theorem whB_big {rs : List (Int × Int)} (h : ¬ (1 ≤ perF rs ∧ perF rs ≤ 5000)) : whB rs = false := by rw [whB, decide_eq_false h, Bool.and_false, Bool.false_and]
theorem whB_none {rs : List (Int × Int)} (h : anyLeft rs (perF rs).toNat = false) : whB rs = false := by rw [whB, h, Bool.and_false]
theorem whB_some {rs : List (Int × Int)} (h : goodL rs = true) (h2 : 1 ≤ perF rs ∧ perF rs ≤ 5000) (h3 : anyLeft rs (perF rs).toNat = true) : whB rs = true := by rw [whB, h, decide_eq_true h2, h3]; rfl

set_option maxRecDepth 100000 in
set_option maxHeartbeats 800000 in
theorem whPeriod_c (A : Option Addr) (m c : Nat) (rs : List (Int × Int)) (w : World) (hA : Rl w A rs) (hm : m = rs.length) (hn : m ≤ 1048576) :
    Calls Try.prog 201 #[.slice A m c] w fun en w' => en = .returned (.int .i64 (whP rs : Int)) ∧ Below w.heap.size w w' := by
  have Hm := Lib.hid hm
  clear hm
  cases hg : goodL rs with
  | false =>
    rw [whP_no (whB_no hg)]
    go_enter Try.func201, Try.ntmps201
    go_wp2_with fail
    refine (good_c _ _ _ rs _ hA Hm.out hn).mono ?_
    rintro e w1 ⟨rfl, b1⟩
    go_wp2
    go_ret
    exact ⟨rfl, b1⟩
  | true =>
    obtain ⟨q0, q1⟩ := perF_le hg
    obtain ⟨p, hp⟩ := Int.eq_ofNat_of_zero_le q0
    have Hg := Lib.hid hg
    have Hp := Lib.hid hp
    clear hp q0 q1
    by_cases hbig : p ≤ 5000
    · have hpb : (p : Int) ≤ 5000 := by omega
      obtain ⟨T, hT⟩ : ∃ T, (whP rs : Int) = T := ⟨_, rfl⟩
      rw [hT]
      have HT := Lib.hid hT
      clear hT
      go_enter Try.func201, Try.ntmps201
      go_wp2_with fail
      refine (good_c _ _ _ rs _ hA Hm.out hn).mono ?_
      rintro e w1 ⟨rfl, b1⟩
      have R1 := hA.below b1
      go_wp2_with fail
      refine (siPeriod_c _ _ _ _ rs R1 Hm.out Hg.out).mono ?_
      rw [Hp.out]
      rintro e w2 ⟨rfl, b2⟩
      have R2 := R1.below b2
      have bb2 := b1.trans (b2.mono b1.size)
      go_wp2_with fail
      go_loopw [4] (fun i wr => ∃ k : Nat, k ≤ p ∧ i = .int .i64 (k : Int) ∧ (∀ j, j < k → leftF rs ((j : Nat) : Int) = false) ∧ Below w2.heap.size w2 wr) (fun i _ => p - (intOf i).toNat)
      case atStart => exact ⟨0, Nat.zero_le _, rfl, fun j hj => by omega, Below.refl _ _⟩
      case round =>
        obtain ⟨k, hk, rfl, hno, hbel⟩ := hrel
        have Hno := Lib.hid hno
        clear hno
        have R3 := R2.below hbel
        by_cases hlt : k < p
        · cases hl : leftF rs (k : Int) with
          | true =>
            have hT2 : T = (p : Int) := by
              rw [← HT.out, whP_yes (whB_some Hg.out (by rw [Hp.out]; omega) (anyLeft_iff.2 ⟨k, by rw [Hp.out]; omega, hl⟩)), Hp.out]
              omega
            have HT2 := Lib.hid hT2
            clear hT2
            go_wp2_with fail
            refine (siLeft_c _ _ _ rs _ _ R3 Hm.out Hg.out (by omega) (by omega)).mono ?_
            rw [hl]
            rintro e w3 ⟨rfl, b3⟩
            go_wp2
            go_ret
            exact ⟨by rw [HT2.out]; rfl, bb2.trans ((hbel.trans (b3.mono hbel.size)).mono bb2.size)⟩
          | false =>
            have Hno2 := Lib.hid (fun j (hj : j < k + 1) => show leftF rs ((j : Nat) : Int) = false by
              rcases Nat.lt_succ_iff_lt_or_eq.1 hj with h | h
              · exact Hno.out j h
              · rw [h]; exact hl)
            go_wp2_with fail
            refine (siLeft_c _ _ _ rs _ _ R3 Hm.out Hg.out (by omega) (by omega)).mono ?_
            rw [hl]
            rintro e w3 ⟨rfl, b3⟩
            go_wp2
            go_roundw
            case rel => exact ⟨k + 1, by omega, by go_num, Hno2.out, hbel.trans (b3.mono hbel.size)⟩
            case measure => simp [intOf]; omega
        · have hT2 : T = 0 := by
            rw [← HT.out, whP_no (whB_none ?_)]
            · rfl
            · rw [Hp.out, Bool.eq_false_iff]
              intro h
              obtain ⟨j, h1, h2⟩ := anyLeft_iff.1 h
              rw [Hno.out j (by omega)] at h2
              cases h2
          have HT2 := Lib.hid hT2
          clear hT2
          go_wp2
          go_ret
          exact ⟨by rw [HT2.out]; rfl, bb2.trans (hbel.mono bb2.size)⟩
    · rw [whP_no (whB_big (by rw [Hp.out]; omega))]
      have hpb : (5000 : Int) < (p : Int) := by omega
      go_enter Try.func201, Try.ntmps201
      go_wp2_with fail
      refine (good_c _ _ _ rs _ hA Hm.out hn).mono ?_
      rintro e w1 ⟨rfl, b1⟩
      have R1 := hA.below b1
      go_wp2_with fail
      refine (siPeriod_c _ _ _ _ rs R1 Hm.out Hg.out).mono ?_
      rw [Hp.out]
      rintro e w2 ⟨rfl, b2⟩
      go_wp2
      go_ret
      exact ⟨rfl, b1.trans (b2.mono b1.size)⟩

set_option maxRecDepth 100000 in
set_option maxHeartbeats 800000 in
theorem whSpokes_c (w : World) (A : Option Addr) (m c : Nat) (rs : List (Int × Int)) (hA : Rl w A rs) (hm : m = rs.length) (hg : goodL rs = true) (M : Nat) (hM : M ≤ 100000) :
    Calls Try.prog 203 #[.slice A m c, .int .i64 (M : Int)] w fun en w' => (∃ v, en = .returned v ∧ OwnI w' w.heap.size v (upF (leftF rs) M)) ∧ Below w.heap.size w w' := by
  have Hm := Lib.hid hm
  have Hg := Lib.hid hg
  clear hm hg
  go_enter Try.func203, Try.ntmps203
  go_wp2
  go_loopw [5, 6] (fun v i wr => ∃ k : Nat, k ≤ M ∧ i = .int .i64 ((k : Int) + 1) ∧ OwnI wr w.heap.size v (upF (leftF rs) k) ∧ Below w.heap.size w wr) (fun _ i _ => M + 1 - (intOf i).toNat)
  case atStart => exact ⟨0, Nat.zero_le _, rfl, World.ownsRow_nil _ _ _ _, Below.refl _ _⟩
  case round =>
    rename_i v
    obtain ⟨k, hk, rfl, hown, hbel⟩ := hrel
    have Hown := Lib.hid hown
    clear hown
    have hs := hbel.size
    have hR := hA.below hbel
    by_cases hlt : k < M
    · have hul := upF_len (leftF rs) k
      cases hl : leftF rs ((k : Int) + 1) with
      | true =>
        have Hy := Lib.hid (upF_yes hl)
        go_wp2_with fail
        refine (siLeft_c _ _ _ rs _ _ hR Hm.out Hg.out (by omega) (by omega)).mono ?_
        rintro e w1 ⟨rfl, b1⟩
        have hown1 := OwnI.below Hown.out b1
        have hs1 := b1.size
        go_wp2_with (at_builtin; refine wp_app_int _ rfl _ _ rfl w.heap.size _ _ rfl hown1 _ rfl (by omega) (by omega) ?_; intro v' w2 hown2 b2)
        go_roundw
        case rel => exact ⟨k + 1, by omega, by go_num, by rw [Hy.out]; exact hown2, (hbel.trans (b1.mono hs)).trans b2⟩
        case measure => simp [intOf]; omega
      | false =>
        have Hy := Lib.hid (upF_no hl)
        go_wp2_with fail
        refine (siLeft_c _ _ _ rs _ _ hR Hm.out Hg.out (by omega) (by omega)).mono ?_
        rintro e w1 ⟨rfl, b1⟩
        go_wp2
        go_roundw
        case rel => exact ⟨k + 1, by omega, by go_num, by rw [Hy.out]; exact OwnI.below Hown.out b1, hbel.trans (b1.mono hs)⟩
        case measure => simp [intOf]; omega
    · go_wp2
      go_ret
      have hkM : k = M := by omega
      subst hkM
      exact ⟨⟨_, rfl, Hown.out⟩, hbel⟩

set_option maxRecDepth 100000 in
set_option maxHeartbeats 800000 in
theorem whSteps_c (w : World) (A : Option Addr) (m c : Nat) (rs : List (Int × Int)) (hA : Rl w A rs) (hm : m = rs.length) (hw : whB rs = true) :
    Calls Try.prog 208 #[.slice A m c, .int .i64 (whP rs : Int)] w fun en w' => (∃ v, en = .returned v ∧ OwnI w' w.heap.size v (stA rs)) ∧ Below w.heap.size w w' := by
  have hp9 := (whB_parts hw).2.2.2.2.2.1
  have hg := (whB_parts hw).1
  have hsp := spk_len rs
  have hpos := spk_pos hw
  have Hw := Lib.hid hw
  clear hw
  obtain ⟨S, hS⟩ : ∃ S, (spk rs).length = S := ⟨_, rfl⟩
  have HS := Lib.hid hS
  rw [hS] at hsp hpos
  clear hS
  obtain ⟨P, hP⟩ : ∃ P, whP rs = P := ⟨_, rfl⟩
  have HP := Lib.hid hP
  have hsk := whSpokes_c w A m c rs hA hm hg (whP rs) (by omega)
  rw [show upF (leftF rs) (whP rs) = spk rs from rfl] at hsk
  rw [hP] at hsk hsp hp9 ⊢
  have Hsk := Lib.hid hsk
  clear hP hsk hg hm
  go_enter Try.func208, Try.ntmps208
  go_wp2_with fail
  refine Hsk.out.mono ?_
  rintro e w2 ⟨⟨v2, rfl, o2⟩, b2⟩
  have hs2 := b2.size
  obtain ⟨A2, c2, rfl⟩ := o2.shape
  have Hat := Lib.hid (fun k (hk : k < S) => by
    have h := OwnI.cell o2 (j := k) (by rw [HS.out]; exact hk)
    exact h)
  rw [HS.out]
  obtain ⟨g, hgA, _, hg2, hc00⟩ := Hat.out 0 hpos
  subst hgA
  have hc0 : w2.cell? ⟨g, 0, none⟩ = some (.int .i64 (ivL (spk rs) 0)) := hc00
  have hx0 := spk_at (rs := rs) (k := 0) (by rw [HS.out]; exact hpos)
  rw [HP.out] at hx0
  clear hc00 o2
  go_wp2_with fail
  go_loopw [6, 15] (fun v i wr => ∃ k : Nat, k ≤ S ∧ i = .int .i64 (k : Int) ∧ OwnI wr w2.heap.size v (stL rs k) ∧ Below w2.heap.size w2 wr) (fun _ i _ => S - (intOf i).toNat)
  case atStart => exact ⟨0, Nat.zero_le _, rfl, World.ownsRow_nil _ _ _ _, Below.refl _ _⟩
  case round =>
    rename_i v
    obtain ⟨k, hk, rfl, hown, hbel⟩ := hrel
    have Hown := Lib.hid hown
    clear hown
    have hs := hbel.size
    by_cases hlt : k < S
    · have cell : ∀ j, j < S → wr.cell? ⟨g, j, none⟩ = some (.int .i64 (ivL (spk rs) j)) := fun j hj => by
        obtain ⟨g', e', _, _, hc⟩ := Hat.out j hj
        injection e' with e'
        injection e' with e'
        subst e'
        exact (hbel.cell (p := ⟨g, j, none⟩) hg2).trans (show w2.cell? ⟨g, j, none⟩ = some (.int .i64 (ivL (spk rs) j)) from hc)
      have hck := cell k hlt
      have hc0' := (hbel.cell (p := ⟨g, 0, none⟩) hg2).trans hc0
      have hxk := spk_at (rs := rs) (k := k) (by rw [HS.out]; exact hlt)
      rw [HP.out] at hxk
      have Hl := Lib.hid (show (stL rs k).length ≤ 1048576 by rw [stL_len]; omega)
      have hki : (k : Int) < (S : Int) := by omega
      by_cases hnx : k + 1 < S
      · have hcn := cell (k + 1) hnx
        have hxn := spk_at (rs := rs) (k := k + 1) (by rw [HS.out]; exact hnx)
        rw [HP.out] at hxn
        have Hy : Hid (stL rs (k + 1) = stL rs k ++ [ivL (spk rs) (k + 1) - ivL (spk rs) k]) := by
          show _ = _
          rw [stL_succ, stI, nxS, if_pos (by rw [HS.out]; exact hnx)]
        have hni : (k : Int) + 1 < (S : Int) := by omega
        clear cell
        go_wp2_with (at_builtin; refine wp_app_int _ rfl _ _ rfl w2.heap.size _ _ rfl Hown.out _ rfl Hl.out hs ?_; intro v' w4 hown4 b4)
        go_roundw
        case rel => exact ⟨k + 1, by omega, by go_num, by rw [Hy.out]; exact hown4, hbel.trans b4⟩
        case measure => simp [intOf]; omega
      · have Hy : Hid (stL rs (k + 1) = stL rs k ++ [ivL (spk rs) 0 + (P : Int) - ivL (spk rs) k]) := by
          show _ = _
          rw [stL_succ, stI, nxS, if_neg (by rw [HS.out]; exact hnx), HP.out]
        have hni : (S : Int) ≤ (k : Int) + 1 := by omega
        clear cell
        go_wp2_with (at_builtin; refine wp_app_int _ rfl _ _ rfl w2.heap.size _ _ rfl Hown.out _ rfl Hl.out hs ?_; intro v' w4 hown4 b4)
        go_roundw
        case rel => exact ⟨k + 1, by omega, by go_num, by rw [Hy.out]; exact hown4, hbel.trans b4⟩
        case measure => simp [intOf]; omega
    · have Hk : Hid (stL rs k = stA rs) := by show _ = _; rw [stA, HS.out, show k = S by omega]
      go_wp2
      go_ret
      exact ⟨⟨_, rfl, by rw [← Hk.out]; exact OwnI.mono Hown.out hs2⟩, b2.trans (hbel.mono hs2)⟩

end Go.Proofs.Ytaapfapejekkfaa
