import Derived.Test.YtaapfapejekkfaaS4
import Derived.Test.YtaapfapejekkfaaN1
import Derived.Test.YtaapfapejekkfaaM1
namespace Go.Proofs.Ytaapfapejekkfaa
open Go.RowKit
set_option linter.unusedVariables false
set_option linter.unusedSimpArgs false

/-- The different ones of the first k steps, in their order. -/
def szF (rs : List (Int × Int)) : Nat → List Int
  | 0 => []
  | k + 1 => if hasF (szF rs k) (ivL (stA rs) k) then szF rs k else putF (szF rs k) (ivL (stA rs) k)
theorem szF_yes {rs : List (Int × Int)} {k : Nat} (h : hasF (szF rs k) (ivL (stA rs) k) = true) : szF rs (k + 1) = szF rs k := by rw [szF, if_pos h]
theorem szF_no {rs : List (Int × Int)} {k : Nat} (h : hasF (szF rs k) (ivL (stA rs) k) = false) : szF rs (k + 1) = putF (szF rs k) (ivL (stA rs) k) := by rw [szF, if_neg (by rw [h]; exact Bool.false_ne_true)]
theorem szF_len (rs : List (Int × Int)) : ∀ k, (szF rs k).length ≤ k
  | 0 => Nat.le_refl _
  | k + 1 => by
    have h := szF_len rs k
    rw [szF]
    split
    · omega
    · have := putF_len (szF rs k) (ivL (stA rs) k)
      omega
def szV (rs : List (Int × Int)) : List Int := if whB rs then szF rs (stA rs).length else []
theorem szV_no {rs : List (Int × Int)} (h : whB rs = false) : szV rs = [] := by rw [szV, h]; rfl
theorem szV_yes {rs : List (Int × Int)} (h : whB rs = true) : szV rs = szF rs (stA rs).length := by rw [szV, h]; rfl
theorem szV_len (rs : List (Int × Int)) : (szV rs).length ≤ 5000 := by
  cases h : whB rs with
  | false => rw [szV_no h]; simp
  | true =>
    have h1 := szF_len rs (stA rs).length
    have h2 := spk_len rs
    have h3 := (whB_parts h).2.2.2.2.2.1
    rw [stA_len] at h1
    rw [szV_yes h, stA_len]
    omega

set_option maxRecDepth 100000 in
set_option maxHeartbeats 1600000 in
theorem spec_StepSizes_c (w : World) (A : Option Addr) (m c : Nat) (rs : List (Int × Int)) (hA : Rl w A rs) (hm : m = rs.length) (hn : m ≤ 1048576) :
    Calls Try.prog 95 #[.slice A m c] w fun en w' => (∃ v, en = .returned (.tuple #[v, .bool (whB rs)]) ∧ OwnI w' w.heap.size v (szV rs)) ∧ Below w.heap.size w w' := by
  have Hm := Lib.hid hm
  clear hm
  cases hg : whB rs with
  | false =>
    rw [szV_no hg]
    have hp0 := whP_no hg
    go_enter Try.func95, Try.ntmps95
    go_wp2_with fail
    refine (whPeriod_c _ _ _ rs _ hA Hm.out hn).mono ?_
    rintro e w1 ⟨rfl, b1⟩
    have hA_1 := hA.below b1
    go_wp2
    go_ret2
    exact ⟨⟨_, rfl, OwnI.nil _ _⟩, b1⟩
  | true =>
    rw [szV_yes hg]
    have hp1 : (((whP rs : Nat) : Int) == 0) = false := by have := (whB_parts hg).2.2.2.2.1; exact beq_eq_false_iff_ne.2 (by omega)
    have hp5 := (whB_parts hg).2.2.2.2.2.1
    have hgl := (whB_parts hg).1
    have Hgl := Lib.hid hgl
    have hpos := spk_pos hg
    have hsl := spk_len rs
    rw [← stA_len] at hpos hsl
    have Hg := Lib.hid hg
    go_enter Try.func95, Try.ntmps95
    go_wp2_with fail
    refine (whPeriod_c _ _ _ rs _ hA Hm.out hn).mono ?_
    rintro e w1 ⟨rfl, b1⟩
    have hA_1 := hA.below b1
    go_wp2_with fail
    refine (whSteps_c _ _ _ _ rs hA_1 Hm.out Hg.out).mono ?_
    rintro e w2 ⟨⟨v2, rfl, o2⟩, b2⟩
    have hA_2 := hA_1.below b2
    have bb2 := b1.trans (b2.mono b1.size)
    have hs2 := (bb2).size
    obtain ⟨g, c2, rfl, _, hg2, hc⟩ := own_cells o2 hpos
    have Hc := Lib.hid hc
    clear hc o2
    go_wp2_with fail
    go_loopw [5, 16] (fun v i wr => ∃ k : Nat, k ≤ (stA rs).length ∧ i = .int .i64 (k : Int) ∧ OwnI wr w2.heap.size v (szF rs k) ∧ Below w2.heap.size w2 wr) (fun _ i _ => (stA rs).length - (intOf i).toNat)
    case atStart => exact ⟨0, Nat.zero_le _, rfl, OwnI.nil _ _, Below.refl _ _⟩
    case round =>
      rename_i v
      obtain ⟨k, hk, rfl, hown, hbel⟩ := hrel
      have hs := hbel.size
      have Hl := Lib.hid (szF_len rs k)
      obtain ⟨A3, c3, rfl⟩ := hown.shape
      have Hil := Lib.hid (Il_of_own hown)
      have Hown := Lib.hid hown
      clear hown
      by_cases hlt : k < (stA rs).length
      · have hck := (hbel.cell (p := ⟨g, k, none⟩) hg2).trans (Hc.out k hlt)
        cases ht : hasF (szF rs k) (ivL (stA rs) k) with
        | true =>
          have Hy := Lib.hid (szF_yes ht)
          go_wp2_with fail
          refine (l1Has_c _ _ _ _ _ Hil.out rfl (by have := Hl.out; omega) _).mono ?_
          rw [ht]
          rintro e w5 ⟨rfl, rfl⟩
          go_wp2
          go_roundw
          case rel => exact ⟨k + 1, by omega, by go_num, by rw [Hy.out]; exact Hown.out, hbel⟩
          case measure => simp [intOf]; omega
        | false =>
          have Hy := Lib.hid (szF_no ht)
          go_wp2_with fail
          refine (l1Has_c _ _ _ _ _ Hil.out rfl (by have := Hl.out; omega) _).mono ?_
          rw [ht]
          rintro e w5 ⟨rfl, rfl⟩
          go_wp2_with fail
          refine (l1Put_c _ _ _ _ Hown.out hs (by have := Hl.out; omega) _).mono ?_
          rintro e w6 ⟨⟨v6, rfl, o6⟩, b6⟩
          go_wp2
          go_roundw
          case rel => exact ⟨k + 1, by omega, by go_num, by rw [Hy.out]; exact o6, hbel.trans (b6.mono hs)⟩
          case measure => simp [intOf]; omega
      · have Hk2 := Lib.hid (show k = (stA rs).length by omega)
        go_wp2
        go_ret2
        exact ⟨⟨_, rfl, OwnI.mono (by rw [← Hk2.out]; exact Hown.out) hs2⟩, (bb2).trans (hbel.mono (bb2).size)⟩

end Go.Proofs.Ytaapfapejekkfaa
