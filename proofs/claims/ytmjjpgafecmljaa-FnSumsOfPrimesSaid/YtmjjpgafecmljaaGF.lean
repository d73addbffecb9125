import Derived.Test.YtmjjpgafecmljaaGE
namespace Go.Proofs.Ytmjjpgafecmljaa
open Go.RowKit Go.Maps
set_option linter.unusedVariables false
set_option linter.unusedSimpArgs false

def suOk (m b : Int) : Bool := inB m 0 600 && inB b 1 600
def suA (m b : Int) : List Int := if suOk m b then flF (fun n => smB n b) 1 m.toNat else []
theorem suA_no {m b : Int} (h : suOk m b = false) : suA m b = [] := by rw [suA, h]; rfl
theorem suA_yes {m : Nat} {b : Int} (h : suOk (m : Int) b = true) : suA (m : Int) b = flF (fun n => smB n b) 1 m := by rw [suA, h, Int.toNat_natCast]; rfl
theorem suA_len (m b : Int) : (suA m b).length ≤ 1048576 := by
  cases h : suOk m b with
  | false => rw [suA_no h]; exact Nat.zero_le _
  | true =>
    rw [suA, h, if_pos rfl]
    have := flF_len (fun n => smB n b) 1 m.toNat
    rw [suOk, Bool.and_eq_true] at h
    have := inB_true.1 h.1
    omega

set_option maxRecDepth 100000 in
set_option maxHeartbeats 800000 in
theorem spec_SmoothUpTo_c (w : World) (m b : Int) :
    Calls Try.prog 25 #[.int .i64 m, .int .i64 b] w fun en w' => (∃ v, en = .returned (.tuple #[v, .bool (suOk m b)]) ∧ OwnI w' w.heap.size v (suA m b)) ∧ Below w.heap.size w w' := by
  cases hg : inB m 0 600 with
  | false =>
    have ho : suOk m b = false := by first | (simp [suOk, *]; done) | (simp [suOk, inB]; omega)
    rw [suA_no ho, ho]
    clear ho
    go_enter Try.func25, Try.ntmps25
    go_wp2_with fail
    refine (l1In_c _ _ _ _).mono ?_
    rintro e w1 ⟨rfl, rfl⟩
    go_wp2
    go_ret2
    exact ⟨⟨_, rfl, OwnI.nil _ _⟩, (Below.refl _ _)⟩
  | true =>
    cases hh : inB b 1 600 with
    | false =>
      have ho : suOk m b = false := by first | (simp [suOk, *]; done) | (simp [suOk, inB]; omega)
      rw [suA_no ho, ho]
      clear ho
      go_enter Try.func25, Try.ntmps25
      go_wp2_with fail
      refine (l1In_c _ _ _ _).mono ?_
      rintro e w1 ⟨rfl, rfl⟩
      go_wp2_with fail
      refine (l1In_c _ _ _ _).mono ?_
      rintro e w2 ⟨rfl, rfl⟩
      go_wp2
      go_ret2
      exact ⟨⟨_, rfl, OwnI.nil _ _⟩, (Below.refl _ _)⟩
    | true =>
      have ho : suOk m b = true := by first | (simp [suOk, *]; done) | (simp [suOk, inB, *]; done) | (rw [suOk, hg, inB_true.2 ⟨hh, hh2⟩]; rfl)
      obtain ⟨n1, n2⟩ := inB_true.1 hg
      obtain ⟨M, rfl⟩ := Int.eq_ofNat_of_zero_le n1
      rw [suA_yes ho, ho]
      clear ho
      have hM : M ≤ 600 := by omega
      clear n1 n2
      have Hg := Lib.hid hg
      have Hh := Lib.hid hh
      go_enter Try.func25, Try.ntmps25
      go_wp2_with fail
      refine (l1In_c _ _ _ _).mono ?_
      rintro e w1 ⟨rfl, rfl⟩
      go_wp2_with fail
      refine (l1In_c _ _ _ _).mono ?_
      rintro e w2 ⟨rfl, rfl⟩
      go_wp2
      go_loopw [6, 7] (fun v i wr => ∃ k : Nat, k ≤ M ∧ i = .int .i64 ((k : Int) + 1) ∧ OwnI wr w.heap.size v (flF (fun n => smB n b) 1 k) ∧ Below w.heap.size w wr) (fun _ i _ => 603 - (intOf i).toNat)
      case atStart => exact ⟨0, Nat.zero_le _, rfl, World.ownsRow_nil _ _ _ _, Below.refl _ _⟩
      case round =>
        rename_i v
        obtain ⟨k, hk, rfl, hown, hbel⟩ := hrel
        have Hown := Lib.hid hown
        clear hown
        have hs := hbel.size
        have hul := flF_len (fun n => smB n b) 1 k
        have Hl := Lib.hid (show (flF (fun n => smB n b) 1 k).length ≤ 1048575 by omega)
        clear hul
        by_cases hlt : k < M
        · have hlt2 : (k : Int) + 1 ≤ (M : Int) := by omega
          cases hp : smB (1 + k) b with
          | true =>
            have Hy := Lib.hid (flF_yes (p := fun n => smB n b) (a := 1) (k := k) hp)
            have Hc := Lib.hid (fun W => prSmooth_c W (1 + k) b (by omega) (by omega))
            rw [hp, show ((1 + k : Nat) : Int) = (k : Int) + 1 by omega] at Hc
            go_wp2_with fail
            refine (Hc.out _).mono ?_
            rintro e w1 ⟨rfl, b1⟩
            have hown1 := OwnI.below Hown.out b1
            have hs1 := b1.size
            go_wp2_with (at_builtin; refine wp_app_int _ rfl _ _ rfl w.heap.size _ _ rfl hown1 _ rfl (by have := Hl.out; omega) (by omega) ?_; intro v' w2 hown2 b2)
            go_roundw
            case rel => exact ⟨k + 1, by omega, by simp, by rw [Hy.out, Nat.add_comm 1 k]; exact hown2, (hbel.trans (b1.mono hs)).trans b2⟩
            case measure => simp [intOf]; omega
          | false =>
            have Hy := Lib.hid (flF_no (p := fun n => smB n b) (a := 1) (k := k) hp)
            have Hc := Lib.hid (fun W => prSmooth_c W (1 + k) b (by omega) (by omega))
            rw [hp, show ((1 + k : Nat) : Int) = (k : Int) + 1 by omega] at Hc
            go_wp2_with fail
            refine (Hc.out _).mono ?_
            rintro e w1 ⟨rfl, b1⟩
            go_wp2
            go_roundw
            case rel => exact ⟨k + 1, by omega, by simp, by rw [Hy.out]; exact OwnI.below Hown.out b1, hbel.trans (b1.mono hs)⟩
            case measure => simp [intOf]; omega
        · have hlt2 : (M : Int) < (k : Int) + 1 := by omega
          have Hk := Lib.hid (show k = M by omega)
          go_wp2
          go_ret2
          exact ⟨⟨_, rfl, by rw [← Hk.out]; exact Hown.out⟩, hbel⟩

set_option maxRecDepth 100000 in
set_option maxHeartbeats 800000 in
theorem impl_SmoothUpTo_c (w : World) (m b : Int) :
    Calls Try.prog 24 #[.int .i64 m, .int .i64 b] w fun en w' => (∃ v, en = .returned (.tuple #[v, .bool (suOk m b)]) ∧ OwnI w' w.heap.size v (suA m b)) ∧ Below w.heap.size w w' := by
  cases hg : inB m 0 600 with
  | false =>
    have ho : suOk m b = false := by first | (simp [suOk, *]; done) | (simp [suOk, inB]; omega)
    rw [suA_no ho, ho]
    clear ho
    go_enter Try.func24, Try.ntmps24
    go_wp2_with fail
    refine (isMostI_c _ _).mono ?_
    rintro e w1 ⟨rfl, rfl⟩
    go_wp2
    go_ret2
    exact ⟨⟨_, rfl, OwnI.nil _ _⟩, (Below.refl _ _)⟩
  | true =>
    by_cases hh : 1 ≤ b
    rotate_left
    · skip
      have ho : suOk m b = false := by first | (simp [suOk, *]; done) | (simp [suOk, inB]; omega)
      rw [suA_no ho, ho]
      clear ho
      go_enter Try.func24, Try.ntmps24
      go_wp2_with fail
      refine (isMostI_c _ _).mono ?_
      rintro e w1 ⟨rfl, rfl⟩
      go_wp2
      go_ret2
      exact ⟨⟨_, rfl, OwnI.nil _ _⟩, (Below.refl _ _)⟩
    · skip
      by_cases hh2 : b ≤ 600
      rotate_left
      · skip
        have ho : suOk m b = false := by first | (simp [suOk, *]; done) | (simp [suOk, inB]; omega)
        rw [suA_no ho, ho]
        clear ho
        go_enter Try.func24, Try.ntmps24
        go_wp2_with fail
        refine (isMostI_c _ _).mono ?_
        rintro e w1 ⟨rfl, rfl⟩
        go_wp2
        go_ret2
        exact ⟨⟨_, rfl, OwnI.nil _ _⟩, (Below.refl _ _)⟩
      · skip
        have ho : suOk m b = true := by first | (simp [suOk, *]; done) | (simp [suOk, inB, *]; done) | (rw [suOk, hg, inB_true.2 ⟨hh, hh2⟩]; rfl)
        obtain ⟨n1, n2⟩ := inB_true.1 hg
        obtain ⟨M, rfl⟩ := Int.eq_ofNat_of_zero_le n1
        rw [suA_yes ho, ho]
        clear ho
        have hM : M ≤ 600 := by omega
        clear n1 n2
        have Hg := Lib.hid hg
        go_enter Try.func24, Try.ntmps24
        go_wp2_with fail
        refine (isMostI_c _ _).mono ?_
        rintro e w1 ⟨rfl, rfl⟩
        go_wp2
        go_loopw [6, 7] (fun v i wr => ∃ k : Nat, k ≤ M ∧ i = .int .i64 ((k : Int) + 1) ∧ OwnI wr w.heap.size v (flF (fun n => smB n b) 1 k) ∧ Below w.heap.size w wr) (fun _ i _ => 603 - (intOf i).toNat)
        case atStart => exact ⟨0, Nat.zero_le _, rfl, World.ownsRow_nil _ _ _ _, Below.refl _ _⟩
        case round =>
          rename_i v
          obtain ⟨k, hk, rfl, hown, hbel⟩ := hrel
          have Hown := Lib.hid hown
          clear hown
          have hs := hbel.size
          have hul := flF_len (fun n => smB n b) 1 k
          have Hl := Lib.hid (show (flF (fun n => smB n b) 1 k).length ≤ 1048575 by omega)
          clear hul
          by_cases hlt : k < M
          · have hlt2 : (k : Int) + 1 ≤ (M : Int) := by omega
            cases hp : smB (1 + k) b with
            | true =>
              have Hy := Lib.hid (flF_yes (p := fun n => smB n b) (a := 1) (k := k) hp)
              have Hc := Lib.hid (fun W => isSmooth_c W (1 + k) b (by omega) (by omega))
              rw [hp, show ((1 + k : Nat) : Int) = (k : Int) + 1 by omega] at Hc
              go_wp2_with fail
              refine (Hc.out _).mono ?_
              rintro e w1 ⟨rfl, b1⟩
              have hown1 := OwnI.below Hown.out b1
              have hs1 := b1.size
              go_wp2_with (at_builtin; refine wp_app_int _ rfl _ _ rfl w.heap.size _ _ rfl hown1 _ rfl (by have := Hl.out; omega) (by omega) ?_; intro v' w2 hown2 b2)
              go_roundw
              case rel => exact ⟨k + 1, by omega, by simp, by rw [Hy.out, Nat.add_comm 1 k]; exact hown2, (hbel.trans (b1.mono hs)).trans b2⟩
              case measure => simp [intOf]; omega
            | false =>
              have Hy := Lib.hid (flF_no (p := fun n => smB n b) (a := 1) (k := k) hp)
              have Hc := Lib.hid (fun W => isSmooth_c W (1 + k) b (by omega) (by omega))
              rw [hp, show ((1 + k : Nat) : Int) = (k : Int) + 1 by omega] at Hc
              go_wp2_with fail
              refine (Hc.out _).mono ?_
              rintro e w1 ⟨rfl, b1⟩
              go_wp2
              go_roundw
              case rel => exact ⟨k + 1, by omega, by simp, by rw [Hy.out]; exact OwnI.below Hown.out b1, hbel.trans (b1.mono hs)⟩
              case measure => simp [intOf]; omega
          · have hlt2 : (M : Int) < (k : Int) + 1 := by omega
            have Hk := Lib.hid (show k = M by omega)
            go_wp2
            go_ret2
            exact ⟨⟨_, rfl, by rw [← Hk.out]; exact Hown.out⟩, hbel⟩

end Go.Proofs.Ytmjjpgafecmljaa
