import Derived.Test.YtgnmookklplnmaaT1
namespace Go.Proofs.Ytgnmookklplnmaa
open Go.RowKit
set_option linter.unusedVariables false
set_option linter.unusedSimpArgs false

set_option maxRecDepth 100000 in
set_option maxHeartbeats 800000 in
theorem reRests_c (w : World) (A : Option Addr) (m c : Nat) (xs : List Int) (hA : Il w A xs) (hm : m = xs.length) (hn : m ≤ 1048576) (hx : ∀ k, k < xs.length → 0 ≤ ivL xs k ∧ ivL xs k ≤ 1000000) (p : Nat) (hp : 2 ≤ p) (hp2 : p ≤ 13) :
    Calls Try.prog 64 #[.slice A m c, .int .i64 (p : Int)] w fun en w' => (∃ v, en = .returned v ∧ OwnI w' w.heap.size v (rsA xs p)) ∧ Below w.heap.size w w' := by
  have Hm := Lib.hid hm
  have Hx := Lib.hid hx
  have hz : ((p : Int) == 0) = false := beq_eq_false_iff_ne.2 (by omega)
  clear hm hx
  go_enter Try.func64, Try.ntmps64
  go_wp2_with fail
  go_loopw [5, 6] (fun v i wr => ∃ r : Nat, r ≤ p ∧ i = .int .i64 (r : Int) ∧ OwnI wr w.heap.size v (rsF xs p r) ∧ Below w.heap.size w wr) (fun _ i _ => p - (intOf i).toNat)
  case atStart => exact ⟨0, Nat.zero_le _, rfl, OwnI.nil _ _, Below.refl _ _⟩
  case round =>
    rename_i v
    obtain ⟨r, hr, rfl, hown, hbel⟩ := hrel
    have Hown := Lib.hid hown
    have Hl := Lib.hid (rsF_len xs p r)
    have hs := hbel.size
    clear hown
    by_cases hlt : r < p
    · go_wp2_with fail
      go_loop [5, 16] (fun q0 j => ∃ k : Nat, k ≤ m ∧ j = .int .i64 (k : Int) ∧ q0 = u5 ∧ (∀ q, q < k → ivL xs q % (p : Int) ≠ (r : Int))) (fun _ j => m - (intOf j).toNat)
      case atStart => exact ⟨0, Nat.zero_le _, rfl, rfl, fun q hq => by omega⟩
      case round =>
        obtain ⟨k, hk, rfl, rfl, hall⟩ := hrel
        have Hall := Lib.hid hall
        clear hall
        by_cases hltk : k < m
        · obtain ⟨b, off, rfl, hb, hr⟩ := hA (by have := Hm.out; omega)
          have hck := (hbel.cell (p := ⟨b, off + k, none⟩) hb).trans (hr k (by have := Hm.out; omega))
          have hx0 := Hx.out k (by have := Hm.out; omega)
          clear hr
          obtain ⟨x, hxe⟩ : ∃ x, ivL xs k = x := ⟨_, rfl⟩
          rw [hxe] at hck hx0
          obtain ⟨y, hy⟩ : ∃ y, x % (p : Int) = y := ⟨_, rfl⟩
          by_cases hyr : y = (r : Int)
          · have Hy := Lib.hid (rsF_yes (hasR_yes (r := r) (p := p) (xs := xs) (k := k) (by have := Hm.out; omega) (by rw [hxe, hy]; exact hyr)))
            have hyb : (y == (r : Int)) = true := beq_iff_eq.2 hyr
            clear hxe hyr
            go_wp2_with (at_builtin; refine wp_app_int _ rfl _ _ rfl w.heap.size _ _ rfl Hown.out _ rfl (by have := Hl.out; omega) hs ?_; intro v' w4 hown4 b4)
            go_roundw
            case rel => exact ⟨r + 1, by omega, by go_num, by rw [Hy.out]; exact hown4, hbel.trans b4⟩
            case measure => simp [intOf]; omega
          · have Hall2 := Lib.hid (fun q (hq : q < k + 1) => show ivL xs q % (p : Int) ≠ (r : Int) by
              rcases Nat.lt_succ_iff_lt_or_eq.1 hq with h | h
              · exact Hall.out q h
              · rw [h, hxe, hy]; exact hyr)
            have hyb : (y == (r : Int)) = false := beq_eq_false_iff_ne.2 hyr
            clear hxe hyr
            go_wp2
            go_round
            case rel => exact ⟨k + 1, by omega, by go_num, rfl, Hall2.out⟩
            case measure => simp [intOf]; omega
        · have Hy := Lib.hid (rsF_no (hasR_no (xs := xs) (p := p) (r := r) fun q hq => Hall.out q (by have := Hm.out; omega)))
          go_wp2
          go_roundw
          case rel => exact ⟨r + 1, by omega, by go_num, by rw [Hy.out]; exact Hown.out, hbel⟩
          case measure => simp [intOf]; omega
    · have Hy : Hid (rsF xs p r = rsA xs p) := by show _ = _; rw [rsA, show r = p by omega]
      go_wp2
      go_ret
      exact ⟨⟨_, rfl, by rw [← Hy.out]; exact Hown.out⟩, hbel⟩

/-- The least prime, of those from index k on, that closes a pattern; 0 if there is none. -/
def clGo (xs : List Int) : Nat → Nat → Nat
  | 0, _ => 0
  | f + 1, k => if rpF k ≤ xs.length then (if (rsA xs (rpF k)).length = rpF k then rpF k else clGo xs f (k + 1)) else 0
def clX (xs : List Int) (k : Nat) : Nat := clGo xs (6 - k) k
theorem clX_yes {xs : List Int} {k : Nat} (hk : k < 6) (h : rpF k ≤ xs.length) (h2 : (rsA xs (rpF k)).length = rpF k) : clX xs k = rpF k := by
  rw [clX, show 6 - k = (6 - (k + 1)) + 1 by omega, clGo, if_pos h, if_pos h2]
theorem clX_go {xs : List Int} {k : Nat} (hk : k < 6) (h : rpF k ≤ xs.length) (h2 : ¬ (rsA xs (rpF k)).length = rpF k) : clX xs k = clX xs (k + 1) := by
  rw [clX, show 6 - k = (6 - (k + 1)) + 1 by omega, clGo, if_pos h, if_neg h2, clX]
theorem clX_no {xs : List Int} {k : Nat} (hk : k < 6) (h : ¬ rpF k ≤ xs.length) : clX xs k = 0 := by
  rw [clX, show 6 - k = (6 - (k + 1)) + 1 by omega, clGo, if_neg h]
theorem clX_end {xs : List Int} {k : Nat} (hk : ¬ k < 6) : clX xs k = 0 := by
  rw [clX, show 6 - k = 0 by omega, clGo]

set_option maxRecDepth 100000 in
set_option maxHeartbeats 800000 in
theorem reClosing_c (w : World) (A : Option Addr) (m c : Nat) (xs : List Int) (hA : Il w A xs) (hm : m = xs.length) (hn : m ≤ 1048576) (hx : ∀ k, k < xs.length → 0 ≤ ivL xs k ∧ ivL xs k ≤ 1000000) :
    Calls Try.prog 67 #[.slice A m c] w fun en w' => en = .returned (.int .i64 (clX xs 0 : Int)) ∧ Below w.heap.size w w' := by
  have Hm := Lib.hid hm
  have Hx := Lib.hid hx
  clear hm hx
  obtain ⟨T, hT⟩ : ∃ T, clX xs 0 = T := ⟨_, rfl⟩
  rw [hT]
  have HT := Lib.hid hT
  clear hT
  go_enter Try.func67, Try.ntmps67
  go_wp2_with fail
  go_loopw [3] (fun i wr => ∃ k : Nat, k ≤ 6 ∧ i = .int .i64 (k : Int) ∧ Hid (clX xs k = T) ∧ Below w.heap.size w wr) (fun i _ => 6 - (intOf i).toNat)
  case atStart => exact ⟨0, Nat.zero_le _, rfl, HT, Below.refl _ _⟩
  case round =>
    obtain ⟨k, hk, rfl, hD, hbel⟩ := hrel
    have R1 := hA.below hbel
    by_cases hlt : k < 6
    · obtain ⟨p2, p13⟩ := rpF_all k hlt
      obtain ⟨p, hp⟩ : ∃ p, rpF k = p := ⟨_, rfl⟩
      rw [hp] at p2 p13
      have Hp := Lib.hid hp
      clear hp
      by_cases hle : p ≤ m
      · obtain ⟨L, hL⟩ : ∃ L, (rsA xs p).length = L := ⟨_, rfl⟩
        have HL := Lib.hid hL
        by_cases hLp : L = p
        · have Hy : Hid (T = p) := by show _ = _; rw [← hD.out, clX_yes hlt (by rw [Hp.out]; have := Hm.out; omega) (by rw [Hp.out, hL]; exact hLp), Hp.out]
          clear hL
          go_wp2_with (go_at_call 78; refine (rePrime_c k _ hlt).mono ?_; rw [Hp.out]; rintro e w' ⟨rfl, rfl⟩)
          refine (reRests_c _ _ _ _ xs R1 Hm.out hn Hx.out p p2 p13).mono ?_
          rintro e w3 ⟨⟨v3, rfl, o3⟩, b3⟩
          obtain ⟨A3, c3, rfl⟩ := o3.shape
          rw [HL.out]
          subst hLp
          go_wp2_with (go_at_call 78; refine (rePrime_c k _ hlt).mono ?_; rw [Hp.out]; rintro e w' ⟨rfl, rfl⟩)
          go_ret
          exact ⟨by rw [Hy.out]; rfl, hbel.trans (b3.mono hbel.size)⟩
        · have Hy : Hid (clX xs (k + 1) = T) := by show _ = _; rw [← hD.out, clX_go hlt (by rw [Hp.out]; have := Hm.out; omega) (by rw [Hp.out, hL]; exact hLp)]
          clear hL
          have hLb : ((L : Int) == (p : Int)) = false := beq_eq_false_iff_ne.2 (by omega)
          go_wp2_with (go_at_call 78; refine (rePrime_c k _ hlt).mono ?_; rw [Hp.out]; rintro e w' ⟨rfl, rfl⟩)
          refine (reRests_c _ _ _ _ xs R1 Hm.out hn Hx.out p p2 p13).mono ?_
          rintro e w3 ⟨⟨v3, rfl, o3⟩, b3⟩
          obtain ⟨A3, c3, rfl⟩ := o3.shape
          rw [HL.out]
          go_wp2_with (go_at_call 78; refine (rePrime_c k _ hlt).mono ?_; rw [Hp.out]; rintro e w' ⟨rfl, rfl⟩)
          go_roundw
          case rel => exact ⟨k + 1, by omega, by go_num, Hy, hbel.trans (b3.mono hbel.size)⟩
          case measure => simp [intOf]; omega
      · have Hy : Hid (T = 0) := by show _ = _; rw [← hD.out, clX_no hlt (by rw [Hp.out]; have := Hm.out; omega)]
        go_wp2_with (go_at_call 78; refine (rePrime_c k _ hlt).mono ?_; rw [Hp.out]; rintro e w' ⟨rfl, rfl⟩)
        go_ret
        exact ⟨by rw [Hy.out]; rfl, hbel⟩
    · have Hy : Hid (T = 0) := by show _ = _; rw [← hD.out, clX_end hlt]
      go_wp2
      go_ret
      exact ⟨by rw [Hy.out]; rfl, hbel⟩

end Go.Proofs.Ytgnmookklplnmaa
