import Derived.Test.YtmjjpgafecmljaaG5
import Derived.Test.YtmjjpgafecmljaaB5
namespace Go.Proofs.Ytmjjpgafecmljaa
open Go.RowKit
set_option linter.unusedVariables false
set_option linter.unusedSimpArgs false

set_option maxRecDepth 100000 in
set_option maxHeartbeats 800000 in
theorem prRules_c (w : World) (K : Nat) (hK : K ≤ 12) :
    Calls Try.prog 130 #[.int .i64 (K : Int)] w fun en w' => (∃ v, en = .returned v ∧ OwnR w' w.heap.size v (ruL (pr9.take K))) ∧ Below w.heap.size w w' := by
  obtain ⟨xs, hxs⟩ : ∃ xs, pr9.take K = xs := ⟨_, rfl⟩
  have hl : xs.length = K := by rw [← hxs, List.length_take, pr9_len]; omega
  rw [hxs]
  have Hxs := Lib.hid hxs
  have Hl := Lib.hid hl
  clear hxs hl
  go_enter Try.func130, Try.ntmps130
  go_wp2_with fail
  refine (prFirst_c _ K (by omega)).mono ?_
  rw [Hxs.out]
  rintro e w2 ⟨⟨v2, rfl, o3⟩, b2⟩
  have hs2 := b2.size
  obtain ⟨A, c, rfl⟩ := o3.shape
  rw [Hl.out] at o3 ⊢
  go_wp2_with fail
  go_loopw [3, 9] (fun v i wr => ∃ k : Nat, k ≤ K ∧ i = .int .i64 (k : Int) ∧ OwnR wr w2.heap.size v (ruL (xs.take k)) ∧ Below w2.heap.size w2 wr) (fun _ i _ => K - (intOf i).toNat)
  case atStart => exact ⟨0, Nat.zero_le _, rfl, World.ownsRow_nil _ _ _ _, Below.refl _ _⟩
  case round =>
    rename_i v
    obtain ⟨k, hk, rfl, hown, hbel⟩ := hrel
    have Hown := Lib.hid hown
    clear hown
    have hs := hbel.size
    by_cases hlt : k < K
    · have hlt1 : k < xs.length := by have := Hl.out; omega
      obtain ⟨g, rfl, _, hg2, hc⟩ := o3.cell hlt1
      have hc0 := (hbel.cell (p := ⟨g, k, none⟩) hg2).trans hc
      rw [show xs.getD k 0 = ivL xs k from rfl] at hc0
      clear hc
      have Hy := Lib.hid (ruL_succ hlt1)
      have Hm := Lib.hid (show (ruL (xs.take k)).length ≤ 1048576 by rw [ruL_len, List.length_take]; omega)
      have hki : (k : Int) < (K : Int) := by omega
      go_wp2_with (at_builtin; refine wp_app_rule _ rfl _ _ rfl w2.heap.size _ _ rfl Hown.out _ _ rfl Hm.out hs ?_; intro v' w4 hown4 b4)
      go_roundw
      case rel => exact ⟨k + 1, by omega, by go_num, by rw [Hy.out]; exact hown4, hbel.trans b4⟩
      case measure => simp [intOf]; omega
    · have Hk := Lib.hid (show xs.take k = xs from List.take_of_length_le (by have := Hl.out; omega))
      go_wp2
      go_ret
      exact ⟨⟨_, rfl, by rw [← Hk.out]; exact OwnR.mono Hown.out hs2⟩, b2.trans (hbel.mono hs2)⟩

theorem prK_c (n : Int) (w : World) :
    Calls Try.prog 126 #[.int .i64 n] w fun e w' => e = .returned (.bool (inB n 0 12)) ∧ w = w' := by
  go_enter Try.func126, Try.ntmps126
  go_wp2_with (go_at_call 110; refine (l1In_c _ _ _ _).mono ?_; rintro e w' ⟨rfl, rfl⟩)
  go_ret
  exact ⟨rfl, rfl⟩
theorem isCountOfFirst_c (n : Int) (w : World) :
    Calls Try.prog 122 #[.int .i64 n] w fun e w' => e = .returned (.bool (inB n 0 12)) ∧ w = w' := by
  by_cases h1 : 0 ≤ n
  · by_cases h2 : n ≤ 12
    · rw [inB_true.2 ⟨h1, h2⟩]
      go_enter Try.func122, Try.ntmps122
      go_wp2
      go_ret
      exact ⟨rfl, rfl⟩
    · rw [inB_false.2 (by omega)]
      go_enter Try.func122, Try.ntmps122
      go_wp2
      go_ret
      exact ⟨rfl, rfl⟩
  · rw [inB_false.2 (by omega)]
    go_enter Try.func122, Try.ntmps122
    go_wp2
    go_ret
    exact ⟨rfl, rfl⟩
def rpOk (k : Int) : Bool := inB k 0 12
def rpA (k : Int) : List (Int × Int) := if rpOk k then ruL (pr9.take k.toNat) else []
theorem rpA_no {k : Int} (h : rpOk k = false) : rpA k = [] := by rw [rpA, h]; rfl
theorem rpA_yes {k : Nat} (h : rpOk (k : Int) = true) : rpA (k : Int) = ruL (pr9.take k) := by rw [rpA, h, Int.toNat_natCast]; rfl
theorem rpA_len (k : Int) : (rpA k).length ≤ 1048576 := by
  rw [rpA]
  split
  · rw [ruL_len, List.length_take, pr9_len]; omega
  · exact Nat.zero_le _
set_option maxRecDepth 100000 in
set_option maxHeartbeats 400000 in
theorem spec_RulesOfPrimes_c (w : World) (k : Int) :
    Calls Try.prog 35 #[.int .i64 k] w fun en w' => (∃ v, en = .returned (.tuple #[v, .bool (rpOk k)]) ∧ OwnR w' w.heap.size v (rpA k)) ∧ Below w.heap.size w w' := by
  cases hg : inB k 0 12 with
  | false =>
    have ho : rpOk k = false := hg
    rw [rpA_no ho, ho]
    clear ho
    go_enter Try.func35, Try.ntmps35
    go_wp2_with fail
    refine (prK_c _ _).mono ?_
    rintro e w1 ⟨rfl, rfl⟩
    go_wp2
    go_ret2
    exact ⟨⟨_, rfl, OwnR.nil _ _⟩, (Below.refl _ _)⟩
  | true =>
    have ho : rpOk k = true := hg
    obtain ⟨n1, n2⟩ := inB_true.1 hg
    obtain ⟨K, rfl⟩ := Int.eq_ofNat_of_zero_le n1
    rw [rpA_yes ho, ho]
    clear ho
    have Hg := Lib.hid hg
    go_enter Try.func35, Try.ntmps35
    go_wp2_with fail
    refine (prK_c _ _).mono ?_
    rintro e w1 ⟨rfl, rfl⟩
    go_wp2_with fail
    refine (prRules_c _ K (by omega)).mono ?_
    rintro e w2 ⟨⟨v2, rfl, o2⟩, b2⟩
    go_wp2
    go_ret2
    exact ⟨⟨_, rfl, o2⟩, b2⟩
set_option maxRecDepth 100000 in
set_option maxHeartbeats 800000 in
theorem impl_RulesOfPrimes_c (w : World) (k : Int) :
    Calls Try.prog 34 #[.int .i64 k] w fun en w' => (∃ v, en = .returned (.tuple #[v, .bool (rpOk k)]) ∧ OwnR w' w.heap.size v (rpA k)) ∧ Below w.heap.size w w' := by
  cases hg : inB k 0 12 with
  | false =>
    have ho : rpOk k = false := hg
    rw [rpA_no ho, ho]
    clear ho
    go_enter Try.func34, Try.ntmps34
    go_wp2_with fail
    refine (isCountOfFirst_c _ _).mono ?_
    rintro e w1 ⟨rfl, rfl⟩
    go_wp2
    go_ret2
    exact ⟨⟨_, rfl, OwnR.nil _ _⟩, (Below.refl _ _)⟩
  | true =>
    have ho : rpOk k = true := hg
    obtain ⟨n1, n2⟩ := inB_true.1 hg
    obtain ⟨K, rfl⟩ := Int.eq_ofNat_of_zero_le n1
    rw [rpA_yes ho, ho]
    clear ho
    obtain ⟨xs, hxs⟩ : ∃ xs, pr9.take K = xs := ⟨_, rfl⟩
    have hl : xs.length = K := by rw [← hxs, List.length_take, pr9_len]; omega
    rw [hxs]
    have Hxs := Lib.hid hxs
    have Hl := Lib.hid hl
    clear hxs hl
    have hmk := fun W => mk_full Try.underlying41 info_R K (by omega) (by omega) W
    have hml := mk_owns (e := 61) #[.int .i64 0, .int .i64 0] 2 K (by unfold maxLen; omega) w
    have Hg := Lib.hid hg
    go_enter Try.func34, Try.ntmps34
    go_wp2_with fail
    refine (isCountOfFirst_c _ _).mono ?_
    rintro e w1 ⟨rfl, rfl⟩
    go_wp2_with fail
    refine (firstPrimes_c _ K (by omega)).mono ?_
    rintro e w2 ⟨⟨A, c, rfl, hA1, hA2, hI⟩, b2⟩
    have hb2 : Below w.heap.size w w2 := ((Below.refl _ _).alloc (Nat.le_refl _) _).trans (b2.mono (by simp))
    have hml2 := own_below hml b2
    have hs2 := hb2.size
    have HI := Lib.hid hI
    have hAw : w.heap.size < A := by rw [World.size_alloc] at hA1; omega
    clear hmk hml b2 hI hA1
    go_wp2_with fail
    go_loopw [15] (fun i wr => ∃ k : Nat, k ≤ K ∧ i = .int .i64 (k : Int) ∧ (∃ ys, wr.ownsRow w.heap.size 61 2 (.slice (some ⟨w.heap.size, 0, none⟩) K K) K ys ∧ ∀ j, j < k → ys[j * 2]? = some (.int .i64 (ivL pr9 j)) ∧ ys[j * 2 + 1]? = some (.int .i64 0)) ∧ (∀ j, j < K → wr.cell? ⟨A, j, none⟩ = some (.int .i64 (ivL pr9 j))) ∧ Below w.heap.size w wr) (fun i _ => K - (intOf i).toNat)
    case atStart => exact ⟨0, Nat.zero_le _, rfl, ⟨_, hml2, by omega⟩, HI.out, hb2⟩
    case round =>
      clear hml2 HI
      obtain ⟨k, hk, rfl, ⟨ys, hown, hys⟩, hcs, hbel⟩ := hrel
      have Hys := Lib.hid hys
      have Hown := Lib.hid hown
      have Hcs := Lib.hid hcs
      clear hys hown hcs
      by_cases hlt : k < K
      · have hc0 := Hcs.out k hlt
        obtain ⟨x0, hx0, hf0⟩ := own_get Hown.out (k * 2) (by omega)
        obtain ⟨x1, hx1, hf1⟩ := own_get Hown.out (k * 2 + 1) (by omega)
        have hki : (k : Int) < (K : Int) := by omega
        go_wp2
        go_roundw
        case rel =>
          have h2 := Hown.out.stored (k * 2) (.int .i64 (ivL pr9 k))
          have h3 := h2.1.stored (k * 2 + 1) (.int .i64 0)
          refine ⟨k + 1, by omega, by go_num, ⟨_, h3.1, fun j hj => ?_⟩, fun j hj => ?_, (hbel.setCell (Nat.le_refl _) _).setCell (Nat.le_refl _) _⟩
          · have hxl : ys.length = K * 2 := Hown.out.1
            rcases Nat.lt_succ_iff_lt_or_eq.1 hj with h | h
            · have := Hys.out j h
              rw [List.getElem?_set_ne (by omega), List.getElem?_set_ne (by omega), List.getElem?_set_ne (by omega), List.getElem?_set_ne (by omega)]
              exact this
            · subst h
              rw [List.getElem?_set_ne (by omega), List.getElem?_set_self (by omega), List.getElem?_set_self (by rw [List.length_set]; omega)]
              exact ⟨rfl, rfl⟩
          · rw [World.cell?_setCell_far _ _ _ _ (by simp; omega), World.cell?_setCell_far _ _ _ _ (by simp; omega)]
            exact Hcs.out j hj
        case measure => simp [intOf]; omega
      · have hkK : k = K := by omega
        subst hkK
        have hru : ys = cellsR (ruL xs) := cellsR_of (by rw [ruL_len, Hl.out]; exact Hown.out.1) fun j hj => by
          rw [ruL_len] at hj
          have := Hys.out j (by have := Hl.out; omega)
          rw [(ruL_get hj).1, (ruL_get hj).2, ← Hxs.out, ivL_take (by have := Hl.out; omega)]
          exact this
        have Hru := Lib.hid hru
        clear hru
        go_wp2
        go_ret2
        refine ⟨⟨_, rfl, ?_⟩, hbel⟩
        unfold OwnR
        rw [ruL_len, Hl.out, ← Hru.out]
        exact Hown.out

end Go.Proofs.Ytmjjpgafecmljaa
