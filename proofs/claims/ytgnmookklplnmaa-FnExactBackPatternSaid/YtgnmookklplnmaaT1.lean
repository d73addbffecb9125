import Derived.Test.YtgnmookklplnmaaT0
import Derived.IntWalk
namespace Go.Proofs.Ytgnmookklplnmaa
open Go.RowKit
set_option linter.unusedVariables false
set_option linter.unusedSimpArgs false

theorem rp_index (k : Nat) (w : World) (hk : k < 6) :
    (Instr.index 85 (.agg #[.int .i64 2, .int .i64 3, .int .i64 5, .int .i64 7, .int .i64 11, .int .i64 13]) (.int .i64 (k : Int))).run Try.prog w = .ok (.int .i64 (rpF k : Int)) w := by
  have h := Try.underlying85
  match k, hk with
  | 0, _ => simp [Instr.index, run_underlying h, asIntOf, go_sem, rpF]
  | 1, _ => simp [Instr.index, run_underlying h, asIntOf, go_sem, rpF]
  | 2, _ => simp [Instr.index, run_underlying h, asIntOf, go_sem, rpF]
  | 3, _ => simp [Instr.index, run_underlying h, asIntOf, go_sem, rpF]
  | 4, _ => simp [Instr.index, run_underlying h, asIntOf, go_sem, rpF]
  | 5, _ => simp [Instr.index, run_underlying h, asIntOf, go_sem, rpF]
set_option maxRecDepth 100000 in
theorem rePrime_c (k : Nat) (w : World) (hk : k < 6) :
    Calls Try.prog 78 #[.int .i64 (k : Int)] w fun e w' => e = .returned (.int .i64 (rpF k : Int)) ∧ w = w' := by
  have hi := fun W => rp_index k W hk
  obtain ⟨v, hv⟩ : ∃ v, (rpF k : Int) = v := ⟨_, rfl⟩
  rw [hv] at hi ⊢
  clear hv
  go_enter Try.func78, Try.ntmps78
  go_wp2
  go_ret
  exact ⟨rfl, rfl⟩

set_option maxRecDepth 100000 in
set_option maxHeartbeats 400000 in
theorem reIs_c (p : Int) (w : World) :
    Calls Try.prog 63 #[.int .i64 p] w fun e w' => e = .returned (.bool (reB p)) ∧ w = w' := by
  go_enter Try.func63, Try.ntmps63
  go_wp2
  go_loop [3] (fun i => ∃ k : Nat, k ≤ 6 ∧ i = .int .i64 (k : Int) ∧ (∀ j, j < k → (rpF j : Int) ≠ p)) (fun i => 6 - (intOf i).toNat)
  case atStart => exact ⟨0, Nat.zero_le _, rfl, fun j hj => by omega⟩
  case round =>
    obtain ⟨k, hk, rfl, hall⟩ := hrel
    have Hall := Lib.hid hall
    clear hall
    by_cases hlt : k < 6
    · obtain ⟨x, hx⟩ : ∃ x, rpF k = x := ⟨_, rfl⟩
      by_cases hp : (x : Int) = p
      · have Hy := Lib.hid ((reB_iff (p := p)).2 ⟨k, hlt, by rw [hx]; exact hp.symm⟩)
        have hb : ((x : Int) == p) = true := beq_iff_eq.2 hp
        go_wp2_with fail
        refine (rePrime_c k _ hlt).mono ?_
        rw [hx]
        rintro e w' ⟨rfl, rfl⟩
        clear hp hx
        go_wp2
        go_ret
        exact ⟨by rw [Hy.out]; rfl, rfl⟩
      · have Hall2 := Lib.hid (fun j (hj : j < k + 1) => show (rpF j : Int) ≠ p by
          rcases Nat.lt_succ_iff_lt_or_eq.1 hj with h | h
          · exact Hall.out j h
          · rw [h, hx]; exact hp)
        have hb : ((x : Int) == p) = false := beq_eq_false_iff_ne.2 hp
        go_wp2_with fail
        refine (rePrime_c k _ hlt).mono ?_
        rw [hx]
        rintro e w' ⟨rfl, rfl⟩
        clear hp hx
        go_wp2
        go_round
        case rel => exact ⟨k + 1, by omega, by go_num, Hall2.out⟩
        case measure => simp [intOf]; omega
    · have Hy := Lib.hid (reB_no (p := p) fun j hj => Hall.out j (by omega))
      go_wp2
      go_ret
      exact ⟨by rw [Hy.out]; rfl, rfl⟩

set_option maxRecDepth 100000 in
set_option maxHeartbeats 800000 in
theorem reGood_c (w : World) (A : Option Addr) (m c : Nat) (xs : List Int) (hA : Il w A xs) (hm : m = xs.length) (hn : m ≤ 1048576) :
    Calls Try.prog 61 #[.slice A m c] w fun en w' => en = .returned (.bool (goodP xs)) ∧ Below w.heap.size w w' := by
  have Hm := Lib.hid hm
  clear hm
  obtain ⟨T, hT⟩ : ∃ T, goodP xs = T := ⟨_, rfl⟩
  rw [hT]
  have HT := Lib.hid hT
  clear hT
  cases hb : inB (m : Int) 1 8 with
  | false =>
    have hF : Hid (T = false) := by show _ = _; rw [← HT.out, goodP, ← Hm.out, hb]; rfl
    go_enter Try.func61, Try.ntmps61
    go_wp2_with (go_at_call 70; refine (l1In_c _ _ _ _).mono ?_; rintro e w' ⟨rfl, rfl⟩)
    go_ret
    exact ⟨by rw [hF.out]; rfl, Below.refl _ _⟩
  | true =>
    obtain ⟨m1, m8⟩ := inB_true.1 hb
    obtain ⟨b, off, rfl, hbs, hr⟩ := hA (by have := Hm.out; omega)
    have Hr := Lib.hid hr
    have hc0 := hr 0 (by have := Hm.out; omega)
    clear hr
    rw [Nat.add_zero] at hc0
    obtain ⟨x0, hx0⟩ : ∃ x, ivL xs 0 = x := ⟨_, rfl⟩
    rw [hx0] at hc0
    by_cases h0 : x0 = 0
    · subst h0
      have Hx0 := Lib.hid hx0
      clear hx0
      go_enter Try.func61, Try.ntmps61
      go_wp2_with (go_at_call 70; refine (l1In_c _ _ _ _).mono ?_; rintro e w' ⟨rfl, rfl⟩)
      go_loopw [3] (fun i wr => ∃ k : Nat, k + 1 ≤ m ∧ i = .int .i64 ((k : Int) + 1) ∧ (∀ j, j < k → ivL xs j < ivL xs (j + 1)) ∧ Below w.heap.size w wr) (fun i _ => m - (intOf i).toNat)
      case atStart => exact ⟨0, by omega, rfl, fun j hj => by omega, Below.refl _ _⟩
      case round =>
        obtain ⟨k, hk, rfl, hall, hbel⟩ := hrel
        have Hall := Lib.hid hall
        clear hall
        by_cases hlt : k + 1 < m
        · have e1 : IntKind.i64.wrap ((k : Int) + 1 - 1) = (k : Int) := by rw [Int.add_sub_cancel]; exact IntWalk.i64_in _ (by omega)
          have hck := (hbel.cell (p := ⟨b, off + k, none⟩) hbs).trans (Hr.out k (by have := Hm.out; omega))
          have hcn := (hbel.cell (p := ⟨b, off + (k + 1), none⟩) hbs).trans (Hr.out (k + 1) (by have := Hm.out; omega))
          obtain ⟨x, hx⟩ : ∃ x, ivL xs k = x := ⟨_, rfl⟩
          obtain ⟨y, hy⟩ : ∃ y, ivL xs (k + 1) = y := ⟨_, rfl⟩
          rw [hx] at hck
          rw [hy] at hcn
          by_cases hxy : x < y
          · have Hall2 := Lib.hid (fun j (hj : j < k + 1) => show ivL xs j < ivL xs (j + 1) by
              rcases Nat.lt_succ_iff_lt_or_eq.1 hj with h | h
              · exact Hall.out j h
              · rw [h, hx, hy]; exact hxy)
            clear hx hy
            go_wp2_with fail
            go_quiet (fail)
            clear e1
            go_wp2
            go_roundw
            case rel => exact ⟨k + 1, by omega, by go_num, Hall2.out, below_drewN hbel _⟩
            case measure => simp [intOf]; omega
          · have hF : Hid (T = false) := by
              show _ = _
              rw [← HT.out, goodP, incB_no (k := k) (by have := Hm.out; omega) (by rw [hx, hy]; exact hxy), Bool.and_false]
              rfl
            clear hx hy
            go_wp2_with fail
            go_quiet (fail)
            clear e1
            go_wp2
            go_ret
            exact ⟨by rw [hF.out]; rfl, below_drewN hbel _⟩
        · have hkm : k + 1 = m := by omega
          have hcl := (hbel.cell (p := ⟨b, off + k, none⟩) hbs).trans (Hr.out k (by have := Hm.out; omega))
          obtain ⟨x, hx⟩ : ∃ x, ivL xs k = x := ⟨_, rfl⟩
          rw [hx] at hcl
          have hF : Hid (T = decide (x ≤ 60)) := by
            show _ = _
            rw [← HT.out, goodP, ← Hm.out, hb, Hx0.out, incB_yes (fun j hj => Hall.out j (by have := Hm.out; omega)), show m - 1 = k by omega, hx]
            rfl
          clear hx hb Hall
          subst hkm
          have e1 : ((k + 1 : Nat) : Int) - 1 = (k : Int) := by omega
          go_wp2
          go_ret
          exact ⟨by rw [hF.out]; rfl, hbel⟩
    · have hF : Hid (T = false) := by
        show _ = _
        rw [← HT.out, goodP, hx0, beq_eq_false_iff_ne.2 h0, Bool.and_false]
        rfl
      have hb0 : (x0 == 0) = false := beq_eq_false_iff_ne.2 h0
      clear hx0
      go_enter Try.func61, Try.ntmps61
      go_wp2_with (go_at_call 70; refine (l1In_c _ _ _ _).mono ?_; rintro e w' ⟨rfl, rfl⟩)
      go_ret
      exact ⟨by rw [hF.out]; rfl, Below.refl _ _⟩

end Go.Proofs.Ytgnmookklplnmaa
