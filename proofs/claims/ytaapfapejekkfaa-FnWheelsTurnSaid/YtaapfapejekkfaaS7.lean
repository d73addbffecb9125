import Derived.Test.YtaapfapejekkfaaS6
namespace Go.Proofs.Ytaapfapejekkfaa
open Go.RowKit
set_option linter.unusedVariables false
set_option linter.unusedSimpArgs false

def stOk (ss : List Int) : Bool := decide (∀ k, k < ss.length → 1 ≤ ivL ss k)
theorem stOk_yes {ss : List Int} (h : ∀ k, k < ss.length → 1 ≤ ivL ss k) : stOk ss = true := decide_eq_true h
theorem stOk_no {ss : List Int} {k : Nat} (hk : k < ss.length) (h : ¬ 1 ≤ ivL ss k) : stOk ss = false := decide_eq_false fun hh => h (hh k hk)
/-- The place of the step j behind spoke i. -/
def frI (rs : List (Int × Int)) (i j : Nat) : Nat := (i + j) % (stA rs).length
/-- Whether the first q of the steps run from spoke i. -/
def frM (rs : List (Int × Int)) (ss : List Int) (i q : Nat) : Bool := (List.range q).all fun j => ivL (stA rs) (frI rs i j) == ivL ss j
theorem frM_succ (rs : List (Int × Int)) (ss : List Int) (i q : Nat) : frM rs ss i (q + 1) = (frM rs ss i q && (ivL (stA rs) (frI rs i q) == ivL ss q)) := by
  rw [frM, List.range_succ, List.all_append]
  simp [frM]
def frD (rs : List (Int × Int)) (ss : List Int) : Nat → Nat → Int × Bool
  | 0, _ => (0, false)
  | f + 1, i => if frM rs ss i ss.length then (ivL (spk rs) i, true) else frD rs ss f (i + 1)
def frX (rs : List (Int × Int)) (ss : List Int) (i : Nat) : Int × Bool := frD rs ss ((stA rs).length - i) i
theorem frX_yes {rs : List (Int × Int)} {ss : List Int} {i : Nat} (hi : i < (stA rs).length) (h : frM rs ss i ss.length = true) : frX rs ss i = (ivL (spk rs) i, true) := by
  rw [frX, show (stA rs).length - i = ((stA rs).length - (i + 1)) + 1 by omega, frD, if_pos h]
theorem frX_no {rs : List (Int × Int)} {ss : List Int} {i : Nat} (hi : i < (stA rs).length) (h : frM rs ss i ss.length = false) : frX rs ss i = frX rs ss (i + 1) := by
  rw [frX, show (stA rs).length - i = ((stA rs).length - (i + 1)) + 1 by omega, frD, if_neg (by rw [h]; exact Bool.false_ne_true), frX]
theorem frX_end {rs : List (Int × Int)} {ss : List Int} {i : Nat} (hi : (stA rs).length ≤ i) : frX rs ss i = (0, false) := by
  rw [frX, show (stA rs).length - i = 0 by omega, frD]
def frP (rs : List (Int × Int)) (ss : List Int) : Bool := whB rs && inB (ss.length : Int) 1 8 && stOk ss
def frR (rs : List (Int × Int)) (ss : List Int) : Int × Bool := if frP rs ss then frX rs ss 0 else (0, false)
theorem frR_no {rs : List (Int × Int)} {ss : List Int} (h : frP rs ss = false) : frR rs ss = (0, false) := by rw [frR, h]; rfl
theorem frR_yes {rs : List (Int × Int)} {ss : List Int} (h : frP rs ss = true) : frR rs ss = frX rs ss 0 := by rw [frR, h]; rfl

set_option maxRecDepth 100000 in
set_option maxHeartbeats 1600000 in
theorem spec_FirstRun_c (w : World) (A : Option Addr) (m c : Nat) (rs : List (Int × Int)) (hA : Rl w A rs) (hm : m = rs.length) (hn : m ≤ 1048576) (A2 : Option Addr) (m2 c2 : Nat) (ss : List Int) (hS : Il w A2 ss) (hm2 : m2 = ss.length) (hn2 : m2 ≤ 1048576) :
    Calls Try.prog 112 #[.slice A m c, .slice A2 m2 c2] w fun en w' => en = .returned (.tuple #[.int .i64 (frR rs ss).1, .bool (frR rs ss).2]) ∧ Below w.heap.size w w' := by
  have Hm := Lib.hid hm
  clear hm
  have Hm2 := Lib.hid hm2
  clear hm2
  obtain ⟨T, hT⟩ : ∃ T, frR rs ss = T := ⟨_, rfl⟩
  rw [hT]
  have HT := Lib.hid hT
  clear hT
  cases hg : whB rs with
  | false =>
    have ho : T = (0, false) := by have := Hm2.out; rw [← HT.out]; refine frR_no ?_; first | (rw [frP, hg]; rfl) | (rw [frP, ← Hm2.out, hk, Bool.and_false]; rfl)
    rw [ho]
    clear ho
    first | (have hp0 := whP_no hg) | (have hp1 : (((whP rs : Nat) : Int) == 0) = false := by have := (whB_parts hg).2.2.2.2.1; exact beq_eq_false_iff_ne.2 (by omega))
    go_enter Try.func112, Try.ntmps112
    go_wp2_with fail
    refine (whPeriod_c _ _ _ rs _ hA Hm.out hn).mono ?_
    rintro e w1 ⟨rfl, b1⟩
    have hA_1 := hA.below b1
    go_wp2
    go_ret2
    exact ⟨rfl, b1⟩
  | true =>
    cases hk : inB (m2 : Int) 1 8 with
    | false =>
      have ho : T = (0, false) := by have := Hm2.out; rw [← HT.out]; refine frR_no ?_; first | (rw [frP, hg]; rfl) | (rw [frP, ← Hm2.out, hk, Bool.and_false]; rfl)
      rw [ho]
      clear ho
      first | (have hp0 := whP_no hg) | (have hp1 : (((whP rs : Nat) : Int) == 0) = false := by have := (whB_parts hg).2.2.2.2.1; exact beq_eq_false_iff_ne.2 (by omega))
      go_enter Try.func112, Try.ntmps112
      go_wp2_with fail
      refine (whPeriod_c _ _ _ rs _ hA Hm.out hn).mono ?_
      rintro e w1 ⟨rfl, b1⟩
      have hA_1 := hA.below b1
      go_wp2_with fail
      refine (l1In_c _ _ _ _).mono ?_
      rintro e w2 ⟨rfl, rfl⟩
      go_wp2
      go_ret2
      exact ⟨rfl, b1⟩
    | true =>
      obtain ⟨n1, n2⟩ := inB_true.1 hk
      have hp1 : (((whP rs : Nat) : Int) == 0) = false := by have := (whB_parts hg).2.2.2.2.1; exact beq_eq_false_iff_ne.2 (by omega)
      have hp5 := (whB_parts hg).2.2.2.2.2.1
      have hgl := (whB_parts hg).1
      have Hgl := Lib.hid hgl
      have hpos := spk_pos hg
      have hsl := spk_len rs
      have Hlen := Lib.hid (stA_len rs)
      have Hg := Lib.hid hg
      have Hk := Lib.hid hk
      go_enter Try.func112, Try.ntmps112
      go_wp2_with fail
      refine (whPeriod_c _ _ _ rs _ hA Hm.out hn).mono ?_
      rintro e w1 ⟨rfl, b1⟩
      have hA_1 := hA.below b1
      go_wp2_with fail
      refine (l1In_c _ _ _ _).mono ?_
      rintro e w2 ⟨rfl, rfl⟩
      have hS1 := hS.below b1
      obtain ⟨gs, os, rfl, hgs, hcs⟩ := hS1 (by have := Hm2.out; omega)
      have Hcs := Lib.hid hcs
      clear hcs
      go_wp2_with fail
      go_loop [28] (fun i => ∃ k : Nat, k ≤ m2 ∧ i = .int .i64 (k : Int) ∧ (∀ j, j < k → 1 ≤ ivL ss j)) (fun i => m2 - (intOf i).toNat)
      case atStart => exact ⟨0, Nat.zero_le _, rfl, fun j hj => by omega⟩
      case round =>
        obtain ⟨k, hk, rfl, hall⟩ := hrel
        have Hall := Lib.hid hall
        clear hall
        by_cases hlt : k < m2
        · have hck := Hcs.out k (by have := Hm2.out; omega)
          obtain ⟨x, hx⟩ : ∃ x, ivL ss k = x := ⟨_, rfl⟩
          rw [hx] at hck
          by_cases hx1 : 1 ≤ x
          · have Hall2 := Lib.hid (fun j (hj : j < k + 1) => show 1 ≤ ivL ss j by
              rcases Nat.lt_succ_iff_lt_or_eq.1 hj with h | h
              · exact Hall.out j h
              · rw [h, hx]; exact hx1)
            clear hx
            go_wp2
            go_round
            case rel => exact ⟨k + 1, by omega, by go_num, Hall2.out⟩
            case measure => simp [intOf]; omega
          · have Hno : Hid (T = (0, false)) := by
              show _ = _
              rw [← HT.out]
              refine frR_no ?_
              rw [frP, stOk_no (k := k) (by have := Hm2.out; omega) (by rw [hx]; exact hx1), Bool.and_false]
            clear hx
            go_wp2
            go_ret2
            exact ⟨by rw [Hno.out]; rfl, b1⟩
        · have Hfr : Hid (frX rs ss 0 = T) := by
            show _ = _
            rw [← HT.out]
            refine (frR_yes ?_).symm
            rw [frP, Hg.out, ← Hm2.out, Hk.out, stOk_yes (fun j hj => Hall.out j (by have := Hm2.out; omega))]
            rfl
          clear Hall
          go_wp2_with fail
          refine (whSpokes_c _ _ _ _ rs hA_1 Hm.out Hgl.out (whP rs) (by omega)).mono ?_
          rintro e w5 ⟨⟨v5, rfl, o5⟩, b5⟩
          have R5 := (hA_1).below b5
          have o9 : OwnI w5 w1.heap.size v5 (spk rs) := o5
          clear o5
          obtain ⟨g, c5, rfl, _, hg5, hc⟩ := own_cells o9 hpos
          go_wp2_with fail
          refine (whSteps_c _ _ _ _ rs R5 Hm.out Hg.out).mono ?_
          rintro e w6 ⟨⟨v6, rfl, o6⟩, b6⟩
          have b56 := b5.trans (b6.mono b5.size)
          have bb6 := (b1).trans (b56.mono (b1).size)
          obtain ⟨g3, c6, rfl, _, hg6, hc3⟩ := own_cells o6 (by rw [Hlen.out]; exact hpos)
          have Hc := Lib.hid (fun k hk => (b6.cell (p := ⟨g, k, none⟩) hg5).trans (hc k hk))
          have Hc3 := Lib.hid hc3
          have Hcs2 := Lib.hid (fun k hk => (b56.cell (p := ⟨gs, os + k, none⟩) hgs).trans (Hcs.out k hk))
          clear hc hc3 o6 o9
          obtain ⟨S, hS⟩ : ∃ S, (stA rs).length = S := ⟨_, rfl⟩
          have HS := Lib.hid hS
          have hSp : (spk rs).length = S := by rw [← hS, Hlen.out]
          rw [hS, hSp]
          have HSp := Lib.hid hSp
          have hS0 : 0 < S := by omega
          have hS5 : S ≤ 5000 := by omega
          have hz : ((S : Int) == 0) = false := beq_eq_false_iff_ne.2 (by omega)
          clear hS hSp hpos hsl Hcs
          go_wp2_with fail
          go_loop [43] (fun i => ∃ k : Nat, k ≤ S ∧ i = .int .i64 (k : Int) ∧ Hid (frX rs ss k = T)) (fun i => S - (intOf i).toNat)
          case atStart => exact ⟨0, Nat.zero_le _, rfl, Hfr⟩
          case round =>
            clear Hfr
            obtain ⟨k, hk, rfl, hfr⟩ := hrel
            by_cases hlt : k < S
            · have hck := Hc.out k (by have := HSp.out; omega)
              go_wp2_with fail
              go_loop [13, 50] (fun sm j => ∃ q : Nat, q ≤ m2 ∧ j = .int .i64 (q : Int) ∧ sm = .bool (frM rs ss k q)) (fun _ j => m2 - (intOf j).toNat)
              case atStart => exact ⟨0, Nat.zero_le _, rfl, rfl⟩
              case round =>
                obtain ⟨q, hq, rfl, rfl⟩ := hrel
                have Hsu := Lib.hid (frM_succ rs ss k q)
                by_cases hltq : q < m2
                · have hcq := Hcs2.out q (by have := Hm2.out; omega)
                  have h0 := Int.emod_nonneg ((k : Int) + (q : Int)) (b := (S : Int)) (by omega)
                  have h1 := Int.emod_lt_of_pos ((k : Int) + (q : Int)) (b := (S : Int)) (by omega)
                  have hcx := Hc3.out ((k + q) % S) (by rw [HS.out]; exact Nat.mod_lt _ hS0)
                  have Hfi : Hid (frI rs k q = (k + q) % S) := by show _ = _; rw [frI, HS.out]
                  obtain ⟨x, hx⟩ : ∃ x, ivL (stA rs) ((k + q) % S) = x := ⟨_, rfl⟩
                  obtain ⟨y, hy⟩ : ∃ y, ivL ss q = y := ⟨_, rfl⟩
                  rw [hx] at hcx
                  rw [hy] at hcq
                  have Hsu2 : Hid (frM rs ss k (q + 1) = (frM rs ss k q && (x == y))) := by
                    show _ = _
                    rw [Hsu.out, Hfi.out, hx, hy]
                  clear hx hy
                  cases hs : frM rs ss k q with
                  | true =>
                    have Hsu3 : Hid (frM rs ss k (q + 1) = (x == y)) := by show _ = _; rw [Hsu2.out, hs]; rfl
                    clear hs
                    go_wp2
                    go_round
                    case rel => exact ⟨q + 1, by omega, by go_num, by rw [Hsu3.out]⟩
                    case measure => simp [intOf]; omega
                  | false =>
                    have Hsu3 : Hid (frM rs ss k (q + 1) = false) := by show _ = _; rw [Hsu2.out, hs]; rfl
                    clear hs
                    go_wp2
                    go_round
                    case rel => exact ⟨q + 1, by omega, by go_num, by rw [Hsu3.out]⟩
                    case measure => simp [intOf]; omega
                · have hqm : q = ss.length := by have := Hm2.out; omega
                  cases hs : frM rs ss k q with
                  | true =>
                    have Hy : Hid (T = (ivL (spk rs) k, true)) := by
                      show _ = _
                      rw [← hfr.out]
                      exact frX_yes (by rw [HS.out]; exact hlt) (by rw [← hqm]; exact hs)
                    clear hs hqm
                    go_wp2
                    go_ret2
                    exact ⟨by rw [Hy.out]; rfl, bb6⟩
                  | false =>
                    have Hy : Hid (frX rs ss (k + 1) = T) := by
                      show _ = _
                      rw [← hfr.out]
                      exact (frX_no (by rw [HS.out]; exact hlt) (by rw [← hqm]; exact hs)).symm
                    clear hs hqm
                    go_wp2
                    go_round
                    case rel => exact ⟨k + 1, by omega, by go_num, Hy⟩
                    case measure => simp [intOf]; omega
            · have Hy : Hid (T = (0, false)) := by
                show _ = _
                rw [← hfr.out]
                exact frX_end (by rw [HS.out]; omega)
              go_wp2
              go_ret2
              exact ⟨by rw [Hy.out]; rfl, bb6⟩

end Go.Proofs.Ytaapfapejekkfaa
