import Derived.Test.YtoapidcbmlnjcaaQ2
import Derived.Test.YtoapidcbmlnjcaaP5
namespace Go.Proofs.Ytoapidcbmlnjcaa
open Go.RowKit
set_option linter.unusedVariables false
set_option linter.unusedSimpArgs false

theorem gpLeftF_c (w : World) (A : Option Addr) (m c : Nat) (rs : List (Int × Int)) (hA : Rl w A rs) (hm : m = rs.length) (hn : m ≤ 1048576) (ho : gpO rs = false) :
    Calls Try.prog 85 #[.slice A m c] w fun en w' => (∃ A1 c1, en = .returned (.tuple #[.slice A1 0 c1, .bool false])) ∧ Below w.heap.size w w' :=
  (gpLeft_c w A m c rs hA hm hn).mono fun e w' h => by
    obtain ⟨⟨v, rfl, ov⟩, b⟩ := h
    rw [gpA_no ho] at ov
    obtain ⟨A1, c1, rfl⟩ := ov.shape
    exact ⟨⟨A1, c1, by rw [ho]; rfl⟩, b⟩
theorem gpLeftT_c (w : World) (A : Option Addr) (m c : Nat) (rs : List (Int × Int)) (hA : Rl w A rs) (hm : m = rs.length) (hn : m ≤ 1048576) (ho : gpO rs = true) :
    Calls Try.prog 85 #[.slice A m c] w fun en w' => (∃ g c1, en = .returned (.tuple #[.slice (some ⟨g, 0, none⟩) (gpA rs).length c1, .bool true]) ∧ g < w'.heap.size ∧
      ∀ j, j < (gpA rs).length → w'.cell? ⟨g, j, none⟩ = some (.int .i64 (ivL (gpA rs) j))) ∧ Below w.heap.size w w' :=
  (gpLeft_c w A m c rs hA hm hn).mono fun e w' h => by
    obtain ⟨⟨u, rfl, ou⟩, b⟩ := h
    have hpos := (gpO_parts ho).2
    have fu := own_forms ou
    have nu : ¬ gpA rs = [] := fun h => by rw [h] at hpos; simp at hpos
    obtain ⟨g2, c2, rfl, _, h2, _⟩ := fu.resolve_left fun h => nu h.2
    exact ⟨⟨g2, c2, by rw [ho], h2, fun j hj => (World.ownsRow.cellAt ou j (by omega)).trans (ivL_get _ _ hj)⟩, b⟩

/-- How many of the first k that are left have one that is left q further on. -/
def ppN (rs : List (Int × Int)) (q : Int) : Nat → Nat
  | 0 => 0
  | k + 1 => if leftF rs (ivL (gpA rs) k + q) = true then ppN rs q k + 1 else ppN rs q k
theorem ppN_le (rs : List (Int × Int)) (q : Int) : ∀ k, ppN rs q k ≤ k
  | 0 => Nat.le_refl _
  | k + 1 => by have := ppN_le rs q k; rw [ppN]; split <;> omega
theorem ppN_yes {rs : List (Int × Int)} {q : Int} {k : Nat} (h : leftF rs (ivL (gpA rs) k + q) = true) : ppN rs q (k + 1) = ppN rs q k + 1 := by rw [ppN, if_pos h]
theorem ppN_no {rs : List (Int × Int)} {q : Int} {k : Nat} (h : leftF rs (ivL (gpA rs) k + q) = false) : ppN rs q (k + 1) = ppN rs q k := by rw [ppN, if_neg (by rw [h]; decide)]
def ppO (rs : List (Int × Int)) (q : Int) : Bool := gpO rs && inB q 0 1000
def ppV (rs : List (Int × Int)) (q : Int) : Int := if ppO rs q then (ppN rs q (gpA rs).length : Int) else 0
theorem ppV_no {rs : List (Int × Int)} {q : Int} (h : ppO rs q = false) : ppV rs q = 0 := by rw [ppV, h]; rfl
theorem ppV_yes {rs : List (Int × Int)} {q : Int} (h : ppO rs q = true) : ppV rs q = (ppN rs q (gpA rs).length : Int) := by rw [ppV, h]; rfl
set_option maxRecDepth 100000 in
set_option maxHeartbeats 1000000 in
theorem spec_PairsInPeriod_c (w : World) (A : Option Addr) (m c : Nat) (rs : List (Int × Int)) (hA : Rl w A rs) (hm : m = rs.length) (hn : m ≤ 1048576) (q : Int) :
    Calls Try.prog 49 #[.slice A m c, .int .i64 q] w fun en w' => en = .returned (.tuple #[.int .i64 (ppV rs q), .bool (ppO rs q)]) ∧ Below w.heap.size w w' := by
  have Hm := Lib.hid hm
  cases ho : gpO rs with
  | false =>
    have Hc := Lib.hid (gpLeftF_c w A m c rs hA hm hn ho)
    have hq : ppO rs q = false := by rw [ppO, ho]; rfl
    rw [ppV_no hq, hq]
    clear hq
    clear ho hm
    go_enter Try.func49, Try.ntmps49
    go_wp2_with fail
    refine Hc.out.mono ?_
    rintro e w2 ⟨⟨A1, c1, rfl⟩, b2⟩
    go_wp2
    go_ret2
    exact ⟨rfl, b2⟩
  | true =>
    have Hc := Lib.hid (gpLeftT_c w A m c rs hA hm hn ho)
    have hGd := (perOk_parts (gpO_parts ho).1).1
    have HG := Lib.hid hGd
    have hpos := (gpO_parts ho).2
    have hl9 := gpA_len rs
    have hP9 := (perOk_parts (gpO_parts ho).1).2.2.2
    have Hab := Lib.hid (fun k (hk : k < (gpA rs).length) => gpA_at hk)
    cases hq1 : inB q 0 1000 with
    | false =>
      have hq : ppO rs q = false := by rw [ppO, hq1, Bool.and_false]
      have Hi := l1In_c q 0 1000
      rw [hq1] at Hi
      have HI := Lib.hid Hi
      rw [ppV_no hq, hq]
      clear hq ho hq1 hm hpos hl9 Hab hP9 hGd Hi
      go_enter Try.func49, Try.ntmps49
      go_wp2_with fail
      refine Hc.out.mono ?_
      rintro e w2 ⟨⟨g, c1, rfl, hg, _⟩, b2⟩
      go_wp2_with fail
      refine (HI.out _).mono ?_
      rintro e w3 ⟨rfl, rfl⟩
      go_wp2
      go_ret2
      exact ⟨rfl, b2⟩
    | true =>
      obtain ⟨q1, q2⟩ := inB_true.1 hq1
      have hq : ppO rs q = true := by rw [ppO, hq1, ho]; rfl
      have Hi := l1In_c q 0 1000
      rw [hq1] at Hi
      have HI := Lib.hid Hi
      rw [ppV_yes hq, hq]
      have Hyes := Lib.hid (fun k => @ppN_yes rs q k)
      have Hnop := Lib.hid (fun k => @ppN_no rs q k)
      clear hq ho hq1 hm hGd Hi
      obtain ⟨S, hS⟩ : ∃ S, (gpA rs).length = S := ⟨_, rfl⟩
      have HS := Lib.hid hS
      rw [hS] at Hc hpos hl9 Hab
      rw [hS]
      clear hS
      obtain ⟨P, hP⟩ : ∃ P, perF rs = P := ⟨_, rfl⟩
      rw [hP] at Hab hP9
      clear hP
      go_enter Try.func49, Try.ntmps49
      go_wp2_with fail
      refine Hc.out.mono ?_
      rintro e w2 ⟨⟨g, c1, rfl, hg, hca⟩, b2⟩
      have Hca := Lib.hid hca
      have hSI : (0 : Int) < (S : Int) := by omega
      have hs2 := b2.size
      have hA2 := hA.below b2
      clear hca
      go_wp2_with fail
      refine (HI.out _).mono ?_
      rintro e w3 ⟨rfl, rfl⟩
      go_wp2
      go_loopw [8, 10, 25] (fun n _ i wr => ∃ k : Nat, k ≤ S ∧ i = .int .i64 (k : Int) ∧ n = .int .i64 (ppN rs q k : Int) ∧ Below w2.heap.size w2 wr) (fun _ _ i _ => S - (intOf i).toNat)
      case atStart => exact ⟨0, Nat.zero_le _, rfl, rfl, Below.refl _ _⟩
      case round =>
        obtain ⟨k, hk, rfl, rfl, hbel⟩ := hrel
        have hcl := ppN_le rs q k
        have hs := hbel.size
        have hR := hA2.below hbel
        by_cases hlt : k < S
        · have hck := (hbel.cell (p := ⟨g, k, none⟩) hg).trans (Hca.out k hlt)
          have hki : (k : Int) < (S : Int) := by omega
          have hab := Hab.out k hlt
          have hyes := Hyes.out k
          have hnop := Hnop.out k
          obtain ⟨x, hx⟩ : ∃ x, ivL (gpA rs) k = x := ⟨_, rfl⟩
          rw [hx] at hck hab hyes hnop
          have hx0 := hab.1
          have hx1 : x ≤ 100000 := by have := hab.2.1; omega
          clear hx hab
          have hw : IntKind.i64.wrap (x + q) = x + q := IntWalk.i64_in _ (by omega)
          have Hc2 := siLeft_c A c m rs (x + q) wr hR Hm.out HG.out (by omega) (by omega)
          cases hl : leftF rs (x + q) with
          | true =>
            have Hy := Lib.hid (hyes hl)
            rw [hl] at Hc2
            have HC := Lib.hid Hc2
            clear hl Hc2 hyes hnop
            go_wp2_with fail
            refine (HC.out).mono ?_
            rintro e w5 ⟨rfl, b5⟩
            go_wp2
            go_roundw
            case rel => exact ⟨k + 1, by omega, by go_num, by rw [Hy.out]; go_num, hbel.trans (b5.mono hs)⟩
            case measure => simp [intOf]; omega
          | false =>
            have Hy := Lib.hid (hnop hl)
            rw [hl] at Hc2
            have HC := Lib.hid Hc2
            clear hl Hc2 hyes hnop
            go_wp2_with fail
            refine (HC.out).mono ?_
            rintro e w5 ⟨rfl, b5⟩
            go_wp2
            go_roundw
            case rel => exact ⟨k + 1, by omega, by go_num, by rw [Hy.out], hbel.trans (b5.mono hs)⟩
            case measure => simp [intOf]; omega
        · have Hk := Lib.hid (show k = S by omega)
          go_wp2
          go_ret2
          exact ⟨by rw [← Hk.out]; rfl, b2.trans (hbel.mono hs2)⟩

end Go.Proofs.Ytoapidcbmlnjcaa
