import Derived.Test.YtoapidcbmlnjcaaQ1
import Derived.Test.YtoapidcbmlnjcaaB0
import Derived.Test.YtoapidcbmlnjcaaGB
import Derived.Test.YtoapidcbmlnjcaaP4
import Derived.StillTailTactics
namespace Go.Proofs.Ytoapidcbmlnjcaa
open Go.RowKit
set_option linter.unusedVariables false
set_option linter.unusedSimpArgs false

theorem upF_in {p : Int → Bool} {M k : Nat} (h : k < (upF p M).length) : 1 ≤ ivL (upF p M) k ∧ ivL (upF p M) k ≤ (M : Int) := by
  have hm : ivL (upF p M) k ∈ upF p M := by simp [ivL, h]
  generalize ivL (upF p M) k = x at *
  simp only [upF, List.mem_filter, List.mem_map, List.mem_range] at hm
  obtain ⟨⟨i, h1, h2⟩, _⟩ := hm
  omega
def guV (rs : List (Int × Int)) (n : Int) : List Int := if okM rs n then dfL (upF (leftF rs) n.toNat) ((upF (leftF rs) n.toNat).length - 1) else []
theorem guV_no {rs : List (Int × Int)} {n : Int} (h : okM rs n = false) : guV rs n = [] := by rw [guV, h]; rfl
theorem guV_yes {rs : List (Int × Int)} {n : Nat} (h : okM rs (n : Int) = true) : guV rs (n : Int) = dfL (upF (leftF rs) n) ((upF (leftF rs) n).length - 1) := by rw [guV, h, Int.toNat_natCast]; rfl
theorem guV_len (rs : List (Int × Int)) (n : Int) : (guV rs n).length ≤ 1048576 := by
  cases h : okM rs n with
  | false => rw [guV_no h]; exact Nat.zero_le _
  | true =>
    obtain ⟨g1, g2, g3⟩ := okM_most h
    rw [guV, h, if_pos rfl, dfL_len]
    have := upF_len (leftF rs) n.toNat
    omega
set_option maxRecDepth 100000 in
set_option maxHeartbeats 1200000 in
theorem spec_GapsUpTo_c (w : World) (A : Option Addr) (m c : Nat) (rs : List (Int × Int)) (hA : Rl w A rs) (hm : m = rs.length) (hn : m ≤ 1048576) (n : Int) :
    Calls Try.prog 24 #[.slice A m c, .int .i64 n] w fun en w' => (∃ v, en = .returned (.tuple #[v, .bool (okM rs n)]) ∧ OwnI w' w.heap.size v (guV rs n)) ∧ Below w.heap.size w w' := by
  have Hm := Lib.hid hm
  clear hm
  cases hg : okM rs n with
  | false =>
    rw [guV_no hg]
    go_enter Try.func24, Try.ntmps24
    go_wp2_with fail
    refine (siMost_c _ _ _ _ rs hA Hm.out hn _).mono ?_
    rintro e w1 ⟨rfl, b1⟩
    have hA_1 := hA.below b1
    go_wp2
    go_ret2
    exact ⟨⟨_, rfl, OwnI.nil _ _⟩, b1⟩
  | true =>
    obtain ⟨g1, g2, g3⟩ := okM_most hg
    obtain ⟨M, rfl⟩ := Int.eq_ofNat_of_zero_le g2
    rw [guV_yes hg]
    have G1 := Lib.hid g1
    have hul := upF_len (leftF rs) M
    have HU := Lib.hid (fun k (hk : k < (upF (leftF rs) M).length) => upF_in hk)
    have Hsl := fun W hb => siList_c W A m c rs hb Hm.out G1.out M (by omega)
    obtain ⟨L, hL⟩ : ∃ L, upF (leftF rs) M = L := ⟨_, rfl⟩
    rw [hL] at hul HU Hsl ⊢
    obtain ⟨S, hS⟩ : ∃ S, L.length = S := ⟨_, rfl⟩
    have HS := Lib.hid hS
    rw [hS] at hul HU ⊢
    have HSl := Lib.hid Hsl
    have HY := Lib.hid (fun k => dfL_succ L k)
    clear g1 hL hS Hsl
    have Hg := Lib.hid hg
    go_enter Try.func24, Try.ntmps24
    go_wp2_with fail
    refine (siMost_c _ _ _ _ rs hA Hm.out hn _).mono ?_
    rintro e w1 ⟨rfl, b1⟩
    have hA_1 := hA.below b1
    go_wp2_with fail
    refine (HSl.out _ hA_1).mono ?_
    rintro e w2 ⟨⟨v2, rfl, o2⟩, b2⟩
    have hA_2 := hA_1.below b2
    have bb2 := b1.trans (b2.mono b1.size)
    have hs2 := b2.size
    have O2 := Lib.hid o2
    have Hf := Lib.hid (own_forms o2)
    obtain ⟨A2, m2, c2, hv2⟩ : ∃ A2 m2 c2, v2 = .slice A2 m2 c2 := by obtain ⟨A, c, e⟩ := o2.shape; exact ⟨A, _, c, e⟩
    subst hv2
    have hmS : m2 = S := by
      rcases Hf.out with ⟨e, h0⟩ | ⟨g, c, e, _⟩
      · simp only [Value.slice.injEq] at e
        have h := HS.out
        rw [h0] at h
        simp at h
        omega
      · simp only [Value.slice.injEq] at e
        rw [e.2.1, HS.out]
    have Hcl := Lib.hid (fun (hp : 0 < S) => show ∃ g, A2 = some ⟨g, 0, none⟩ ∧ g < w2.heap.size ∧ ∀ j, j < S → w2.cell? ⟨g, j, none⟩ = some (.int .i64 (ivL L j)) from by
      rcases Hf.out with ⟨e, h0⟩ | ⟨g, c, e, _, h2, _⟩
      · have h := HS.out
        rw [h0] at h
        simp at h
        omega
      · simp only [Value.slice.injEq] at e
        obtain ⟨rfl, _, rfl⟩ := e
        exact ⟨g, rfl, h2, fun j hj => (World.ownsRow.cellAt (OwnI.own_n O2.out (hmS.trans HS.out.symm)) j (by omega)).trans (ivL_get L j (by rw [HS.out]; exact hj))⟩)
    rw [hmS]
    clear o2 hmS
    go_wp2
    go_loopw [7, 8] (fun v i wr => ∃ k K : Nat, K = k + 1 ∧ k ≤ S - 1 ∧ i = .int .i64 (K : Int) ∧ OwnI wr w2.heap.size v (dfL L k) ∧ Below w2.heap.size w2 wr) (fun _ i _ => S + 1 - (intOf i).toNat)
    case atStart => exact ⟨0, 1, rfl, Nat.zero_le _, rfl, OwnI.nil _ _, Below.refl _ _⟩
    case round =>
      obtain ⟨k, K, hK, hk, rfl, hown, hbel⟩ := hrel
      have Hown := Lib.hid hown
      clear hown
      have hs := hbel.size
      have hKp : (K : Int) - 1 = (k : Int) := by omega
      have HK := Lib.hid hK
      by_cases hlt : K < S
      · obtain ⟨g, rfl, hg2, hcl⟩ := Hcl.out (by omega)
        have hc1 := (hbel.cell (p := ⟨g, K, none⟩) hg2).trans (hcl K hlt)
        have hc0 := (hbel.cell (p := ⟨g, k, none⟩) hg2).trans (hcl k (by omega))
        have hu1 := HU.out K hlt
        have hu0 := HU.out k (by omega)
        have hy := HY.out k
        rw [← hK] at hy
        obtain ⟨X1, hX1⟩ : ∃ X1, ivL L K = X1 := ⟨_, rfl⟩
        obtain ⟨X0, hX0⟩ : ∃ X0, ivL L k = X0 := ⟨_, rfl⟩
        rw [hX1] at hc1 hu1 hy
        rw [hX0] at hc0 hu0 hy
        have Hy := Lib.hid hy
        have Hl := Lib.hid (show (dfL L k).length ≤ 1000 by rw [dfL_len]; omega)
        have hni : (K : Int) < (S : Int) := by omega
        have hkS : (k : Int) < (S : Int) := by omega
        have hw0 : IntKind.i64.wrap (k : Int) = (k : Int) := IntWalk.i64_in _ (by omega)
        have hw1 : IntKind.i64.wrap (X1 - X0) = X1 - X0 := IntWalk.i64_in _ (by omega)
        clear hX1 hX0 hy hcl hK
        have hne := fun q hq => (World.ownsRow.lt Hown.out q hq).1
        have hb0 : (0 : Int) ≤ (k : Int) := Int.natCast_nonneg k
        have hb1 : (0 : Int) ≤ (K : Int) := Int.natCast_nonneg K
        go_wp2_with fail
        go_region_held3 (fun w' => w'.cell? ⟨g, K, none⟩ = some (.int .i64 X1) ∧ w'.cell? ⟨g, k, none⟩ = some (.int .i64 X0))
          (go_keep)
          (first | (refine step_app_int wr (by rfl) _ _ (by rfl) w2.heap.size _ _ (by rfl) Hown.out (X1 - X0) (by rfl) (by have := Hl.out; omega) hs ?_; intro v' w6 hown6 hgr; have hq0 := hgr.cell hc1 (fun e => by have := hne _ e.symm; simp at this; omega); have hq1 := hgr.cell hc0 (fun e => by have := hne _ e.symm; simp at this; omega)))
        clear hw0 hw1
        go_wp2
        go_roundw
        case rel => exact ⟨K, K + 1, rfl, by omega, by go_num, by rw [Hy.out]; exact hown6, hbel.trans (below_of_grown hgr hs fun q hq => (World.ownsRow.lt Hown.out q hq).1)⟩
        case measure => simp [intOf]; omega
      · have Hk := Lib.hid (show k = S - 1 by omega)
        have hni : (S : Int) ≤ (K : Int) := by omega
        clear hK
        go_wp2
        go_ret2
        exact ⟨⟨_, rfl, by rw [← Hk.out]; exact OwnI.mono Hown.out (Nat.le_trans (bb2).size (Nat.le_refl _))⟩, (bb2).trans (hbel.mono (bb2).size)⟩

/-- Whether all of 1 to k are crossed out. -/
def covB (rs : List (Int × Int)) (k : Nat) : Bool := (List.range k).all fun i => !leftF rs ((i : Int) + 1)
theorem covB_no {rs : List (Int × Int)} {k i : Nat} (hi : i < k) (h : leftF rs ((i : Int) + 1) = true) : covB rs k = false := by
  rw [covB, List.all_eq_false]
  exact ⟨i, List.mem_range.2 hi, by rw [h]; decide⟩
theorem covB_yes {rs : List (Int × Int)} {k : Nat} (h : ∀ i, i < k → leftF rs ((i : Int) + 1) = false) : covB rs k = true := by
  rw [covB, List.all_eq_true]
  exact fun i hi => by rw [h i (List.mem_range.1 hi)]; rfl
set_option maxRecDepth 100000 in
set_option maxHeartbeats 600000 in
theorem gpCovers_c (w : World) (A : Option Addr) (m c : Nat) (rs : List (Int × Int)) (hA : Rl w A rs) (hm : m = rs.length) (hg : goodL rs = true) (M : Nat) (hM : M ≤ 1000) :
    Calls Try.prog 99 #[.slice A m c, .int .i64 (M : Int)] w fun en w' => en = .returned (.bool (covB rs M)) ∧ Below w.heap.size w w' := by
  have Hm := Lib.hid hm
  have Hg := Lib.hid hg
  clear hm hg
  go_enter Try.func99, Try.ntmps99
  go_wp2
  go_loopw [5] (fun i wr => ∃ k : Nat, k ≤ M ∧ i = .int .i64 ((k : Int) + 1) ∧ (∀ j, j < k → leftF rs ((j : Int) + 1) = false) ∧ Below w.heap.size w wr) (fun i _ => M + 2 - (intOf i).toNat)
  case atStart => exact ⟨0, Nat.zero_le _, rfl, fun j h => by omega, Below.refl _ _⟩
  case round =>
    obtain ⟨k, hk, rfl, hall, hbel⟩ := hrel
    have Hall := Lib.hid hall
    clear hall
    have hs := hbel.size
    have hR := hA.below hbel
    by_cases hlt : k < M
    · have Hc := fun W hW => siLeft_c A c m rs ((k : Int) + 1) W hW Hm.out Hg.out (by omega) (by omega)
      cases hl : leftF rs ((k : Int) + 1) with
      | true =>
        rw [hl] at Hc
        have HC := Lib.hid Hc
        have Hno := Lib.hid (covB_no (rs := rs) (k := M) (i := k) hlt hl)
        clear hl Hc
        go_wp2_with fail
        refine (HC.out _ hR).mono ?_
        rintro e w5 ⟨rfl, b5⟩
        go_wp2
        go_ret
        exact ⟨by rw [Hno.out]; rfl, hbel.trans (b5.mono hs)⟩
      | false =>
        rw [hl] at Hc
        have HC := Lib.hid Hc
        have Hl := Lib.hid hl
        clear hl Hc
        go_wp2_with fail
        refine (HC.out _ hR).mono ?_
        rintro e w5 ⟨rfl, b5⟩
        go_wp2
        go_roundw
        case rel => exact ⟨k + 1, by omega, by go_num, fun j hj => by
          rcases Nat.lt_succ_iff_lt_or_eq.1 hj with h | h
          · exact Hall.out j h
          · rw [h]; exact Hl.out, hbel.trans (b5.mono hs)⟩
        case measure => simp [intOf]; omega
    · have Hy := Lib.hid (covB_yes (rs := rs) (k := M) fun i hi => Hall.out i (by omega))
      go_wp2
      go_ret
      exact ⟨by rw [Hy.out]; rfl, hbel⟩
def icO (rs : List (Int × Int)) (n : Int) : Bool := goodL rs && inB n 0 40
def icV (rs : List (Int × Int)) (n : Int) : Bool := icO rs n && covB rs n.toNat
theorem icV_no {rs : List (Int × Int)} {n : Int} (h : icO rs n = false) : icV rs n = false := by rw [icV, h]; rfl
theorem icV_yes {rs : List (Int × Int)} {n : Nat} (h : icO rs (n : Int) = true) : icV rs (n : Int) = covB rs n := by rw [icV, h, Int.toNat_natCast]; rfl
set_option maxRecDepth 100000 in
set_option maxHeartbeats 400000 in
theorem spec_IsCover_c (w : World) (A : Option Addr) (m c : Nat) (rs : List (Int × Int)) (hA : Rl w A rs) (hm : m = rs.length) (hn : m ≤ 1048576) (n : Int) :
    Calls Try.prog 61 #[.slice A m c, .int .i64 n] w fun en w' => en = .returned (.tuple #[.bool (icV rs n), .bool (icO rs n)]) ∧ Below w.heap.size w w' := by
  have Hm := Lib.hid hm
  clear hm
  cases hg : goodL rs with
  | false =>
    have ho : icO rs n = false := by simp [icO, *]
    rw [icV_no ho, ho]
    clear ho
    go_enter Try.func61, Try.ntmps61
    go_wp2_with fail
    refine (good_c _ _ _ rs _ hA Hm.out hn).mono ?_
    rintro e w1 ⟨rfl, b1⟩
    have hA_1 := hA.below b1
    go_wp2
    go_ret2
    exact ⟨rfl, b1⟩
  | true =>
    cases hh : inB n 0 40 with
    | false =>
      have ho : icO rs n = false := by simp [icO, *]
      rw [icV_no ho, ho]
      clear ho
      go_enter Try.func61, Try.ntmps61
      go_wp2_with fail
      refine (good_c _ _ _ rs _ hA Hm.out hn).mono ?_
      rintro e w1 ⟨rfl, b1⟩
      have hA_1 := hA.below b1
      go_wp2_with fail
      refine (l1In_c _ _ _ _).mono ?_
      rintro e w2 ⟨rfl, rfl⟩
      go_wp2
      go_ret2
      exact ⟨rfl, b1⟩
    | true =>
      have ho : icO rs n = true := by simp [icO, *]
      obtain ⟨n1, n2⟩ := inB_true.1 hh
      obtain ⟨M, rfl⟩ := Int.eq_ofNat_of_zero_le n1
      rw [icV_yes ho, ho]
      clear ho
      have Hg := Lib.hid hg
      have Hh := Lib.hid hh
      go_enter Try.func61, Try.ntmps61
      go_wp2_with fail
      refine (good_c _ _ _ rs _ hA Hm.out hn).mono ?_
      rintro e w1 ⟨rfl, b1⟩
      have hA_1 := hA.below b1
      go_wp2_with fail
      refine (l1In_c _ _ _ _).mono ?_
      rintro e w2 ⟨rfl, rfl⟩
      go_wp2_with fail
      refine (gpCovers_c _ _ _ _ rs hA_1 Hm.out Hg.out M (by omega)).mono ?_
      rintro e w3 ⟨rfl, b3⟩
      have hA_3 := hA_1.below b3
      have bb3 := b1.trans (b3.mono b1.size)
      go_wp2
      go_ret2
      exact ⟨rfl, bb3⟩

end Go.Proofs.Ytoapidcbmlnjcaa
