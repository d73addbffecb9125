import Derived.Test.YtoapidcbmlnjcaaQ3
import Derived.Test.YtoapidcbmlnjcaaB0
import Derived.Test.YtoapidcbmlnjcaaGB
import Derived.StillTailTactics
namespace Go.Proofs.Ytoapidcbmlnjcaa
open Go.RowKit
set_option linter.unusedVariables false
set_option linter.unusedSimpArgs false

def rgV (rs : List (Int × Int)) (n : Int) : List (List Int) := if okM rs n then (rcG (upF (leftF rs) n.toNat) ((upF (leftF rs) n.toNat).length - 1)).2 else []
theorem rgV_no {rs : List (Int × Int)} {n : Int} (h : okM rs n = false) : rgV rs n = [] := by rw [rgV, h]; rfl
theorem rgV_yes {rs : List (Int × Int)} {n : Nat} (h : okM rs (n : Int) = true) : rgV rs (n : Int) = (rcG (upF (leftF rs) n) ((upF (leftF rs) n).length - 1)).2 := by rw [rgV, h, Int.toNat_natCast]; rfl
set_option maxRecDepth 100000 in
set_option maxHeartbeats 1600000 in
theorem spec_RecordGaps_c (w : World) (A : Option Addr) (m c : Nat) (rs : List (Int × Int)) (hA : Rl w A rs) (hm : m = rs.length) (hn : m ≤ 1048576) (n : Int) :
    Calls Try.prog 36 #[.slice A m c, .int .i64 n] w fun en w' => (∃ v, en = .returned (.tuple #[v, .bool (okM rs n)]) ∧ OwnLL w' w.heap.size v (rgV rs n)) ∧ Below w.heap.size w w' := by
  have Hm := Lib.hid hm
  clear hm
  cases hg : okM rs n with
  | false =>
    rw [rgV_no hg]
    go_enter Try.func36, Try.ntmps36
    go_wp2_with fail
    refine (siMost_c _ _ _ _ rs hA Hm.out hn _).mono ?_
    rintro e w1 ⟨rfl, b1⟩
    have hA_1 := hA.below b1
    go_wp2
    go_ret2
    exact ⟨⟨_, rfl, OwnLL.nil _ _⟩, b1⟩
  | true =>
    obtain ⟨g1, g2, g3⟩ := okM_most hg
    obtain ⟨M, rfl⟩ := Int.eq_ofNat_of_zero_le g2
    rw [rgV_yes hg]
    have G1 := Lib.hid g1
    have hul := upF_len (leftF rs) M
    have HU := Lib.hid (fun k (hk : k < (upF (leftF rs) M).length) => upF_in hk)
    have Hsl := fun W hb => siList_c W A m c rs hb Hm.out G1.out M (by omega)
    obtain ⟨L, hL⟩ : ∃ L, upF (leftF rs) M = L := ⟨_, rfl⟩
    rw [hL] at hul HU Hsl ⊢
    obtain ⟨S, hS⟩ : ∃ S, L.length = S := ⟨_, rfl⟩
    have HS := Lib.hid hS
    rw [hS] at hul HU ⊢
    have HSl := Lib.hid Hsl
    have HY := Lib.hid (fun k => @rcG_yes L k)
    have HN := Lib.hid (fun k => @rcG_no L k)
    have HZ := Lib.hid (rcG_len L)
    clear g1 hL hS Hsl
    have Hg := Lib.hid hg
    go_enter Try.func36, Try.ntmps36
    go_wp2_with fail
    refine (siMost_c _ _ _ _ rs hA Hm.out hn _).mono ?_
    rintro e w1 ⟨rfl, b1⟩
    have hA_1 := hA.below b1
    go_wp2_with fail
    refine (HSl.out _ hA_1).mono ?_
    rintro e w2 ⟨⟨v2, rfl, o2⟩, b2⟩
    have hA_2 := hA_1.below b2
    have bb2 := b1.trans (b2.mono b1.size)
    have hs2 := b2.size
    have O2 := Lib.hid o2
    have Hf := Lib.hid (own_forms o2)
    obtain ⟨A2, m2, c2, hv2⟩ : ∃ A2 m2 c2, v2 = .slice A2 m2 c2 := by obtain ⟨A, c, e⟩ := o2.shape; exact ⟨A, _, c, e⟩
    subst hv2
    have hmS : m2 = S := by
      rcases Hf.out with ⟨e, h0⟩ | ⟨g, c, e, _⟩
      · simp only [Value.slice.injEq] at e
        have h := HS.out
        rw [h0] at h
        simp at h
        omega
      · simp only [Value.slice.injEq] at e
        rw [e.2.1, HS.out]
    have Hcl := Lib.hid (fun (hp : 0 < S) => show ∃ g, A2 = some ⟨g, 0, none⟩ ∧ g < w2.heap.size ∧ ∀ j, j < S → w2.cell? ⟨g, j, none⟩ = some (.int .i64 (ivL L j)) from by
      rcases Hf.out with ⟨e, h0⟩ | ⟨g, c, e, _, h2, _⟩
      · have h := HS.out
        rw [h0] at h
        simp at h
        omega
      · simp only [Value.slice.injEq] at e
        obtain ⟨rfl, _, rfl⟩ := e
        exact ⟨g, rfl, h2, fun j hj => (World.ownsRow.cellAt (OwnI.own_n O2.out (hmS.trans HS.out.symm)) j (by omega)).trans (ivL_get L j (by rw [HS.out]; exact hj))⟩)
    rw [hmS]
    clear o2 hmS
    go_wp2
    go_loopw [7, 8, 9] (fun v z i wr => ∃ k K : Nat, K = k + 1 ∧ k ≤ S - 1 ∧ i = .int .i64 (K : Int) ∧ z = .int .i64 (rcG L k).1 ∧ OwnLL wr w2.heap.size v (rcG L k).2 ∧ Below w2.heap.size w2 wr) (fun _ _ i _ => S + 1 - (intOf i).toNat)
    case atStart => exact ⟨0, 1, rfl, Nat.zero_le _, rfl, rfl, OwnLL.nil _ _, Below.refl _ _⟩
    case round =>
      obtain ⟨k, K, hK, hk, rfl, rfl, hown, hbel⟩ := hrel
      have hs := hbel.size
      have hKp : (K : Int) - 1 = (k : Int) := by omega
      have HK := Lib.hid hK
      by_cases hlt : K < S
      · obtain ⟨g, rfl, hg2, hcl⟩ := Hcl.out (by omega)
        have hc1 := (hbel.cell (p := ⟨g, K, none⟩) hg2).trans (hcl K hlt)
        have hc0 := (hbel.cell (p := ⟨g, k, none⟩) hg2).trans (hcl k (by omega))
        have hu1 := HU.out K hlt
        have hu0 := HU.out k (by omega)
        have hy := HY.out k
        have hno := HN.out k
        rw [← hK] at hy hno
        obtain ⟨X1, hX1⟩ : ∃ X1, ivL L K = X1 := ⟨_, rfl⟩
        obtain ⟨X0, hX0⟩ : ∃ X0, ivL L k = X0 := ⟨_, rfl⟩
        rw [hX1] at hc1 hu1 hy hno
        rw [hX0] at hc0 hu0 hy hno
        have Hl := Lib.hid (show (rcG L k).2.length ≤ 1000 by have := HZ.out k; omega)
        obtain ⟨z, hz⟩ : ∃ z, (rcG L k).1 = z := ⟨_, rfl⟩
        obtain ⟨R, hR⟩ : ∃ R, (rcG L k).2 = R := ⟨_, rfl⟩
        rw [hz] at hy hno ⊢
        rw [hR] at hy hown Hl
        have Hz := Lib.hid hz
        have HR := Lib.hid hR
        have Hown := Lib.hid hown
        have hni : (K : Int) < (S : Int) := by omega
        have hkS : (k : Int) < (S : Int) := by omega
        have hb0 : (0 : Int) ≤ (k : Int) := Int.natCast_nonneg k
        have hb1 : (0 : Int) ≤ (K : Int) := Int.natCast_nonneg K
        have hw0 : IntKind.i64.wrap (k : Int) = (k : Int) := IntWalk.i64_in _ (by omega)
        have hw1 : IntKind.i64.wrap (X1 - X0) = X1 - X0 := IntWalk.i64_in _ (by omega)
        by_cases hd : z < X1 - X0
        · have Hy := Lib.hid (hy hd)
          clear hy hno hX1 hX0 hz hR hown hcl hK
          have Ho2 : ∀ nq, Hid (OwnI ((wr.drewN nq).alloc (.cells #[.int .i64 X0, .int .i64 (X1 - X0)] 3)) w2.heap.size (.slice (some ⟨wr.heap.size, 0, none⟩) 2 2) [X0, X1 - X0]) := fun nq => by
            have h := own_two (wr.drewN nq) w2.heap.size (by simp; omega) X0 (X1 - X0)
            rw [show (wr.drewN nq).heap.size = wr.heap.size by simp] at h
            exact h
          go_wp2_with fail
          go_quiet (fail)
          rename_i nq
          have ho2 := Lib.hid (Ho2 nq).out
          have hwn : (wr.drewN nq).heap.size = wr.heap.size := by simp
          go_wp2_with (at_builtin; (refine wp_app_ll _ _ rfl _ _ rfl w2.heap.size _ _ rfl (wr.drewN nq) (OwnLL.below Hown.out (below_drewN (Below.refl _ _) _)) ((Below.refl _ _).alloc (Nat.le_refl _) _) _ ho2.out (fun q hq => by simp [Value.ownBlock] at hq; omega) _ rfl (by simp) (by have := Hl.out; omega) (by simp; omega) ?_); intro v' w4 hown4 b4)
          go_roundw
          case rel => exact ⟨K, K + 1, rfl, by omega, by go_num, by rw [Hy.out], by rw [Hy.out]; exact hown4, ((below_drewN hbel _).alloc (by rw [hwn]; exact hs) _).trans b4⟩
          case measure => simp [intOf]; omega
        · have Hno := Lib.hid (hno (by omega))
          clear hy hno hX1 hX0 hz hR hown hcl hK
          go_wp2_with fail
          go_quiet (fail)
          go_wp2
          go_roundw
          case rel => exact ⟨K, K + 1, rfl, by omega, by go_num, by rw [Hno.out, Hz.out], by rw [Hno.out, HR.out]; exact OwnLL.below Hown.out (below_drewN (Below.refl _ _) _), below_drewN hbel _⟩
          case measure => simp [intOf]; omega
      · have Hk := Lib.hid (show k = S - 1 by omega)
        have Hown := Lib.hid hown
        have hni : (S : Int) ≤ (K : Int) := by omega
        clear hK hown
        go_wp2
        go_ret2
        exact ⟨⟨_, rfl, by rw [← Hk.out]; exact OwnLL.mono Hown.out (Nat.le_trans (bb2).size (Nat.le_refl _))⟩, (bb2).trans (hbel.mono (bb2).size)⟩

end Go.Proofs.Ytoapidcbmlnjcaa
