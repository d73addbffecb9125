import Derived.Test.YtoapidcbmlnjcaaIB
import Derived.Test.YtoapidcbmlnjcaaPD
import Derived.Test.YtoapidcbmlnjcaaQ2
import Derived.Test.YtoapidcbmlnjcaaQ3
namespace Go.Proofs.Ytoapidcbmlnjcaa
open Go.RowKit
set_option linter.unusedVariables false
set_option linter.unusedSimpArgs false

theorem cnE_tm (xs : List Int) (q : Int) : ∀ k, cnE xs q k = tmN xs q k
  | 0 => rfl
  | k + 1 => by rw [cnE, tmN, cnE_tm xs q k]
set_option maxRecDepth 100000 in
set_option maxHeartbeats 800000 in
theorem impl_CountGaps_c (w : World) (A : Option Addr) (m c : Nat) (rs : List (Int × Int)) (hA : Rl w A rs) (hm : m = rs.length) (hn : m ≤ 1048576) (q : Int) :
    Calls Try.prog 35 #[.slice A m c, .int .i64 q] w fun en w' => en = .returned (.tuple #[.int .i64 (cgV rs q), .bool (cgO rs q)]) ∧ Below w.heap.size w w' := by
  have hD := impl_GapsOfPeriod_c w A m c rs hA hm hn
  have Hgl := Lib.hid (gpGA_len rs)
  have h9 := gpA_len rs
  clear hA hm
  cases ho : gpO rs with
  | false =>
    rw [ho] at hD
    have HD := Lib.hid hD
    have hq : cgO rs q = false := by rw [cgO, ho]; rfl
    rw [cgV_no hq, hq]
    clear hq ho hD h9
    go_enter Try.func35, Try.ntmps35
    go_wp2_with fail
    refine HD.out.mono ?_
    rintro e w2 ⟨⟨v2, rfl, o2⟩, b2⟩
    obtain ⟨A2, c2, hv2, _⟩ := own_row o2
    obtain ⟨n2, hn2⟩ : ∃ n, (gpGA rs).length = n := ⟨_, rfl⟩
    rw [hn2] at hv2
    subst hv2
    clear o2 hn2
    go_wp2
    go_ret2
    exact ⟨rfl, b2⟩
  | true =>
    rw [ho] at hD
    have HD := Lib.hid hD
    by_cases hq1 : 1 ≤ q
    · have hq : cgO rs q = true := by rw [cgO, ho, decide_eq_true hq1]; rfl
      rw [cgV_yes hq, hq, cnE_tm]
      clear hq ho hD
      go_enter Try.func35, Try.ntmps35
      go_wp2_with fail
      refine HD.out.mono ?_
      rintro e w2 ⟨⟨v2, rfl, o2⟩, b2⟩
      obtain ⟨A2, c2, hv2, _⟩ := own_row o2
      have hgl := Hgl.out
      rw [hgl] at hv2
      subst hv2
      obtain ⟨n2, hn2⟩ : ∃ n, (gpA rs).length = n := ⟨_, rfl⟩
      rw [hn2] at o2 h9 hgl ⊢
      have HT := Lib.hid (timesIn_c w2 A2 n2 c2 (gpGA rs) (Il_of_own o2) hgl.symm (by omega) q)
      have HN2 := Lib.hid hn2
      clear o2 hn2 hgl
      go_wp2_with fail
      refine HT.out.mono ?_
      rintro e w3 ⟨rfl, rfl⟩
      go_wp2
      go_ret2
      exact ⟨by rw [HN2.out]; rfl, b2⟩
    · have hq : cgO rs q = false := by rw [cgO, decide_eq_false hq1, Bool.and_false]
      rw [cgV_no hq, hq]
      have hq2 : q < 1 := by omega
      clear hq ho hD h9 hq1
      go_enter Try.func35, Try.ntmps35
      go_wp2_with fail
      refine HD.out.mono ?_
      rintro e w2 ⟨⟨v2, rfl, o2⟩, b2⟩
      obtain ⟨A2, c2, hv2, _⟩ := own_row o2
      obtain ⟨n2, hn2⟩ : ∃ n, (gpGA rs).length = n := ⟨_, rfl⟩
      rw [hn2] at hv2
      subst hv2
      clear o2 hn2
      go_wp2
      go_ret2
      exact ⟨rfl, b2⟩

set_option maxRecDepth 100000 in
set_option maxHeartbeats 800000 in
theorem impl_GapsUpTo_c (w : World) (A : Option Addr) (m c : Nat) (rs : List (Int × Int)) (hA : Rl w A rs) (hm : m = rs.length) (hn : m ≤ 1048576) (q : Int) :
    Calls Try.prog 25 #[.slice A m c, .int .i64 q] w fun en w' => (∃ v, en = .returned (.tuple #[v, .bool (okM rs q)]) ∧ OwnI w' w.heap.size v (guV rs q)) ∧ Below w.heap.size w w' := by
  have hgu : guV rs q = dfL (upV rs q) ((upV rs q).length - 1) := by
    rw [guV, upV]
    split <;> rfl
  rw [hgu]
  clear hgu
  have HD := Lib.hid (impl_LeftUpTo_c w A m c rs hA hm hn q)
  have hb : (upV rs q).length ≤ 600 ∧ ∀ j, j < (upV rs q).length → 0 ≤ ivL (upV rs q) j ∧ ivL (upV rs q) j ≤ 300000 := by
    rw [upV]
    split
    · rename_i h
      obtain ⟨h1, h2, h3⟩ := okM_most h
      have hu := upF_len (leftF rs) q.toNat
      refine ⟨by omega, fun j hj => ?_⟩
      have := upF_in hj
      omega
    · exact ⟨Nat.zero_le _, fun j hj => by simp at hj⟩
  obtain ⟨hb1, hb2⟩ := hb
  obtain ⟨L, hL⟩ : ∃ L, upV rs q = L := ⟨_, rfl⟩
  rw [hL] at HD hb1 hb2 ⊢
  obtain ⟨n, hnL⟩ : ∃ n, L.length = n := ⟨_, rfl⟩
  have HN := Lib.hid hnL
  rw [hnL] at hb1 hb2 ⊢
  have HB := Lib.hid hb2
  clear hA hm hL hnL hb2
  go_enter Try.func25, Try.ntmps25
  go_wp2_with fail
  refine HD.out.mono ?_
  rintro e w2 ⟨⟨v2, rfl, o2⟩, b2⟩
  obtain ⟨A2, c2, rfl, _⟩ := own_row o2
  rw [HN.out] at o2 ⊢
  have HG := Lib.hid (gapsBetween_c w2 A2 n c2 L (Il_of_own o2) HN.out.symm (by omega) HB.out)
  clear o2
  go_wp2_with fail
  refine HG.out.mono ?_
  rintro e w3 ⟨⟨v3, rfl, o3⟩, b3⟩
  obtain ⟨A3, c3, hv3, _⟩ := own_row o3
  obtain ⟨n3, hn3⟩ : ∃ n3, (dfL L (n - 1)).length = n3 := ⟨_, rfl⟩
  rw [hn3] at hv3
  subst hv3
  have O3 := Lib.hid o3
  clear o3 hn3
  go_wp2
  go_ret2
  exact ⟨⟨_, rfl, OwnI.mono O3.out b2.size⟩, b2.trans (b3.mono b2.size)⟩

end Go.Proofs.Ytoapidcbmlnjcaa
