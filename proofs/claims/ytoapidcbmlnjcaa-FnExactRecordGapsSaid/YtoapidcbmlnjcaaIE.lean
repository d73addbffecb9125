import Derived.Test.YtoapidcbmlnjcaaIC
import Derived.Test.YtoapidcbmlnjcaaI4
import Derived.Test.YtoapidcbmlnjcaaQ4
namespace Go.Proofs.Ytoapidcbmlnjcaa
open Go.RowKit
set_option linter.unusedVariables false
set_option linter.unusedSimpArgs false

theorem rg_rec (rs : List (Int × Int)) (q : Int) : rgV rs q = (recP (upV rs q) (dfL (upV rs q) ((upV rs q).length - 1)) ((upV rs q).length - 1)).2.map pr2 := by
  have key : ∀ L : List Int, (rcG L (L.length - 1)).2 = (recP L (dfL L (L.length - 1)) (L.length - 1)).2.map pr2 := fun L => by
    rw [recP_rcG L (dfL L (L.length - 1)) (L.length - 1) fun i hi => by simp [dfL, ivL, hi]]
  rw [rgV, upV]
  split
  · exact key _
  · rfl
theorem take_pr2 {R : List (Int × Int)} {k : Nat} (h : k < R.length) : (R.take (k + 1)).map pr2 = (R.take k).map pr2 ++ [[evL R k, reL R k]] := by
  rw [List.take_add_one, List.getElem?_eq_getElem h, evL_ext h]
  simp [pr2]
set_option maxRecDepth 100000 in
set_option maxHeartbeats 1600000 in
theorem impl_RecordGaps_c (w : World) (A : Option Addr) (m c : Nat) (rs : List (Int × Int)) (hA : Rl w A rs) (hm : m = rs.length) (hn : m ≤ 1048576) (q : Int) :
    Calls Try.prog 37 #[.slice A m c, .int .i64 q] w fun en w' => (∃ v, en = .returned (.tuple #[v, .bool (okM rs q)]) ∧ OwnLL w' w.heap.size v (rgV rs q)) ∧ Below w.heap.size w w' := by
  have HD := Lib.hid (impl_LeftUpTo_c w A m c rs hA hm hn q)
  have hb : (upV rs q).length ≤ 600 ∧ ∀ j, j < (upV rs q).length → 0 ≤ ivL (upV rs q) j ∧ ivL (upV rs q) j ≤ 300000 := by
    rw [upV]
    split
    · rename_i h
      obtain ⟨h1, h2, h3⟩ := okM_most h
      have hu := upF_len (leftF rs) q.toNat
      refine ⟨by omega, fun j hj => ?_⟩
      have := upF_in hj
      omega
    · exact ⟨Nat.zero_le _, fun j hj => by simp at hj⟩
  obtain ⟨hb1, hb2⟩ := hb
  rw [rg_rec]
  obtain ⟨L, hL⟩ : ∃ L, upV rs q = L := ⟨_, rfl⟩
  rw [hL] at HD hb1 hb2 ⊢
  obtain ⟨n, hnL⟩ : ∃ n, L.length = n := ⟨_, rfl⟩
  have HN := Lib.hid hnL
  rw [hnL] at hb1 hb2 ⊢
  have HR := Lib.hid (fun w A c (hA : Il w A L) => recordsBetween_c w A n c L hA hnL.symm (by omega) hb2)
  have hRl := recP_len L (dfL L (n - 1)) (n - 1)
  obtain ⟨R, hR⟩ : ∃ R, (recP L (dfL L (n - 1)) (n - 1)).2 = R := ⟨_, rfl⟩
  rw [hR] at HR hRl ⊢
  obtain ⟨S, hS⟩ : ∃ S, R.length = S := ⟨_, rfl⟩
  have HS := Lib.hid hS
  rw [hS] at hRl
  have HT := Lib.hid (fun k (hk : k < S) => take_pr2 (R := R) (k := k) (by omega))
  have HE : Hid ((R.take S).map pr2 = R.map pr2) := by show _ = _; rw [← hS, List.take_length]
  have HLn := Lib.hid (show ∀ k, ((R.take k).map pr2).length ≤ S from fun k => by rw [List.length_map, List.length_take]; omega)
  clear hA hm hL hnL hb2 hR hS
  go_enter Try.func37, Try.ntmps37
  go_wp2_with fail
  refine HD.out.mono ?_
  rintro e w2 ⟨⟨v2, rfl, o2⟩, b2⟩
  obtain ⟨A2, c2, rfl, _⟩ := own_row o2
  rw [HN.out] at o2 ⊢
  have HI := Lib.hid (Il_of_own o2)
  clear o2
  go_wp2_with fail
  refine (HR.out _ _ _ HI.out).mono ?_
  rintro e w3 ⟨⟨v3, rfl, o3⟩, b3⟩
  have hs3 := b3.size
  have hs2 := b2.size
  obtain ⟨A3, c3, hv3⟩ := o3.shape
  rw [HS.out] at hv3
  subst hv3
  have O3 := Lib.hid o3
  clear o3
  have Hcl := Lib.hid (fun (hp : 0 < S) => show ∃ g, A3 = some ⟨g, 0, none⟩ ∧ g < w3.heap.size ∧ ∀ k, k < S → w3.cell? ⟨g, k * 2, none⟩ = some (.int .i64 (evL R k)) ∧ w3.cell? ⟨g, k * 2 + 1, none⟩ = some (.int .i64 (reL R k)) from by
    obtain ⟨g, cc, e, _, h2, h3⟩ := O3.out.cells (by rw [HS.out]; exact hp)
    simp only [Value.slice.injEq] at e
    exact ⟨g, e.1, h2, fun k hk => h3 k (by rw [HS.out]; exact hk)⟩)
  go_wp2
  go_loopw [8, 10, 20] (fun v _ i wr => ∃ k : Nat, k ≤ S ∧ i = .int .i64 (k : Int) ∧ OwnLL wr w3.heap.size v ((R.take k).map pr2) ∧ Below w3.heap.size w3 wr) (fun _ _ i _ => S - (intOf i).toNat)
  case atStart => exact ⟨0, Nat.zero_le _, rfl, by rw [List.take_zero]; exact OwnLL.nil _ _, Below.refl _ _⟩
  case round =>
    obtain ⟨k, hk, rfl, hown, hbel⟩ := hrel
    have hs := hbel.size
    have hln := HLn.out k
    have HW := Lib.hid (HT.out k)
    obtain ⟨M, hM⟩ : ∃ M, (R.take k).map pr2 = M := ⟨_, rfl⟩
    rw [hM] at hown hln HW
    have HM := Lib.hid hM
    have Hown := Lib.hid hown
    have Hln := Lib.hid hln
    clear hM hown hln
    by_cases hlt : k < S
    · obtain ⟨g, rfl, hg, hcc⟩ := Hcl.out (by omega)
      obtain ⟨h1, h2⟩ := hcc k hlt
      have hc1 := (hbel.cell (p := ⟨g, k * 2, none⟩) hg).trans h1
      have hc2 := (hbel.cell (p := ⟨g, k * 2 + 1, none⟩) hg).trans h2
      have hki : (k : Int) < (S : Int) := by omega
      have Hy := Lib.hid (HW.out hlt)
      obtain ⟨X, hX⟩ : ∃ X, evL R k = X := ⟨_, rfl⟩
      obtain ⟨Y, hY⟩ : ∃ Y, reL R k = Y := ⟨_, rfl⟩
      rw [hX] at hc1 Hy
      rw [hY] at hc2 Hy
      clear hcc h1 h2 hX hY
      have ho2 : OwnI ((wr.alloc (.cells #[.int .i64 X, .int .i64 Y] 77)).alloc (.cells #[.int .i64 X, .int .i64 Y] 3)) w3.heap.size (.slice (some ⟨wr.heap.size + 1, 0, none⟩) 2 2) [X, Y] := by
        have h := own_two (wr.alloc (.cells #[.int .i64 X, .int .i64 Y] 77)) w3.heap.size (by simp; omega) X Y
        rw [World.size_alloc] at h
        exact h
      have Ho2 := Lib.hid ho2
      have b4 : Below w3.heap.size w3 (wr.alloc (.cells #[.int .i64 X, .int .i64 Y] 77)) := hbel.alloc hs _
      clear ho2
      go_wp2_with (at_builtin; (refine wp_app_ll _ _ rfl _ _ rfl w3.heap.size _ _ rfl (wr.alloc (.cells #[.int .i64 X, .int .i64 Y] 77)) (OwnLL.below Hown.out ((Below.refl _ _).alloc (Nat.le_refl _) _)) ((Below.refl _ _).alloc (Nat.le_refl _) _) _ Ho2.out (fun q hq => by simp [Value.ownBlock] at hq; simp; omega) _ rfl (by simp) (by have := Hln.out; omega) (by simp; omega) ?_); intro v' w4 hown4 b5)
      go_roundw
      case rel => exact ⟨k + 1, by omega, by go_num, by rw [Hy.out]; exact hown4, (b4.alloc (by simp; omega) _).trans b5⟩
      case measure => simp [intOf]; omega
    · have hkS : k = S := by omega
      subst hkS
      have hki : (k : Int) ≤ (k : Int) := Int.le_refl _
      obtain ⟨A5, c5, hv5⟩ := Hown.out.shape
      obtain ⟨n5, hn5⟩ : ∃ n5, M.length = n5 := ⟨_, rfl⟩
      rw [hn5] at hv5
      have HE2 : Hid (M = R.map pr2) := by show _ = _; rw [← HM.out, HE.out]
      subst hv5
      clear hn5
      go_wp2
      go_ret2
      exact ⟨⟨_, rfl, by rw [← HE2.out]; exact OwnLL.mono Hown.out (by omega)⟩, (b2.trans (b3.mono hs2)).trans (hbel.mono (by omega))⟩

end Go.Proofs.Ytoapidcbmlnjcaa
