import Derived.Test.YtoapidcbmlnjcaaQ0
import Derived.Test.YtoapidcbmlnjcaaK1
import Derived.Deep.RegionLaw
namespace Go.Proofs.Ytoapidcbmlnjcaa
open Go.RowKit
set_option linter.unusedVariables false
set_option linter.unusedSimpArgs false

/-! Gaps of a period. -/
def gpX (rs : List (Int × Int)) (i : Nat) : Int := if i + 1 < (gpA rs).length then ivL (gpA rs) (i + 1) else ivL (gpA rs) 0 + perF rs
def gpI (rs : List (Int × Int)) (i : Nat) : Int := gpX rs i - ivL (gpA rs) i
def gpG (rs : List (Int × Int)) (k : Nat) : List Int := (List.range k).map (gpI rs)
theorem gpG_succ (rs : List (Int × Int)) (k : Nat) : gpG rs (k + 1) = gpG rs k ++ [gpI rs k] := by simp [gpG, List.range_succ]
theorem gpG_len (rs : List (Int × Int)) (k : Nat) : (gpG rs k).length = k := by simp [gpG]
def gpGA (rs : List (Int × Int)) : List Int := gpG rs (gpA rs).length
theorem gpGA_len (rs : List (Int × Int)) : (gpGA rs).length = (gpA rs).length := gpG_len _ _
theorem gpGA_no {rs : List (Int × Int)} (h : gpO rs = false) : gpGA rs = [] := by rw [gpGA, gpA_no h]; rfl
theorem gpGA_at {rs : List (Int × Int)} {i : Nat} (h : i < (gpA rs).length) : ivL (gpGA rs) i = gpI rs i := by simp [gpGA, gpG, ivL, h]
theorem gpX_bound {rs : List (Int × Int)} (h : gpO rs = true) (i : Nat) : 0 ≤ gpX rs i ∧ gpX rs i ≤ 200000 := by
  obtain ⟨h1, h2⟩ := gpO_parts h
  have hp := (perOk_parts h1).2.2
  rw [gpX]
  split
  · rename_i hi
    have := gpA_at hi; omega
  · have := gpA_at h2; omega
theorem gpI_bound {rs : List (Int × Int)} (h : gpO rs = true) {i : Nat} (hi : i < (gpA rs).length) : -100000 ≤ gpI rs i ∧ gpI rs i ≤ 200000 := by
  have h1 := gpX_bound h i
  have h2 := gpA_at hi
  have hp := (perOk_parts (gpO_parts h).1).2.2
  rw [gpI]
  omega
/-- The index of the first greatest one of the first k. -/
def bgI (xs : List Int) : Nat → Nat
  | 0 => 0
  | k + 1 => if ivL xs (bgI xs k) < ivL xs k then k else bgI xs k
theorem bgI_le (xs : List Int) : ∀ k, bgI xs k = 0 ∨ bgI xs k < k
  | 0 => .inl rfl
  | k + 1 => by
    have := bgI_le xs k
    rw [bgI]
    split <;> omega
theorem bgI_more {xs : List Int} {k : Nat} (h : ivL xs (bgI xs k) < ivL xs k) : bgI xs (k + 1) = k := by rw [bgI, if_pos h]
theorem bgI_same {xs : List Int} {k : Nat} (h : ¬ ivL xs (bgI xs k) < ivL xs k) : bgI xs (k + 1) = bgI xs k := by rw [bgI, if_neg h]
/-- How many of the first k are so. -/
def cnE (xs : List Int) (g : Int) : Nat → Nat
  | 0 => 0
  | k + 1 => if ivL xs k = g then cnE xs g k + 1 else cnE xs g k
theorem cnE_le (xs : List Int) (g : Int) : ∀ k, cnE xs g k ≤ k
  | 0 => Nat.le_refl _
  | k + 1 => by have := cnE_le xs g k; rw [cnE]; split <;> omega
theorem cnE_yes {xs : List Int} {g : Int} {k : Nat} (h : ivL xs k = g) : cnE xs g (k + 1) = cnE xs g k + 1 := by rw [cnE, if_pos h]
theorem cnE_no {xs : List Int} {g : Int} {k : Nat} (h : ¬ ivL xs k = g) : cnE xs g (k + 1) = cnE xs g k := by rw [cnE, if_neg h]
/-- The greatest gap less 1 of the first k, at least 0. -/
def mxO (xs : List Int) : Nat → Int
  | 0 => 0
  | k + 1 => max (mxO xs k) (ivL xs k - 1)
/-- Runs of gaps of 1 around the period: the longest one and the last one, k looked at. -/
def rnL (xs : List Int) : Nat → Nat × Nat
  | 0 => (1, 1)
  | k + 1 => if ivL xs (k % xs.length) = 1 then (max (rnL xs k).1 ((rnL xs k).2 + 1), (rnL xs k).2 + 1) else (max (rnL xs k).1 1, 1)
theorem rnL_le (xs : List Int) : ∀ k, (rnL xs k).1 ≤ k + 1 ∧ (rnL xs k).2 ≤ k + 1
  | 0 => ⟨Nat.le_refl _, Nat.le_refl _⟩
  | k + 1 => by
    have := rnL_le xs k
    rw [rnL]
    split <;> dsimp only <;> omega
theorem rnL_yes {xs : List Int} {k : Nat} (h : ivL xs (k % xs.length) = 1) : rnL xs (k + 1) = (max (rnL xs k).1 ((rnL xs k).2 + 1), (rnL xs k).2 + 1) := by rw [rnL, if_pos h]
theorem rnL_no {xs : List Int} {k : Nat} (h : ¬ ivL xs (k % xs.length) = 1) : rnL xs (k + 1) = (max (rnL xs k).1 1, 1) := by rw [rnL, if_neg h]
/-- Differences. -/
def dfL (xs : List Int) (k : Nat) : List Int := (List.range k).map fun i => ivL xs (i + 1) - ivL xs i
theorem dfL_succ (xs : List Int) (k : Nat) : dfL xs (k + 1) = dfL xs k ++ [ivL xs (k + 1) - ivL xs k] := by simp [dfL, List.range_succ]
theorem dfL_len (xs : List Int) (k : Nat) : (dfL xs k).length = k := by simp [dfL]
/-- Records of differences: the greatest one, and all that were. -/
def rcG (xs : List Int) : Nat → Int × List (List Int)
  | 0 => (0, [])
  | k + 1 => if (rcG xs k).1 < ivL xs (k + 1) - ivL xs k then (ivL xs (k + 1) - ivL xs k, (rcG xs k).2 ++ [[ivL xs k, ivL xs (k + 1) - ivL xs k]]) else rcG xs k
theorem rcG_yes {xs : List Int} {k : Nat} (h : (rcG xs k).1 < ivL xs (k + 1) - ivL xs k) : rcG xs (k + 1) = (ivL xs (k + 1) - ivL xs k, (rcG xs k).2 ++ [[ivL xs k, ivL xs (k + 1) - ivL xs k]]) := by rw [rcG, if_pos h]
theorem rcG_no {xs : List Int} {k : Nat} (h : ¬ (rcG xs k).1 < ivL xs (k + 1) - ivL xs k) : rcG xs (k + 1) = rcG xs k := by rw [rcG, if_neg h]
theorem rcG_len (xs : List Int) : ∀ k, (rcG xs k).2.length ≤ k
  | 0 => Nat.le_refl _
  | k + 1 => by
    have := rcG_len xs k
    rw [rcG]
    split
    · simp; omega
    · omega

theorem own_forms {w : World} {B : Nat} {v : Value} {xs : List Int} (h : OwnI w B v xs) : (v = .slice none 0 0 ∧ xs = []) ∨ ∃ g c, v = .slice (some ⟨g, 0, none⟩) xs.length c ∧ B ≤ g ∧ g < w.heap.size ∧ xs.length ≤ c := by
  rcases h.2 with ⟨e, h0⟩ | ⟨g, cap, cur, e, hB, hg, hle, _⟩
  · exact .inl ⟨e, List.eq_nil_of_length_eq_zero h0⟩
  · exact .inr ⟨g, cap, e, hB, (Array.getElem?_eq_some_iff.1 hg).1, hle⟩
set_option maxRecDepth 100000 in
set_option maxHeartbeats 1600000 in
theorem gpGaps_c (w : World) (A : Option Addr) (m c : Nat) (rs : List (Int × Int)) (hA : Rl w A rs) (hm : m = rs.length) (hn : m ≤ 1048576) :
    Calls Try.prog 73 #[.slice A m c] w fun en w' => (∃ v u, en = .returned (.tuple #[v, u, .bool (gpO rs)]) ∧ OwnI w' w.heap.size v (gpGA rs) ∧ OwnI w' w.heap.size u (gpA rs)) ∧ Below w.heap.size w w' := by
  have Hm := Lib.hid hm
  have Hl := Lib.hid (gpLeft_c w A m c rs hA hm hn)
  clear hm
  cases ho : gpO rs with
  | false =>
    have hL := Hl.out
    rw [ho, gpA_no ho] at hL
    have HL := Lib.hid hL
    rw [gpGA_no ho, gpA_no ho]
    clear hL ho
    go_enter Try.func73, Try.ntmps73
    go_wp2_with fail
    refine HL.out.mono ?_
    rintro e w2 ⟨⟨v2, rfl, o2⟩, b2⟩
    obtain ⟨A2, c2, rfl⟩ := o2.shape
    go_wp2
    go_ret3
    exact ⟨⟨_, _, rfl, OwnI.nil _ _, OwnI.nil _ _⟩, b2⟩
  | true =>
    have Ho := Lib.hid ho
    have hp := gpO_parts ho
    have hP := perOk_parts hp.1
    have hL := Hl.out
    rw [ho] at hL
    have HL := Lib.hid hL
    have Hg := Lib.hid hP.1
    have hl9 := gpA_len rs
    have hpos := hp.2
    have Hat := Lib.hid (fun k (hk : k < (gpA rs).length) => gpA_at hk)
    have HX := Lib.hid (fun k => gpX_bound ho k)
    have hP1 := hP.2.2.1
    have hP9 := hP.2.2.2
    have HG := Lib.hid (fun k => gpG_succ rs k)
    have HI : Hid (∀ k, gpI rs k = gpX rs k - ivL (gpA rs) k) := fun k => rfl
    have HN : Hid (∀ k, k + 1 < (gpA rs).length → gpX rs k = ivL (gpA rs) (k + 1)) := fun k h => if_pos h
    have HE : Hid (∀ k, ¬ k + 1 < (gpA rs).length → gpX rs k = ivL (gpA rs) 0 + perF rs) := fun k h => if_neg h
    have HA : Hid (gpGA rs = gpG rs (gpA rs).length) := rfl
    clear ho hp hP hL Hl
    obtain ⟨L, hL⟩ : ∃ L, gpA rs = L := ⟨_, rfl⟩
    rw [hL] at HL Hat HI HN HE HA hl9 hpos ⊢
    clear hL
    obtain ⟨P, hPe⟩ : ∃ P, perF rs = P := ⟨_, rfl⟩
    have Hper := fun W (hb : Below w.heap.size w W) => siPeriod_c W A m c rs (hA.below hb) Hm.out Hg.out
    rw [hPe] at Hat HE hP1 hP9 Hper
    have HPer := Lib.hid Hper
    obtain ⟨S, hS⟩ : ∃ S, L.length = S := ⟨_, rfl⟩
    have HS := Lib.hid hS
    rw [hS] at Hat HN HE HA hl9 hpos
    clear hPe hS Hper
    go_enter Try.func73, Try.ntmps73
    go_wp2_with fail
    refine HL.out.mono ?_
    rintro e w2 ⟨⟨v2, rfl, o2⟩, b2⟩
    have hs2 := b2.size
    have O2 := Lib.hid o2
    have hform := own_forms o2
    rw [HS.out] at hform
    obtain ⟨g, c2, rfl, hgB, hg2, hSc⟩ : ∃ g c2, v2 = .slice (some ⟨g, 0, none⟩) S c2 ∧ w.heap.size ≤ g ∧ g < w2.heap.size ∧ S ≤ c2 := by
      rcases hform with ⟨_, h⟩ | h
      · rw [h] at HS; have := HS.out; simp at this; omega
      · exact h
    have Hcl := Lib.hid (fun j (hj : j < S) => (World.ownsRow.cellAt (OwnI.own_n o2 HS.out.symm) j (by omega)).trans (ivL_get L j (by rw [HS.out]; exact hj)))
    clear o2 hform
    go_wp2
    go_loopw [7, 8, 9, 10, 20] (fun v _ _ _ i wr => ∃ k : Nat, k ≤ S ∧ i = .int .i64 (k : Int) ∧ OwnI wr w2.heap.size v (gpG rs k) ∧ Below w2.heap.size w2 wr) (fun _ _ _ _ i _ => S - (intOf i).toNat)
    case atStart => exact ⟨0, Nat.zero_le _, rfl, OwnI.nil _ _, Below.refl _ _⟩
    case round =>
      obtain ⟨k, hk, rfl, hown, hbel⟩ := hrel
      have Hown := Lib.hid hown
      clear hown
      have hs := hbel.size
      by_cases hlt : k < S
      · have hck := (hbel.cell (p := ⟨g, k, none⟩) hg2).trans (Hcl.out k hlt)
        have hc0 := (hbel.cell (p := ⟨g, 0, none⟩) hg2).trans (Hcl.out 0 (by omega))
        have hak := Hat.out k hlt
        have ha0 := Hat.out 0 (by omega)
        have Hl := Lib.hid (show (gpG rs k).length ≤ 100000 by rw [gpG_len]; omega)
        have hki : (k : Int) < (S : Int) := by omega
        have hbw := b2.trans (hbel.mono hs2)
        obtain ⟨X0, hX0⟩ : ∃ X0, ivL L 0 = X0 := ⟨_, rfl⟩
        obtain ⟨Xk, hXk⟩ : ∃ Xk, ivL L k = Xk := ⟨_, rfl⟩
        have hE := HE.out k
        have hI := HI.out k
        have hG := HG.out k
        rw [hX0] at hc0 ha0 hE
        rw [hXk] at hck hak hI
        have hw1 : IntKind.i64.wrap (X0 + P) = X0 + P := IntWalk.i64_in _ (by omega)
        have HX0 := Lib.hid hX0
        clear hX0 hXk
        have hgr := Nat.lt_of_lt_of_le hg2 hs
        by_cases hnx : k + 1 < S
        · have hcn := (Hcl.out (k + 1) hnx)
          have han := Hat.out (k + 1) hnx
          obtain ⟨Xn, hXn⟩ : ∃ Xn, ivL L (k + 1) = Xn := ⟨_, rfl⟩
          have hN := HN.out k hnx
          rw [hXn] at hcn han hN
          have Hy : Hid (gpG rs (k + 1) = gpG rs k ++ [Xn - Xk]) := by show _ = _; rw [hG, hI, hN]
          have hni : (k : Int) + 1 < (S : Int) := by omega
          clear hXn hN hE hI hG
          go_wp2_with fail
          go_region_law (first | (go_simp; go_at_call 101; (refine (HPer.out _ hbw.drew).mono ?_; rintro e w5 ⟨rfl, b5⟩; have hc5 := (b5.cell (p := ⟨g, 0, none⟩) hgr).trans hc0)) | fail)
          all_goals (
            have b45 : Below w2.heap.size w2 w5 := hbel.drew.trans (b5.mono hs)
            have Hown5 := Lib.hid (OwnI.below (show OwnI wr.drew w2.heap.size _ _ from OwnI.below Hown.out (Below.refl wr.heap.size wr).drew) b5)
            have hs5 := b45.size
            have hcn5 := (b45.cell (p := ⟨g, k + 1, none⟩) hg2).trans hcn
            go_wp2_with (at_builtin; refine wp_app_int _ rfl _ _ rfl w2.heap.size _ _ rfl Hown5.out _ rfl (by have := Hl.out; omega) hs5 ?_; intro v' w6 hown6 b6)
            go_roundw
            case rel => exact ⟨k + 1, by omega, by go_num, by rw [Hy.out]; exact hown6, b45.trans b6⟩
            case measure => simp [intOf]; omega)
        · have Hy : Hid (gpG rs (k + 1) = gpG rs k ++ [X0 + P - Xk]) := by show _ = _; rw [hG, hI, hE hnx]
          have hni : (S : Int) ≤ (k : Int) + 1 := by omega
          clear hE hI hG
          go_wp2_with fail
          go_region_law (first | (go_simp; go_at_call 101; (refine (HPer.out _ hbw.drew).mono ?_; rintro e w5 ⟨rfl, b5⟩; have hc5 := (b5.cell (p := ⟨g, 0, none⟩) hgr).trans hc0)) | fail)
          all_goals (
            have b45 : Below w2.heap.size w2 w5 := hbel.drew.trans (b5.mono hs)
            have Hown5 := Lib.hid (OwnI.below (show OwnI wr.drew w2.heap.size _ _ from OwnI.below Hown.out (Below.refl wr.heap.size wr).drew) b5)
            have hs5 := b45.size
            go_wp2_with (at_builtin; refine wp_app_int _ rfl _ _ rfl w2.heap.size _ _ rfl Hown5.out _ rfl (by have := Hl.out; omega) hs5 ?_; intro v' w6 hown6 b6)
            go_roundw
            case rel => exact ⟨k + 1, by omega, by go_num, by rw [Hy.out]; exact hown6, b45.trans b6⟩
            case measure => simp [intOf]; omega)
      · have Hk : Hid (gpG rs k = gpGA rs) := by show _ = _; rw [HA.out, show k = S by omega]
        go_wp2
        go_ret3
        exact ⟨⟨_, _, rfl, by rw [← Hk.out]; exact OwnI.mono Hown.out hs2, OwnI.below O2.out hbel⟩, b2.trans (hbel.mono hs2)⟩

end Go.Proofs.Ytoapidcbmlnjcaa
