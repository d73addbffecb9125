import Derived.Test.YtgkciiklgadgkaaKP
import Derived.Test.YtgkciiklgadgkaaG0
import Derived.Test.YtgkciiklgadgkaaK1
import Derived.Deep.RegionLaw
import Derived.Test.YtgkciiklgadgkaaKB
import Derived.Test.YtgkciiklgadgkaaGB
import Derived.Test.YtgkciiklgadgkaaP4
import Derived.StillTailTactics
namespace Go.Proofs.Ytgkciiklgadgkaa
open Go.RowKit
set_option linter.unusedVariables false
set_option linter.unusedSimpArgs false

/-! Numbers of a period that are left. -/
def lfQ (rs : List (Int × Int)) (n : Nat) : Bool := leftF rs (n : Int)
def gpA (rs : List (Int × Int)) : List Int := if perOk rs then flF (lfQ rs) 0 (perF rs).toNat else []
def gpO (rs : List (Int × Int)) : Bool := perOk rs && decide (0 < (gpA rs).length)
theorem gpA_bad {rs : List (Int × Int)} (h : perOk rs = false) : gpA rs = [] := by rw [gpA, h]; rfl
theorem gpO_bad {rs : List (Int × Int)} (h : perOk rs = false) : gpO rs = false := by rw [gpO, h]; rfl
theorem gpA_ok {rs : List (Int × Int)} (h : perOk rs = true) : gpA rs = flF (lfQ rs) 0 (perF rs).toNat := by rw [gpA, h]; rfl
theorem gpO_ok {rs : List (Int × Int)} (h : perOk rs = true) : gpO rs = decide (0 < (gpA rs).length) := by rw [gpO, h]; rfl
theorem gpA_no {rs : List (Int × Int)} (h : gpO rs = false) : gpA rs = [] := by
  cases hp : perOk rs with
  | false => exact gpA_bad hp
  | true =>
    rw [gpO_ok hp, decide_eq_false_iff_not] at h
    exact List.eq_nil_of_length_eq_zero (by omega)
theorem gpO_parts {rs : List (Int × Int)} (h : gpO rs = true) : perOk rs = true ∧ 0 < (gpA rs).length := by
  rw [gpO, Bool.and_eq_true, decide_eq_true_eq] at h
  exact h
theorem gpA_len (rs : List (Int × Int)) : (gpA rs).length ≤ 100000 := by
  cases hp : perOk rs with
  | false => rw [gpA_bad hp]; exact Nat.zero_le _
  | true =>
    have := flF_len (lfQ rs) 0 (perF rs).toNat
    have := (perOk_parts hp).2.2.2
    rw [gpA_ok hp]
    omega
theorem gpA_at {rs : List (Int × Int)} {k : Nat} (h : k < (gpA rs).length) : 0 ≤ ivL (gpA rs) k ∧ ivL (gpA rs) k < perF rs ∧ leftF rs (ivL (gpA rs) k) = true := by
  cases hp : perOk rs with
  | false => rw [gpA_bad hp] at h; simp at h
  | true =>
    have hm : ivL (gpA rs) k ∈ gpA rs := by simp [ivL, h]
    rw [gpA_ok hp] at hm
    obtain ⟨n, h1, h2, h3, h4⟩ := flF_mem.1 hm
    have := (perOk_parts hp).2.2
    rw [← gpA_ok hp] at h1
    rw [h1]
    exact ⟨by omega, by omega, h4⟩


end Go.Proofs.Ytgkciiklgadgkaa

namespace Go.Proofs.Ytgkciiklgadgkaa
open Go.RowKit
set_option linter.unusedVariables false
set_option linter.unusedSimpArgs false

/-! Gaps of a period. -/
def gpX (rs : List (Int × Int)) (i : Nat) : Int := if i + 1 < (gpA rs).length then ivL (gpA rs) (i + 1) else ivL (gpA rs) 0 + perF rs
def gpI (rs : List (Int × Int)) (i : Nat) : Int := gpX rs i - ivL (gpA rs) i
def gpG (rs : List (Int × Int)) (k : Nat) : List Int := (List.range k).map (gpI rs)
theorem gpG_succ (rs : List (Int × Int)) (k : Nat) : gpG rs (k + 1) = gpG rs k ++ [gpI rs k] := by simp [gpG, List.range_succ]
theorem gpG_len (rs : List (Int × Int)) (k : Nat) : (gpG rs k).length = k := by simp [gpG]
def gpGA (rs : List (Int × Int)) : List Int := gpG rs (gpA rs).length
theorem gpGA_len (rs : List (Int × Int)) : (gpGA rs).length = (gpA rs).length := gpG_len _ _
theorem gpGA_no {rs : List (Int × Int)} (h : gpO rs = false) : gpGA rs = [] := by rw [gpGA, gpA_no h]; rfl
theorem gpGA_at {rs : List (Int × Int)} {i : Nat} (h : i < (gpA rs).length) : ivL (gpGA rs) i = gpI rs i := by simp [gpGA, gpG, ivL, h]
theorem gpX_bound {rs : List (Int × Int)} (h : gpO rs = true) (i : Nat) : 0 ≤ gpX rs i ∧ gpX rs i ≤ 200000 := by
  obtain ⟨h1, h2⟩ := gpO_parts h
  have hp := (perOk_parts h1).2.2
  rw [gpX]
  split
  · rename_i hi
    have := gpA_at hi; omega
  · have := gpA_at h2; omega
theorem gpI_bound {rs : List (Int × Int)} (h : gpO rs = true) {i : Nat} (hi : i < (gpA rs).length) : -100000 ≤ gpI rs i ∧ gpI rs i ≤ 200000 := by
  have h1 := gpX_bound h i
  have h2 := gpA_at hi
  have hp := (perOk_parts (gpO_parts h).1).2.2
  rw [gpI]
  omega
/-- The index of the first greatest one of the first k. -/
def bgI (xs : List Int) : Nat → Nat
  | 0 => 0
  | k + 1 => if ivL xs (bgI xs k) < ivL xs k then k else bgI xs k
theorem bgI_le (xs : List Int) : ∀ k, bgI xs k = 0 ∨ bgI xs k < k
  | 0 => .inl rfl
  | k + 1 => by
    have := bgI_le xs k
    rw [bgI]
    split <;> omega
theorem bgI_more {xs : List Int} {k : Nat} (h : ivL xs (bgI xs k) < ivL xs k) : bgI xs (k + 1) = k := by rw [bgI, if_pos h]
theorem bgI_same {xs : List Int} {k : Nat} (h : ¬ ivL xs (bgI xs k) < ivL xs k) : bgI xs (k + 1) = bgI xs k := by rw [bgI, if_neg h]
/-- How many of the first k are so. -/
def cnE (xs : List Int) (g : Int) : Nat → Nat
  | 0 => 0
  | k + 1 => if ivL xs k = g then cnE xs g k + 1 else cnE xs g k
theorem cnE_le (xs : List Int) (g : Int) : ∀ k, cnE xs g k ≤ k
  | 0 => Nat.le_refl _
  | k + 1 => by have := cnE_le xs g k; rw [cnE]; split <;> omega
theorem cnE_yes {xs : List Int} {g : Int} {k : Nat} (h : ivL xs k = g) : cnE xs g (k + 1) = cnE xs g k + 1 := by rw [cnE, if_pos h]
theorem cnE_no {xs : List Int} {g : Int} {k : Nat} (h : ¬ ivL xs k = g) : cnE xs g (k + 1) = cnE xs g k := by rw [cnE, if_neg h]
/-- The greatest gap less 1 of the first k, at least 0. -/
def mxO (xs : List Int) : Nat → Int
  | 0 => 0
  | k + 1 => max (mxO xs k) (ivL xs k - 1)
/-- Runs of gaps of 1 around the period: the longest one and the last one, k looked at. -/
def rnL (xs : List Int) : Nat → Nat × Nat
  | 0 => (1, 1)
  | k + 1 => if ivL xs (k % xs.length) = 1 then (max (rnL xs k).1 ((rnL xs k).2 + 1), (rnL xs k).2 + 1) else (max (rnL xs k).1 1, 1)
theorem rnL_le (xs : List Int) : ∀ k, (rnL xs k).1 ≤ k + 1 ∧ (rnL xs k).2 ≤ k + 1
  | 0 => ⟨Nat.le_refl _, Nat.le_refl _⟩
  | k + 1 => by
    have := rnL_le xs k
    rw [rnL]
    split <;> dsimp only <;> omega
theorem rnL_yes {xs : List Int} {k : Nat} (h : ivL xs (k % xs.length) = 1) : rnL xs (k + 1) = (max (rnL xs k).1 ((rnL xs k).2 + 1), (rnL xs k).2 + 1) := by rw [rnL, if_pos h]
theorem rnL_no {xs : List Int} {k : Nat} (h : ¬ ivL xs (k % xs.length) = 1) : rnL xs (k + 1) = (max (rnL xs k).1 1, 1) := by rw [rnL, if_neg h]
/-- Differences. -/
def dfL (xs : List Int) (k : Nat) : List Int := (List.range k).map fun i => ivL xs (i + 1) - ivL xs i
theorem dfL_succ (xs : List Int) (k : Nat) : dfL xs (k + 1) = dfL xs k ++ [ivL xs (k + 1) - ivL xs k] := by simp [dfL, List.range_succ]
theorem dfL_len (xs : List Int) (k : Nat) : (dfL xs k).length = k := by simp [dfL]
/-- Records of differences: the greatest one, and all that were. -/
def rcG (xs : List Int) : Nat → Int × List (List Int)
  | 0 => (0, [])
  | k + 1 => if (rcG xs k).1 < ivL xs (k + 1) - ivL xs k then (ivL xs (k + 1) - ivL xs k, (rcG xs k).2 ++ [[ivL xs k, ivL xs (k + 1) - ivL xs k]]) else rcG xs k
theorem rcG_yes {xs : List Int} {k : Nat} (h : (rcG xs k).1 < ivL xs (k + 1) - ivL xs k) : rcG xs (k + 1) = (ivL xs (k + 1) - ivL xs k, (rcG xs k).2 ++ [[ivL xs k, ivL xs (k + 1) - ivL xs k]]) := by rw [rcG, if_pos h]
theorem rcG_no {xs : List Int} {k : Nat} (h : ¬ (rcG xs k).1 < ivL xs (k + 1) - ivL xs k) : rcG xs (k + 1) = rcG xs k := by rw [rcG, if_neg h]
theorem rcG_len (xs : List Int) : ∀ k, (rcG xs k).2.length ≤ k
  | 0 => Nat.le_refl _
  | k + 1 => by
    have := rcG_len xs k
    rw [rcG]
    split
    · simp; omega
    · omega

theorem own_forms {w : World} {B : Nat} {v : Value} {xs : List Int} (h : OwnI w B v xs) : (v = .slice none 0 0 ∧ xs = []) ∨ ∃ g c, v = .slice (some ⟨g, 0, none⟩) xs.length c ∧ B ≤ g ∧ g < w.heap.size ∧ xs.length ≤ c := by
  rcases h.2 with ⟨e, h0⟩ | ⟨g, cap, cur, e, hB, hg, hle, _⟩
  · exact .inl ⟨e, List.eq_nil_of_length_eq_zero h0⟩
  · exact .inr ⟨g, cap, e, hB, (Array.getElem?_eq_some_iff.1 hg).1, hle⟩

end Go.Proofs.Ytgkciiklgadgkaa

namespace Go.Proofs.Ytgkciiklgadgkaa
open Go.RowKit
set_option linter.unusedVariables false
set_option linter.unusedSimpArgs false

theorem upF_in {p : Int → Bool} {M k : Nat} (h : k < (upF p M).length) : 1 ≤ ivL (upF p M) k ∧ ivL (upF p M) k ≤ (M : Int) := by
  have hm : ivL (upF p M) k ∈ upF p M := by simp [ivL, h]
  generalize ivL (upF p M) k = x at *
  simp only [upF, List.mem_filter, List.mem_map, List.mem_range] at hm
  obtain ⟨⟨i, h1, h2⟩, _⟩ := hm
  omega
def guV (rs : List (Int × Int)) (n : Int) : List Int := if okM rs n then dfL (upF (leftF rs) n.toNat) ((upF (leftF rs) n.toNat).length - 1) else []
theorem guV_no {rs : List (Int × Int)} {n : Int} (h : okM rs n = false) : guV rs n = [] := by rw [guV, h]; rfl
theorem guV_yes {rs : List (Int × Int)} {n : Nat} (h : okM rs (n : Int) = true) : guV rs (n : Int) = dfL (upF (leftF rs) n) ((upF (leftF rs) n).length - 1) := by rw [guV, h, Int.toNat_natCast]; rfl
theorem guV_len (rs : List (Int × Int)) (n : Int) : (guV rs n).length ≤ 1048576 := by
  cases h : okM rs n with
  | false => rw [guV_no h]; exact Nat.zero_le _
  | true =>
    obtain ⟨g1, g2, g3⟩ := okM_most h
    rw [guV, h, if_pos rfl, dfL_len]
    have := upF_len (leftF rs) n.toNat
    omega

/-- Whether all of 1 to k are crossed out. -/
def covB (rs : List (Int × Int)) (k : Nat) : Bool := (List.range k).all fun i => !leftF rs ((i : Int) + 1)
theorem covB_no {rs : List (Int × Int)} {k i : Nat} (hi : i < k) (h : leftF rs ((i : Int) + 1) = true) : covB rs k = false := by
  rw [covB, List.all_eq_false]
  exact ⟨i, List.mem_range.2 hi, by rw [h]; decide⟩
theorem covB_yes {rs : List (Int × Int)} {k : Nat} (h : ∀ i, i < k → leftF rs ((i : Int) + 1) = false) : covB rs k = true := by
  rw [covB, List.all_eq_true]
  exact fun i hi => by rw [h i (List.mem_range.1 hi)]; rfl
set_option maxRecDepth 100000 in
set_option maxHeartbeats 600000 in
theorem gpCovers_c (w : World) (A : Option Addr) (m c : Nat) (rs : List (Int × Int)) (hA : Rl w A rs) (hm : m = rs.length) (hg : goodL rs = true) (M : Nat) (hM : M ≤ 1000) :
    Calls Try.prog 40 #[.slice A m c, .int .i64 (M : Int)] w fun en w' => en = .returned (.bool (covB rs M)) ∧ Below w.heap.size w w' := by
  have Hm := Lib.hid hm
  have Hg := Lib.hid hg
  clear hm hg
  go_enter Try.func40, Try.ntmps40
  go_wp2
  go_loopw [5] (fun i wr => ∃ k : Nat, k ≤ M ∧ i = .int .i64 ((k : Int) + 1) ∧ (∀ j, j < k → leftF rs ((j : Int) + 1) = false) ∧ Below w.heap.size w wr) (fun i _ => M + 2 - (intOf i).toNat)
  case atStart => exact ⟨0, Nat.zero_le _, rfl, fun j h => by omega, Below.refl _ _⟩
  case round =>
    obtain ⟨k, hk, rfl, hall, hbel⟩ := hrel
    have Hall := Lib.hid hall
    clear hall
    have hs := hbel.size
    have hR := hA.below hbel
    by_cases hlt : k < M
    · have Hc := fun W hW => siLeft_c A c m rs ((k : Int) + 1) W hW Hm.out Hg.out (by omega) (by omega)
      cases hl : leftF rs ((k : Int) + 1) with
      | true =>
        rw [hl] at Hc
        have HC := Lib.hid Hc
        have Hno := Lib.hid (covB_no (rs := rs) (k := M) (i := k) hlt hl)
        clear hl Hc
        go_wp2_with fail
        refine (HC.out _ hR).mono ?_
        rintro e w5 ⟨rfl, b5⟩
        go_wp2
        go_ret
        exact ⟨by rw [Hno.out]; rfl, hbel.trans (b5.mono hs)⟩
      | false =>
        rw [hl] at Hc
        have HC := Lib.hid Hc
        have Hl := Lib.hid hl
        clear hl Hc
        go_wp2_with fail
        refine (HC.out _ hR).mono ?_
        rintro e w5 ⟨rfl, b5⟩
        go_wp2
        go_roundw
        case rel => exact ⟨k + 1, by omega, by go_num, fun j hj => by
          rcases Nat.lt_succ_iff_lt_or_eq.1 hj with h | h
          · exact Hall.out j h
          · rw [h]; exact Hl.out, hbel.trans (b5.mono hs)⟩
        case measure => simp [intOf]; omega
    · have Hy := Lib.hid (covB_yes (rs := rs) (k := M) fun i hi => Hall.out i (by omega))
      go_wp2
      go_ret
      exact ⟨by rw [Hy.out]; rfl, hbel⟩
def icO (rs : List (Int × Int)) (n : Int) : Bool := goodL rs && inB n 0 40
def icV (rs : List (Int × Int)) (n : Int) : Bool := icO rs n && covB rs n.toNat
theorem icV_no {rs : List (Int × Int)} {n : Int} (h : icO rs n = false) : icV rs n = false := by rw [icV, h]; rfl
theorem icV_yes {rs : List (Int × Int)} {n : Nat} (h : icO rs (n : Int) = true) : icV rs (n : Int) = covB rs n := by rw [icV, h, Int.toNat_natCast]; rfl
set_option maxRecDepth 100000 in
set_option maxHeartbeats 400000 in
theorem spec_IsCover_c (w : World) (A : Option Addr) (m c : Nat) (rs : List (Int × Int)) (hA : Rl w A rs) (hm : m = rs.length) (hn : m ≤ 1048576) (n : Int) :
    Calls Try.prog 20 #[.slice A m c, .int .i64 n] w fun en w' => en = .returned (.tuple #[.bool (icV rs n), .bool (icO rs n)]) ∧ Below w.heap.size w w' := by
  have Hm := Lib.hid hm
  clear hm
  cases hg : goodL rs with
  | false =>
    have ho : icO rs n = false := by simp [icO, *]
    rw [icV_no ho, ho]
    clear ho
    go_enter Try.func20, Try.ntmps20
    go_wp2_with fail
    refine (good_c _ _ _ rs _ hA Hm.out hn).mono ?_
    rintro e w1 ⟨rfl, b1⟩
    have hA_1 := hA.below b1
    go_wp2
    go_ret2
    exact ⟨rfl, b1⟩
  | true =>
    cases hh : inB n 0 40 with
    | false =>
      have ho : icO rs n = false := by simp [icO, *]
      rw [icV_no ho, ho]
      clear ho
      go_enter Try.func20, Try.ntmps20
      go_wp2_with fail
      refine (good_c _ _ _ rs _ hA Hm.out hn).mono ?_
      rintro e w1 ⟨rfl, b1⟩
      have hA_1 := hA.below b1
      go_wp2_with fail
      refine (l1In_c _ _ _ _).mono ?_
      rintro e w2 ⟨rfl, rfl⟩
      go_wp2
      go_ret2
      exact ⟨rfl, b1⟩
    | true =>
      have ho : icO rs n = true := by simp [icO, *]
      obtain ⟨n1, n2⟩ := inB_true.1 hh
      obtain ⟨M, rfl⟩ := Int.eq_ofNat_of_zero_le n1
      rw [icV_yes ho, ho]
      clear ho
      have Hg := Lib.hid hg
      have Hh := Lib.hid hh
      go_enter Try.func20, Try.ntmps20
      go_wp2_with fail
      refine (good_c _ _ _ rs _ hA Hm.out hn).mono ?_
      rintro e w1 ⟨rfl, b1⟩
      have hA_1 := hA.below b1
      go_wp2_with fail
      refine (l1In_c _ _ _ _).mono ?_
      rintro e w2 ⟨rfl, rfl⟩
      go_wp2_with fail
      refine (gpCovers_c _ _ _ _ rs hA_1 Hm.out Hg.out M (by omega)).mono ?_
      rintro e w3 ⟨rfl, b3⟩
      have hA_3 := hA_1.below b3
      have bb3 := b1.trans (b3.mono b1.size)
      go_wp2
      go_ret2
      exact ⟨rfl, bb3⟩

end Go.Proofs.Ytgkciiklgadgkaa

namespace Go.Proofs.Ytgkciiklgadgkaa
open Go.RowKit
set_option linter.unusedVariables false
set_option linter.unusedSimpArgs false



def lgV (rs : List (Int × Int)) : Int := if gpO rs then ivL (gpGA rs) (bgI (gpGA rs) (gpA rs).length) else 0
def lgN (rs : List (Int × Int)) : Int := if gpO rs then ivL (gpA rs) (bgI (gpGA rs) (gpA rs).length) else 0
theorem lgV_no {rs : List (Int × Int)} (h : gpO rs = false) : lgV rs = 0 := by rw [lgV, h]; rfl
theorem lgN_no {rs : List (Int × Int)} (h : gpO rs = false) : lgN rs = 0 := by rw [lgN, h]; rfl
theorem lgV_yes {rs : List (Int × Int)} (h : gpO rs = true) : lgV rs = ivL (gpGA rs) (bgI (gpGA rs) (gpA rs).length) := by rw [lgV, h]; rfl
theorem lgN_yes {rs : List (Int × Int)} (h : gpO rs = true) : lgN rs = ivL (gpA rs) (bgI (gpGA rs) (gpA rs).length) := by rw [lgN, h]; rfl

def cgO (rs : List (Int × Int)) (g : Int) : Bool := gpO rs && decide (1 ≤ g)
def cgV (rs : List (Int × Int)) (g : Int) : Int := if cgO rs g then (cnE (gpGA rs) g (gpA rs).length : Int) else 0
theorem cgV_no {rs : List (Int × Int)} {g : Int} (h : cgO rs g = false) : cgV rs g = 0 := by rw [cgV, h]; rfl
theorem cgV_yes {rs : List (Int × Int)} {g : Int} (h : cgO rs g = true) : cgV rs g = (cnE (gpGA rs) g (gpA rs).length : Int) := by rw [cgV, h]; rfl

theorem mxO_bound {xs : List Int} {S : Nat} (h : ∀ k, k < S → -100000 ≤ ivL xs k ∧ ivL xs k ≤ 200000) : ∀ k, k ≤ S → 0 ≤ mxO xs k ∧ mxO xs k ≤ 200000
  | 0, _ => by simp [mxO]
  | k + 1, hk => by
    have h1 := mxO_bound h k (by omega)
    have h2 := h k (by omega)
    rw [mxO]
    omega
def roV (rs : List (Int × Int)) : Int := if gpO rs then mxO (gpGA rs) (gpA rs).length else 0
theorem roV_no {rs : List (Int × Int)} (h : gpO rs = false) : roV rs = 0 := by rw [roV, h]; rfl
theorem roV_yes {rs : List (Int × Int)} (h : gpO rs = true) : roV rs = mxO (gpGA rs) (gpA rs).length := by rw [roV, h]; rfl

def rlO (rs : List (Int × Int)) : Bool := gpO rs && decide (0 < rs.length)
def rlV (rs : List (Int × Int)) : Int := if rlO rs then ((rnL (gpGA rs) (2 * (gpA rs).length)).1 : Int) else 0
theorem rlV_no {rs : List (Int × Int)} (h : rlO rs = false) : rlV rs = 0 := by rw [rlV, h]; rfl
theorem rlV_yes {rs : List (Int × Int)} (h : rlO rs = true) : rlV rs = ((rnL (gpGA rs) (2 * (gpA rs).length)).1 : Int) := by rw [rlV, h]; rfl

end Go.Proofs.Ytgkciiklgadgkaa
