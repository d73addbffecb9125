import Derived.Test.YtoapidcbmlnjcaaPE
import Derived.Test.YtoapidcbmlnjcaaI2
import Derived.Test.YtoapidcbmlnjcaaQ7
namespace Go.Proofs.Ytoapidcbmlnjcaa
open Go.RowKit
set_option linter.unusedVariables false
set_option linter.unusedSimpArgs false

set_option maxRecDepth 100000 in
set_option maxHeartbeats 800000 in
theorem lengthCovered_c (w : World) (A : Option Addr) (m c : Nat) (rs : List (Int × Int)) (hA : Rl w A rs) (hm : m = rs.length) (hg : goodL rs = true) :
    Calls Try.prog 95 #[.slice A m c] w fun en w' => en = .returned (.int .i64 (lcV rs : Int)) ∧ Below w.heap.size w w' := by
  have Hm := Lib.hid hm
  have Hg := Lib.hid hg
  have HV : Hid (lcV rs = lcG rs 40 0) := rfl
  have Hon := Lib.hid (fun f k => @lcG_on rs f k)
  have Hst := Lib.hid (fun f k => @lcG_stop rs f k)
  clear hm hg
  go_enter Try.func95, Try.ntmps95
  go_wp2
  go_loopw [3] (fun i wr => ∃ k f : Nat, f + k = 40 ∧ i = .int .i64 (k : Int) ∧ lcV rs = lcG rs f k ∧ Below w.heap.size w wr) (fun i _ => 40 - (intOf i).toNat)
  case atStart => exact ⟨0, 40, rfl, rfl, HV.out, Below.refl _ _⟩
  case round =>
    obtain ⟨k, f, hfk, rfl, hv, hbel⟩ := hrel
    have Hv := Lib.hid hv
    have hs := hbel.size
    clear hv
    cases f with
    | succ f =>
      have hk : k < 40 := by omega
      have hki : (k : Int) < 40 := by omega
      have hF := isLeft_c A c m rs ((k : Int) + 1) wr (hA.below hbel) Hm.out Hg.out (by omega) (by omega)
      cases hl : leftF rs ((k : Int) + 1) with
      | true =>
        have Hy := Lib.hid (Hst.out f k hl)
        rw [hl] at hF
        have HF := Lib.hid hF
        clear hF hl
        go_wp2_with fail
        refine HF.out.mono ?_
        rintro e w5 ⟨rfl, b5⟩
        go_wp2
        go_ret
        exact ⟨by rw [Hv.out, Hy.out]; rfl, hbel.trans (b5.mono hs)⟩
      | false =>
        have Hy := Lib.hid (Hon.out f k hl)
        rw [hl] at hF
        have HF := Lib.hid hF
        clear hF hl
        go_wp2_with fail
        refine HF.out.mono ?_
        rintro e w5 ⟨rfl, b5⟩
        go_wp2
        go_roundw
        case rel => exact ⟨k + 1, f, by omega, by go_num, by rw [Hv.out, Hy.out], hbel.trans (b5.mono hs)⟩
        case measure => simp [intOf]; omega
    | zero =>
      have hk : k = 40 := by omega
      subst hk
      go_wp2
      go_ret
      exact ⟨by rw [Hv.out]; rfl, hbel⟩
theorem isLength_c (n : Int) (w : World) : Calls Try.prog 97 #[.int .i64 n] w fun en w' => en = .returned (.bool (inB n 0 40)) ∧ w = w' := by
  by_cases h1 : 0 ≤ n
  · by_cases h2 : n ≤ 40
    · rw [inB_true.2 ⟨h1, h2⟩]
      go_enter Try.func97, Try.ntmps97
      go_wp2
      go_ret
      exact ⟨rfl, rfl⟩
    · rw [inB_false.2 (by omega)]
      go_enter Try.func97, Try.ntmps97
      go_wp2
      go_ret
      exact ⟨rfl, rfl⟩
  · rw [inB_false.2 (by omega)]
    go_enter Try.func97, Try.ntmps97
    go_wp2
    go_ret
    exact ⟨rfl, rfl⟩
set_option maxRecDepth 100000 in
set_option maxHeartbeats 800000 in
theorem countChoices_c (w : World) (A : Option Addr) (m c : Nat) (xs : List Int) (hA : Il w A xs) (hm : m = xs.length) (hg : gpP xs = true) :
    Calls Try.prog 94 #[.slice A m c] w fun en w' => en = .returned (.int .i64 (prodN xs : Int)) ∧ w = w' := by
  have Hm := Lib.hid hm
  have HA := Lib.hid hA
  have Ht := Lib.hid (fun k (hk : k < m) => prodN_take (xs := xs) (k := k) (by omega))
  have hb : ∀ k, k ≤ m → prodN (xs.take k) ≤ 371293 := fun k hk => by
    have h1 := prodN_le (xs := xs.take k) fun x hx => by have := gpP_mem hg x (List.mem_of_mem_take hx); omega
    have h2 := (gpP_parts hg).1
    rw [List.length_take] at h1
    have h3 := Nat.pow_le_pow_right (show 0 < 13 by omega) (show min k xs.length ≤ 5 by omega)
    exact Nat.le_trans h1 h3
  have Hb := Lib.hid hb
  have Hx := Lib.hid (fun k (hk : k < m) => dpB_at (gpP_parts hg).2.1 (show k < xs.length by omega))
  have hm5 : m ≤ 5 := by have := (gpP_parts hg).1; omega
  have HE : Hid (xs.take m = xs) := by show _ = _; rw [hm, List.take_length]
  clear hA hm hg hb
  go_enter Try.func94, Try.ntmps94
  go_wp2
  go_loop [3, 5, 8] (fun t _ i => ∃ k : Nat, k ≤ m ∧ i = .int .i64 (k : Int) ∧ t = .int .i64 (prodN (xs.take k) : Int)) (fun _ _ i => m - (intOf i).toNat)
  case atStart => exact ⟨0, Nat.zero_le _, rfl, rfl⟩
  case round =>
    obtain ⟨k, hk, rfl, rfl⟩ := hrel
    by_cases hlt : k < m
    · obtain ⟨g, off, rfl, hg2, hcl⟩ := HA.out (by have := Hm.out; omega)
      have hck := hcl k (by have := Hm.out; omega)
      have hki : (k : Int) < (m : Int) := by omega
      have hx := Hx.out k hlt
      have ht := Ht.out k hlt
      have hb1 := Hb.out (k + 1) (by omega)
      obtain ⟨x, hxe⟩ := Int.eq_ofNat_of_zero_le (show 0 ≤ ivL xs k by omega)
      rw [hxe] at hck ht hx
      rw [Int.toNat_natCast] at ht
      obtain ⟨T, hT⟩ : ∃ T, prodN (xs.take k) = T := ⟨_, rfl⟩
      rw [hT] at ht ⊢
      obtain ⟨M, hM⟩ : ∃ M : Nat, T * x = M := ⟨_, rfl⟩
      have hmul : (T : Int) * (x : Int) = (M : Int) := by rw [← hM, Int.natCast_mul]
      rw [hM] at ht
      rw [ht] at hb1
      have hwm : IntKind.i64.wrap (M : Int) = (M : Int) := IntWalk.i64_in _ (by omega)
      have Hy := Lib.hid ht
      clear hxe ht hT hM hcl
      go_wp2
      go_round
      case rel => exact ⟨k + 1, by omega, by go_num, by rw [Hy.out]⟩
      case measure => simp [intOf]; omega
    · have Hk := Lib.hid (show k = m by omega)
      go_wp2
      go_ret
      exact ⟨by have e := HE.out; rw [← Hk.out] at e; rw [e]; rfl, rfl⟩
set_option maxRecDepth 100000 in
set_option maxHeartbeats 800000 in
theorem impl_IsCover_c (w : World) (A : Option Addr) (m c : Nat) (rs : List (Int × Int)) (hA : Rl w A rs) (hm : m = rs.length) (hn : m ≤ 1048576) (n : Int) :
    Calls Try.prog 62 #[.slice A m c, .int .i64 n] w fun en w' => en = .returned (.tuple #[.bool (icV rs n), .bool (icO rs n)]) ∧ Below w.heap.size w w' := by
  have Hm := Lib.hid hm
  clear hm
  cases hg : goodL rs with
  | false =>
    have ho : icO rs n = false := by simp [icO, *]
    rw [icV_no ho, ho]
    clear ho
    go_enter Try.func62, Try.ntmps62
    go_wp2_with fail
    refine (implAreRules_c _ _ _ rs _ hA Hm.out hn).mono ?_
    rintro e w1 ⟨rfl, b1⟩
    have hA_1 := hA.below b1
    go_wp2
    go_ret2
    exact ⟨rfl, b1⟩
  | true =>
    cases hh : inB n 0 40 with
    | false =>
      have ho : icO rs n = false := by simp [icO, *]
      rw [icV_no ho, ho]
      clear ho
      go_enter Try.func62, Try.ntmps62
      go_wp2_with fail
      refine (implAreRules_c _ _ _ rs _ hA Hm.out hn).mono ?_
      rintro e w1 ⟨rfl, b1⟩
      have hA_1 := hA.below b1
      go_wp2_with fail
      refine (isLength_c _ _).mono ?_
      rintro e w2 ⟨rfl, rfl⟩
      go_wp2
      go_ret2
      exact ⟨rfl, b1⟩
    | true =>
      have ho : icO rs n = true := by simp [icO, *]
      obtain ⟨n1, n2⟩ := inB_true.1 hh
      obtain ⟨N, rfl⟩ := Int.eq_ofNat_of_zero_le n1
      rw [icV_yes ho, ho, cov_lc (by omega)]
      have Hgg := Lib.hid hg
      clear ho
      have Hg := Lib.hid hg
      have Hh := Lib.hid hh
      go_enter Try.func62, Try.ntmps62
      go_wp2_with fail
      refine (implAreRules_c _ _ _ rs _ hA Hm.out hn).mono ?_
      rintro e w1 ⟨rfl, b1⟩
      have hA_1 := hA.below b1
      go_wp2_with fail
      refine (isLength_c _ _).mono ?_
      rintro e w2 ⟨rfl, rfl⟩
      have hl := lcV_le rs
      obtain ⟨L, hL⟩ : ∃ L, lcV rs = L := ⟨_, rfl⟩
      have Hlc := lengthCovered_c _ A m c rs hA_1 Hm.out Hgg.out
      rw [hL] at Hlc hl
      have HLc := Lib.hid Hlc
      have HLe := Lib.hid hL
      clear Hlc hL
      by_cases hd : N ≤ L
      · have hdi : (N : Int) ≤ (L : Int) := by omega
        go_wp2_with fail
        refine HLc.out.mono ?_
        rintro e w5 ⟨rfl, b5⟩
        go_wp2
        go_ret2
        exact ⟨by rw [HLe.out, decide_eq_true hd]; rfl, (b1).trans (b5.mono (b1).size)⟩
      · have hdi : (L : Int) < (N : Int) := by omega
        go_wp2_with fail
        refine HLc.out.mono ?_
        rintro e w5 ⟨rfl, b5⟩
        go_wp2
        go_ret2
        exact ⟨by rw [HLe.out, decide_eq_false hd]; rfl, (b1).trans (b5.mono (b1).size)⟩

end Go.Proofs.Ytoapidcbmlnjcaa
