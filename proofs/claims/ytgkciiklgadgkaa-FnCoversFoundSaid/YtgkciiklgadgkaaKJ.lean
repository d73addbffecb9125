import Derived.Test.YtgkciiklgadgkaaKG
import Derived.Test.YtgkciiklgadgkaaP6
import Derived.Test.YtgkciiklgadgkaaSh
import Derived.Test.YtgkciiklgadgkaaI2
import Derived.Test.YtgkciiklgadgkaaQ7
import Derived.Test.YtgkciiklgadgkaaKA
import Derived.Maps.AppendAt
import Derived.RangeFuncNested
import Derived.RangeFuncBound
import Derived.RangeFuncCalls
import Derived.RangeFuncLeaves
import Derived.RangeFuncBox
import Derived.Shelf.Abstract
import Derived.OwnWalkIn
import Derived.TacticsInMore
import Derived.LoopNIn
import Derived.LoopIn
namespace Go.Proofs.Ytgkciiklgadgkaa
open Go.RowKit
set_option linter.unusedVariables false
set_option linter.unusedSimpArgs false

theorem pr9_six : pr9.take 6 = [2, 3, 5, 7, 11, 13] := by
  rw [← pr9_first (by decide)]
  decide +kernel
theorem pr9_at {k : Nat} (hk : k < 6) : ivL pr9 k = (rpF k : Int) := by
  rw [← ivL_take (xs := pr9) hk, pr9_six]
  match k, hk with
  | 0, _ => rfl
  | 1, _ => rfl
  | 2, _ => rfl
  | 3, _ => rfl
  | 4, _ => rfl
  | 5, _ => rfl
theorem reB_six (p : Int) : reB p = ([2, 3, 5, 7, 11, 13] : List Int).contains p := by
  rw [Bool.eq_iff_iff, reB_iff, List.contains_iff_mem]
  constructor
  · rintro ⟨k, hk, rfl⟩
    match k, hk with
    | 0, _ => decide
    | 1, _ => decide
    | 2, _ => decide
    | 3, _ => decide
    | 4, _ => decide
    | 5, _ => decide
  · intro h
    simp only [List.mem_cons, List.not_mem_nil, or_false] at h
    rcases h with rfl | rfl | rfl | rfl | rfl | rfl
    · exact ⟨0, by decide, rfl⟩
    · exact ⟨1, by decide, rfl⟩
    · exact ⟨2, by decide, rfl⟩
    · exact ⟨3, by decide, rfl⟩
    · exact ⟨4, by decide, rfl⟩
    · exact ⟨5, by decide, rfl⟩
set_option maxRecDepth 100000 in
set_option maxHeartbeats 400000 in
theorem isPrimeTold_c (p : Int) (w : World) :
    Calls Try.prog 60 #[.int .i64 p] w fun en w' => en = .returned (.bool (reB p)) ∧ Below w.heap.size w w' := by
  obtain ⟨B, hB⟩ : ∃ B, reB p = B := ⟨_, rfl⟩
  have Hr := Lib.hid ((reB_six p).symm.trans hB)
  rw [hB]
  clear hB
  have hfp := firstPrimes_c w 6 (by decide)
  have Hfp := Lib.hid hfp
  clear hfp
  go_enter Try.func60, Try.ntmps60
  go_wp2_with fail
  refine Hfp.out.mono ?_
  rintro e w1 ⟨⟨g, c, rfl, hg1, hg2, hc⟩, b1⟩
  have hct := (Try.slices_Contains_int g 0 6 c (pr9.take 6) p w1 (by rw [pr9_six]; decide) (by omega) (fun j hj => by
    rw [pr9_six] at hj
    rw [Nat.zero_add]
    refine (hc j hj).trans ?_
    rw [← ivL_take (xs := pr9) hj]
    rfl))
  rw [List.take_take, Nat.min_self, pr9_six, Hr.out] at hct
  have Hct := Lib.hid hct
  clear hc hct
  go_wp2_with fail
  refine Hct.out.mono ?_
  rintro e w2 ⟨rfl, rfl⟩
  go_wp2
  go_ret
  exact ⟨rfl, b1⟩

theorem nodup_le : ∀ (ys zs : List Int), ys.Nodup → (∀ y, y ∈ ys → y ∈ zs) → ys.length ≤ zs.length
  | [], _, _, _ => Nat.zero_le _
  | y :: ys, zs, h, hm => by
    rw [List.nodup_cons] at h
    have hz := hm y (List.mem_cons_self ..)
    have ih := nodup_le ys (zs.erase y) h.2 fun x hx => (List.mem_erase_of_ne (fun e => h.1 (by rw [← e]; exact hx))).2 (hm x (List.mem_cons_of_mem _ hx))
    rw [List.length_erase_of_mem hz] at ih
    have := List.length_pos_of_mem hz
    rw [List.length_cons]
    omega
/-- Different ones of the first six primes are at most six. -/
theorem dp_six {xs : List Int} (h : ∀ i, i < xs.length → dfB xs i = true) : xs.length ≤ 6 := by
  refine nodup_le xs [2, 3, 5, 7, 11, 13] ?_ ?_
  · rw [List.nodup_iff_pairwise_ne, List.pairwise_iff_getElem]
    intro i j hi hj hij he
    have h2 := h j hj
    rw [dfB, Bool.and_eq_true, Bool.not_eq_true'] at h2
    have h3 : hasF (xs.take j) (ivL xs j) = true := hasF_mem.2 (by
      rw [List.mem_iff_getElem]
      exact ⟨i, by rw [List.length_take]; omega, by rw [List.getElem_take, he]; simp [ivL, hj]⟩)
    rw [h3] at h2
    exact absurd h2.2 (by simp)
  · intro y hy
    obtain ⟨i, hi, rfl⟩ := List.mem_iff_getElem.1 hy
    have h2 := h i hi
    rw [dfB, Bool.and_eq_true, reB_six, List.contains_iff_mem] at h2
    rw [show xs[i] = ivL xs i by simp [ivL, hi]]
    exact h2.1
theorem dp_all {xs : List Int} (h : ∀ i, i < xs.length → dfB xs i = true) : dpB xs = true := dpB_iff.2 ⟨dp_six h, h⟩
theorem hasF_contains (xs : List Int) (x : Int) : xs.contains x = hasF xs x := by rw [Bool.eq_iff_iff, hasF_mem, List.contains_iff_mem]

set_option maxRecDepth 100000 in
set_option maxHeartbeats 1600000 in
theorem arePrimesTold_c (w : World) (A : Option Addr) (m c : Nat) (xs : List Int) (hA : Il w A xs) (hm : m = xs.length) (hn : m ≤ 1048576) (hmc : m ≤ c) :
    Calls Try.prog 43 #[.slice A m c] w fun en w' => en = .returned (.bool (dpB xs)) ∧ Below w.heap.size w w' := by
  have Hm := Lib.hid hm
  clear hm
  obtain ⟨T, hT⟩ : ∃ T, dpB xs = T := ⟨_, rfl⟩
  rw [hT]
  have HT := Lib.hid hT
  clear hT
  go_enter Try.func43, Try.ntmps43
  go_wp2
  go_loopw [7] (fun i wr => ∃ k : Nat, k ≤ m ∧ i = .int .i64 (k : Int) ∧ (∀ j, j < k → dfB xs j = true) ∧ Below w.heap.size w wr) (fun i _ => m - (intOf i).toNat)
  case atStart => exact ⟨0, Nat.zero_le _, rfl, fun j hj => by omega, Below.refl _ _⟩
  case round =>
    obtain ⟨k, hk, rfl, hall, hbel⟩ := hrel
    have Hall := Lib.hid hall
    clear hall
    have hs := hbel.size
    by_cases hlt : k < m
    · obtain ⟨b, off, rfl, hb, hr⟩ := hA (by have := Hm.out; omega)
      have hck := (hbel.cell (p := ⟨b, off + k, none⟩) hb).trans (hr k (by have := Hm.out; omega))
      have hcw : ∀ j, j < xs.length → wr.cell? ⟨b, off + j, none⟩ = some (.int .i64 (xs.getD j 0)) := fun j hj => (hbel.cell (p := ⟨b, off + j, none⟩) hb).trans (hr j hj)
      obtain ⟨x, hx⟩ : ∃ x, ivL xs k = x := ⟨_, rfl⟩
      rw [hx] at hck
      have Hd : Hid (dfB xs k = (reB x && !hasF (xs.take k) x)) := by show _ = _; rw [dfB, hx]
      have Hcw := Lib.hid hcw
      clear hx hr hcw
      cases hre : reB x with
      | false =>
        have Hy : Hid (T = false) := by show _ = _; rw [← HT.out]; exact dpB_no (i := k) (by have := Hm.out; omega) (by rw [Hd.out, hre]; rfl)
        have Hre := Lib.hid hre
        clear hre
        go_wp2_with fail
        refine (isPrimeTold_c _ _).mono ?_
        rw [Hre.out]
        rintro e w1 ⟨rfl, b1⟩
        go_wp2
        go_ret
        exact ⟨by rw [Hy.out]; rfl, hbel.trans (b1.mono hs)⟩
      | true =>
        have Hre := Lib.hid hre
        have hkc : (k : Int) ≤ (c : Int) := by omega
        have Hct : Hid (∀ W : World, (∀ j, j < xs.length → W.cell? ⟨b, off + j, none⟩ = some (.int .i64 (xs.getD j 0))) → Calls Try.prog 61 #[.slice (some ⟨b, off, none⟩) k c, .int .i64 x] W fun e w' => e = .returned (.bool (hasF (xs.take k) x)) ∧ w' = W) := fun W hc => by
          have h := Try.slices_Contains_int b off k c xs x W (by have := Hm.out; omega) (by omega) hc
          rwa [hasF_contains] at h
        cases hh : hasF (xs.take k) x with
        | true =>
          have Hy : Hid (T = false) := by show _ = _; rw [← HT.out]; exact dpB_no (i := k) (by have := Hm.out; omega) (by rw [Hd.out, hre, hh]; rfl)
          have Hh := Lib.hid hh
          clear hre hh
          go_wp2_with fail
          refine (isPrimeTold_c _ _).mono ?_
          rw [Hre.out]
          rintro e w1 ⟨rfl, b1⟩
          have Hcw1 := Lib.hid (fun j (hj : j < xs.length) => (b1.cell (p := ⟨b, off + j, none⟩) (Nat.lt_of_lt_of_le hb hs)).trans (Hcw.out j hj))
          go_wp2_with fail
          refine (Hct.out _ Hcw1.out).mono ?_
          rw [Hh.out]
          rintro e w2 ⟨rfl, rfl⟩
          go_wp2
          go_ret
          exact ⟨by rw [Hy.out]; rfl, hbel.trans (b1.mono hs)⟩
        | false =>
          have Hall2 := Lib.hid (fun j (hj : j < k + 1) => show dfB xs j = true by
            rcases Nat.lt_succ_iff_lt_or_eq.1 hj with h | h
            · exact Hall.out j h
            · rw [h, Hd.out, hre, hh]; rfl)
          have Hh := Lib.hid hh
          clear hre hh
          go_wp2_with fail
          refine (isPrimeTold_c _ _).mono ?_
          rw [Hre.out]
          rintro e w1 ⟨rfl, b1⟩
          have Hcw1 := Lib.hid (fun j (hj : j < xs.length) => (b1.cell (p := ⟨b, off + j, none⟩) (Nat.lt_of_lt_of_le hb hs)).trans (Hcw.out j hj))
          go_wp2_with fail
          refine (Hct.out _ Hcw1.out).mono ?_
          rw [Hh.out]
          rintro e w2 ⟨rfl, rfl⟩
          go_wp2
          go_roundw
          case rel => exact ⟨k + 1, by omega, by go_num, Hall2.out, hbel.trans (b1.mono hs)⟩
          case measure => simp [intOf]; omega
    · have Hy : Hid (T = true) := by show _ = _; rw [← HT.out]; exact dp_all fun j hj => Hall.out j (by have := Hm.out; omega)
      go_wp2
      go_ret
      exact ⟨by rw [Hy.out]; rfl, hbel⟩

end Go.Proofs.Ytgkciiklgadgkaa

namespace Go.Proofs.Ytgkciiklgadgkaa
open Go.RowKit
set_option linter.unusedVariables false
set_option linter.unusedSimpArgs false

set_option maxRecDepth 100000 in
set_option maxHeartbeats 800000 in
theorem lengthCovered_c (w : World) (A : Option Addr) (m c : Nat) (rs : List (Int × Int)) (hA : Rl w A rs) (hm : m = rs.length) (hg : goodL rs = true) :
    Calls Try.prog 26 #[.slice A m c] w fun en w' => en = .returned (.int .i64 (lcV rs : Int)) ∧ Below w.heap.size w w' := by
  have Hm := Lib.hid hm
  have Hg := Lib.hid hg
  have HV : Hid (lcV rs = lcG rs 40 0) := rfl
  have Hon := Lib.hid (fun f k => @lcG_on rs f k)
  have Hst := Lib.hid (fun f k => @lcG_stop rs f k)
  clear hm hg
  go_enter Try.func26, Try.ntmps26
  go_wp2
  go_loopw [3] (fun i wr => ∃ k f : Nat, f + k = 40 ∧ i = .int .i64 (k : Int) ∧ lcV rs = lcG rs f k ∧ Below w.heap.size w wr) (fun i _ => 40 - (intOf i).toNat)
  case atStart => exact ⟨0, 40, rfl, rfl, HV.out, Below.refl _ _⟩
  case round =>
    obtain ⟨k, f, hfk, rfl, hv, hbel⟩ := hrel
    have Hv := Lib.hid hv
    have hs := hbel.size
    clear hv
    cases f with
    | succ f =>
      have hk : k < 40 := by omega
      have hki : (k : Int) < 40 := by omega
      have hF := isLeft_c A c m rs ((k : Int) + 1) wr (hA.below hbel) Hm.out Hg.out (by omega) (by omega)
      cases hl : leftF rs ((k : Int) + 1) with
      | true =>
        have Hy := Lib.hid (Hst.out f k hl)
        rw [hl] at hF
        have HF := Lib.hid hF
        clear hF hl
        go_wp2_with fail
        refine HF.out.mono ?_
        rintro e w5 ⟨rfl, b5⟩
        go_wp2
        go_ret
        exact ⟨by rw [Hv.out, Hy.out]; rfl, hbel.trans (b5.mono hs)⟩
      | false =>
        have Hy := Lib.hid (Hon.out f k hl)
        rw [hl] at hF
        have HF := Lib.hid hF
        clear hF hl
        go_wp2_with fail
        refine HF.out.mono ?_
        rintro e w5 ⟨rfl, b5⟩
        go_wp2
        go_roundw
        case rel => exact ⟨k + 1, f, by omega, by go_num, by rw [Hv.out, Hy.out], hbel.trans (b5.mono hs)⟩
        case measure => simp [intOf]; omega
    | zero =>
      have hk : k = 40 := by omega
      subst hk
      go_wp2
      go_ret
      exact ⟨by rw [Hv.out]; rfl, hbel⟩
theorem isLength_c (n : Int) (w : World) : Calls Try.prog 30 #[.int .i64 n] w fun en w' => en = .returned (.bool (inB n 0 40)) ∧ w = w' := by
  by_cases h1 : 0 ≤ n
  · by_cases h2 : n ≤ 40
    · rw [inB_true.2 ⟨h1, h2⟩]
      go_enter Try.func30, Try.ntmps30
      go_wp2
      go_ret
      exact ⟨rfl, rfl⟩
    · rw [inB_false.2 (by omega)]
      go_enter Try.func30, Try.ntmps30
      go_wp2
      go_ret
      exact ⟨rfl, rfl⟩
  · rw [inB_false.2 (by omega)]
    go_enter Try.func30, Try.ntmps30
    go_wp2
    go_ret
    exact ⟨rfl, rfl⟩
set_option maxRecDepth 100000 in
set_option maxHeartbeats 800000 in
theorem countChoices_c (w : World) (A : Option Addr) (m c : Nat) (xs : List Int) (hA : Il w A xs) (hm : m = xs.length) (hg : gpP xs = true) :
    Calls Try.prog 25 #[.slice A m c] w fun en w' => en = .returned (.int .i64 (prodN xs : Int)) ∧ w = w' := by
  have Hm := Lib.hid hm
  have HA := Lib.hid hA
  have Ht := Lib.hid (fun k (hk : k < m) => prodN_take (xs := xs) (k := k) (by omega))
  have hb : ∀ k, k ≤ m → prodN (xs.take k) ≤ 371293 := fun k hk => by
    have h1 := prodN_le (xs := xs.take k) fun x hx => by have := gpP_mem hg x (List.mem_of_mem_take hx); omega
    have h2 := (gpP_parts hg).1
    rw [List.length_take] at h1
    have h3 := Nat.pow_le_pow_right (show 0 < 13 by omega) (show min k xs.length ≤ 5 by omega)
    exact Nat.le_trans h1 h3
  have Hb := Lib.hid hb
  have Hx := Lib.hid (fun k (hk : k < m) => dpB_at (gpP_parts hg).2.1 (show k < xs.length by omega))
  have hm5 : m ≤ 5 := by have := (gpP_parts hg).1; omega
  have HE : Hid (xs.take m = xs) := by show _ = _; rw [hm, List.take_length]
  clear hA hm hg hb
  go_enter Try.func25, Try.ntmps25
  go_wp2
  go_loop [3, 5, 8] (fun t _ i => ∃ k : Nat, k ≤ m ∧ i = .int .i64 (k : Int) ∧ t = .int .i64 (prodN (xs.take k) : Int)) (fun _ _ i => m - (intOf i).toNat)
  case atStart => exact ⟨0, Nat.zero_le _, rfl, rfl⟩
  case round =>
    obtain ⟨k, hk, rfl, rfl⟩ := hrel
    by_cases hlt : k < m
    · obtain ⟨g, off, rfl, hg2, hcl⟩ := HA.out (by have := Hm.out; omega)
      have hck := hcl k (by have := Hm.out; omega)
      have hki : (k : Int) < (m : Int) := by omega
      have hx := Hx.out k hlt
      have ht := Ht.out k hlt
      have hb1 := Hb.out (k + 1) (by omega)
      obtain ⟨x, hxe⟩ := Int.eq_ofNat_of_zero_le (show 0 ≤ ivL xs k by omega)
      rw [hxe] at hck ht hx
      rw [Int.toNat_natCast] at ht
      obtain ⟨T, hT⟩ : ∃ T, prodN (xs.take k) = T := ⟨_, rfl⟩
      rw [hT] at ht ⊢
      obtain ⟨M, hM⟩ : ∃ M : Nat, T * x = M := ⟨_, rfl⟩
      have hmul : (T : Int) * (x : Int) = (M : Int) := by rw [← hM, Int.natCast_mul]
      rw [hM] at ht
      rw [ht] at hb1
      have hwm : IntKind.i64.wrap (M : Int) = (M : Int) := IntWalk.i64_in _ (by omega)
      have Hy := Lib.hid ht
      clear hxe ht hT hM hcl
      go_wp2
      go_round
      case rel => exact ⟨k + 1, by omega, by go_num, by rw [Hy.out]⟩
      case measure => simp [intOf]; omega
    · have Hk := Lib.hid (show k = m by omega)
      go_wp2
      go_ret
      exact ⟨by have e := HE.out; rw [← Hk.out] at e; rw [e]; rfl, rfl⟩
set_option maxRecDepth 100000 in
set_option maxHeartbeats 800000 in
theorem impl_IsCover_c (w : World) (A : Option Addr) (m c : Nat) (rs : List (Int × Int)) (hA : Rl w A rs) (hm : m = rs.length) (hn : m ≤ 1048576) (n : Int) :
    Calls Try.prog 14 #[.slice A m c, .int .i64 n] w fun en w' => en = .returned (.tuple #[.bool (icV rs n), .bool (icO rs n)]) ∧ Below w.heap.size w w' := by
  have Hm := Lib.hid hm
  clear hm
  cases hg : goodL rs with
  | false =>
    have ho : icO rs n = false := by simp [icO, *]
    rw [icV_no ho, ho]
    clear ho
    go_enter Try.func14, Try.ntmps14
    go_wp2_with fail
    refine (implAreRules_c _ _ _ rs _ hA Hm.out hn).mono ?_
    rintro e w1 ⟨rfl, b1⟩
    have hA_1 := hA.below b1
    go_wp2
    go_ret2
    exact ⟨rfl, b1⟩
  | true =>
    cases hh : inB n 0 40 with
    | false =>
      have ho : icO rs n = false := by simp [icO, *]
      rw [icV_no ho, ho]
      clear ho
      go_enter Try.func14, Try.ntmps14
      go_wp2_with fail
      refine (implAreRules_c _ _ _ rs _ hA Hm.out hn).mono ?_
      rintro e w1 ⟨rfl, b1⟩
      have hA_1 := hA.below b1
      go_wp2_with fail
      refine (isLength_c _ _).mono ?_
      rintro e w2 ⟨rfl, rfl⟩
      go_wp2
      go_ret2
      exact ⟨rfl, b1⟩
    | true =>
      have ho : icO rs n = true := by simp [icO, *]
      obtain ⟨n1, n2⟩ := inB_true.1 hh
      obtain ⟨N, rfl⟩ := Int.eq_ofNat_of_zero_le n1
      rw [icV_yes ho, ho, cov_lc (by omega)]
      have Hgg := Lib.hid hg
      clear ho
      have Hg := Lib.hid hg
      have Hh := Lib.hid hh
      go_enter Try.func14, Try.ntmps14
      go_wp2_with fail
      refine (implAreRules_c _ _ _ rs _ hA Hm.out hn).mono ?_
      rintro e w1 ⟨rfl, b1⟩
      have hA_1 := hA.below b1
      go_wp2_with fail
      refine (isLength_c _ _).mono ?_
      rintro e w2 ⟨rfl, rfl⟩
      have hl := lcV_le rs
      obtain ⟨L, hL⟩ : ∃ L, lcV rs = L := ⟨_, rfl⟩
      have Hlc := lengthCovered_c _ A m c rs hA_1 Hm.out Hgg.out
      rw [hL] at Hlc hl
      have HLc := Lib.hid Hlc
      have HLe := Lib.hid hL
      clear Hlc hL
      by_cases hd : N ≤ L
      · have hdi : (N : Int) ≤ (L : Int) := by omega
        go_wp2_with fail
        refine HLc.out.mono ?_
        rintro e w5 ⟨rfl, b5⟩
        go_wp2
        go_ret2
        exact ⟨by rw [HLe.out, decide_eq_true hd]; rfl, (b1).trans (b5.mono (b1).size)⟩
      · have hdi : (L : Int) < (N : Int) := by omega
        go_wp2_with fail
        refine HLc.out.mono ?_
        rintro e w5 ⟨rfl, b5⟩
        go_wp2
        go_ret2
        exact ⟨by rw [HLe.out, decide_eq_false hd]; rfl, (b1).trans (b5.mono (b1).size)⟩
open Go.RowKit
set_option linter.unusedVariables false
set_option linter.unusedSimpArgs false

theorem qcallS {P : Program} {f : FuncId} {args : Array Value} {w : World} {n : Nat} {v : Value} (h : Calls P f args (w.drewN n) fun e w' => e = .returned v ∧ w' = w.drewN n) :
    Calls P f args (w.drewN n) fun e w'' => e = .returned v ∧ ∃ m, w'' = w.drewN m := h.mono fun _ _ hh => ⟨hh.1, n, hh.2⟩
/-- Rising, or the same, as far as looked at. -/
def srtB (xs : List Int) : Bool := (List.range (xs.length - 1)).all fun i => decide (ivL xs i ≤ ivL xs (i + 1))
theorem srtB_no {xs : List Int} {i : Nat} (hi : i + 1 < xs.length) (h : ivL xs (i + 1) < ivL xs i) : srtB xs = false := by
  rw [srtB, List.all_eq_false]
  exact ⟨i, List.mem_range.2 (by omega), by simpa using h⟩
theorem srtB_yes {xs : List Int} (h : ∀ i, i + 1 < xs.length → ivL xs i ≤ ivL xs (i + 1)) : srtB xs = true := by
  rw [srtB, List.all_eq_true]
  exact fun i hi => decide_eq_true (h i (by have := List.mem_range.1 hi; omega))
theorem ris_srt {xs : List Int} (h : dpB xs = true) : risB xs = srtB xs := by
  rw [Bool.eq_iff_iff]
  constructor
  · intro h1
    refine srtB_yes fun i hi => ?_
    rw [risB, List.all_eq_true] at h1
    have := of_decide_eq_true (h1 i (List.mem_range.2 (by omega)))
    omega
  · intro h1
    refine risB_yes fun i hi => ?_
    rw [srtB, List.all_eq_true] at h1
    have h2 := of_decide_eq_true (h1 i (List.mem_range.2 (by omega)))
    have h3 := (dpB_iff.1 h).2 (i + 1) hi
    rw [dfB, Bool.and_eq_true, Bool.not_eq_true'] at h3
    have h4 : ivL xs (i + 1) ≠ ivL xs i := fun e => by
      have h5 : hasF (xs.take (i + 1)) (ivL xs (i + 1)) = true := hasF_mem.2 (by
        rw [e, List.mem_iff_getElem]
        exact ⟨i, by rw [List.length_take]; omega, by rw [List.getElem_take]; simp [ivL, show i < xs.length by omega]⟩)
      rw [h5] at h3
      exact absurd h3.2 (by decide)
    omega
set_option maxRecDepth 100000 in
set_option maxHeartbeats 1600000 in
theorem isSorted_c (w : World) (A : Option Addr) (n c : Nat) (xs : List Int) (hA : Il w A xs) (hn : n = xs.length) (hl : n ≤ 1048576) :
    Calls Try.prog 44 #[.slice A n c] w fun en w' => en = .returned (.bool (srtB xs)) ∧ Below w.heap.size w w' := by
  have HA := Lib.hid hA
  have Hn := Lib.hid hn
  obtain ⟨T, hT⟩ : ∃ T, srtB xs = T := ⟨_, rfl⟩
  have Hno : Hid (∀ i, i + 1 < n → ivL xs (i + 1) < ivL xs i → T = false) := fun i hi h => by rw [← hT]; exact srtB_no (by omega) h
  have Hyes : Hid ((∀ i, i + 1 < n → ivL xs i ≤ ivL xs (i + 1)) → T = true) := fun h => by rw [← hT]; exact srtB_yes fun i hi => h i (by omega)
  have hwn : IntKind.i64.wrap ((n : Int) - 1) = (n : Int) - 1 := IntWalk.i64_in _ (by omega)
  rw [hT]
  clear hA hn hT
  go_enter Try.func44, Try.ntmps44
  go_wp2
  go_loopw [3] (fun i wr => ∃ z : Int, i = .int .i64 z ∧ -1 ≤ z ∧ z ≤ (n : Int) - 1 ∧ (∀ j : Nat, z ≤ (j : Int) → j + 1 < n → ivL xs j ≤ ivL xs (j + 1)) ∧ Below w.heap.size w wr) (fun i _ => (intOf i + 1).toNat)
  case atStart => exact ⟨_, rfl, by omega, by omega, fun j h1 h2 => by omega, Below.refl _ _⟩
  case round =>
    obtain ⟨z, rfl, hz1, hz2, hall, hbel⟩ := hrel
    have Hall := Lib.hid hall
    have hs := hbel.size
    clear hall
    by_cases hlt : 0 < z
    · obtain ⟨K, hK⟩ := Int.eq_ofNat_of_zero_le (show 0 ≤ z by omega)
      obtain ⟨k, hk⟩ : ∃ k, K = k + 1 := ⟨K - 1, by omega⟩
      subst hK
      have hKn : K < n := by omega
      obtain ⟨g, off, rfl, hg2, hcl⟩ := HA.out (by have := Hn.out; omega)
      have hc1 := (hbel.cell (p := ⟨g, off + K, none⟩) hg2).trans (hcl K (by have := Hn.out; omega))
      have hc0 := (hbel.cell (p := ⟨g, off + k, none⟩) hg2).trans (hcl k (by have := Hn.out; omega))
      have Hk := Lib.hid hk
      have hK1 : (K : Int) - 1 = (k : Int) := by omega
      have hKi : (K : Int) < (n : Int) := by omega
      have hki : (k : Int) < (n : Int) := by omega
      have hw0 : IntKind.i64.wrap (k : Int) = (k : Int) := IntWalk.i64_in _ (by omega)
      have hb0 : (0 : Int) ≤ (k : Int) := Int.natCast_nonneg k
      have hb1 : (0 : Int) ≤ (K : Int) := Int.natCast_nonneg K
      have hno := Hno.out k (by omega)
      have hal := fun h => show ∀ j : Nat, (k : Int) ≤ (j : Int) → j + 1 < n → ivL xs j ≤ ivL xs (j + 1) from fun j h1 h2 => by
        rcases Nat.lt_or_ge k j with h3 | h3
        · exact Hall.out j (by omega) h2
        · have : j = k := by omega
          subst this
          exact (h : ivL xs j ≤ ivL xs (j + 1))
      rw [← hk] at hno hal
      obtain ⟨X1, hX1⟩ : ∃ X1, ivL xs K = X1 := ⟨_, rfl⟩
      obtain ⟨X0, hX0⟩ : ∃ X0, ivL xs k = X0 := ⟨_, rfl⟩
      rw [hX1] at hc1 hno hal
      rw [hX0] at hc0 hno hal
      have Hal := Lib.hid hal
      have Hno2 := Lib.hid hno
      have Hls := Lib.hid (fun q : Nat => Try.cmp_Less_int2 X1 X0 (wr.drewN q))
      clear hcl hk hno hal hX1 hX0
      by_cases hd : X1 < X0
      · have hdt : decide (X1 < X0) = true := decide_eq_true hd
        have HT := Lib.hid (Hno2.out hd)
        rw [hdt] at Hls
        go_wp2_with fail
        go_quiet ((go_at_call 62; exact qcallS (Hls.out _)))
        go_wp2
        go_ret
        exact ⟨by rw [HT.out]; rfl, below_drewN hbel _⟩
      · have hdf : decide (X1 < X0) = false := decide_eq_false hd
        have HL2 := Lib.hid (Hal.out (by omega))
        rw [hdf] at Hls
        go_wp2_with fail
        go_quiet ((go_at_call 62; exact qcallS (Hls.out _)))
        go_wp2
        go_roundw
        case rel => exact ⟨(k : Int), by go_num, by omega, by omega, HL2.out, below_drewN hbel _⟩
        case measure => simp [intOf]; omega
    · have HT := Lib.hid (Hyes.out fun i hi => Hall.out i (by omega) hi)
      go_wp2
      go_ret
      exact ⟨by rw [HT.out]; rfl, hbel⟩

end Go.Proofs.Ytgkciiklgadgkaa

namespace Go.Proofs.Ytgkciiklgadgkaa
open Go.RowKit Go.Shelf
attribute [local go_sem] Oper.semAt_some
set_option linter.unusedVariables false
set_option linter.unusedSimpArgs false

/-! A region that draws its order, walked outside of a round, holds within one. -/
section
variable {F : Fence} {n : Nat} {P : Program} {ops : Array Oper} {Q : Exit → Act → World → Prop} {md : Region.Mode}
theorem wpOp_inRound {o : Oper} (l : Nat) (hnd : ∀ c, o.op ≠ .defer c) {a : Act} {w : World} {K : Act → World → Prop} (h : o.wpIn F n P a w K Q) : o.wpIn (F.inRound l) n P a w K Q := by
  unfold Oper.wpIn at *
  refine ⟨h.1, ?_⟩
  have h2 := h.2
  rw [Oper.semAt_eq _ _ _ hnd] at h2 ⊢
  exact h2
theorem wpAny_inRound (l : Nat) (hnd : ∀ (j : Nat) (o : Oper) c, ops[j]? = some o → o.op ≠ .defer c) : ∀ (fuel : Nat) (listed : Array Bool) (a : Act) (w : World), wpAnyIn F n P md ops Q fuel listed a w → wpAnyIn (F.inRound l) n P md ops Q fuel listed a w
  | 0, listed, a, w, h => h
  | fuel + 1, listed, a, w, h => by
    refine ⟨h.1, fun i hi => ?_⟩
    have h2 := wpOpIn_mono (fun a w h => wpAny_inRound l hnd fuel (listed.setIfInBounds i true) a w h) (h.2 i hi)
    unfold wpOpIn at *
    cases ho : ops[i]? with
    | none => simp only [ho] at h2 ⊢; exact h2
    | some o =>
      simp only [ho] at h2 ⊢
      by_cases hw : Region.wanted o (yielded ops a.tmps) = true
      · simp only [hw, if_true] at h2 ⊢
        exact wpOp_inRound l (hnd i o · ho) h2
      · simp only [hw] at h2 ⊢
        exact h2
end

def noDefer (ops : Array Oper) : Bool := ops.toList.all fun o => match o.op with | .defer _ => false | _ => true
theorem noDefer_spec {ops : Array Oper} (h : noDefer ops = true) (j : Nat) (o : Oper) (c : Call) (hj : ops[j]? = some o) : o.op ≠ .defer c := by
  intro e
  have h1 := (List.all_eq_true.1 h) o (by rw [List.mem_iff_getElem?]; exact ⟨j, by rw [Array.getElem?_toList]; exact hj⟩)
  rw [e] at h1
  cases h1
/-- The indices backwards, so many of them. -/
def bkI (m : Nat) : Nat → List { k : Nat // k < m }
  | 0 => []
  | j + 1 => if h : m - 1 - j < m then bkI m j ++ [⟨m - 1 - j, h⟩] else bkI m j
theorem bkI_succ {m j : Nat} (h : j < m) : bkI m (j + 1) = bkI m j ++ [⟨m - 1 - j, by omega⟩] := by rw [bkI, dif_pos (by omega)]
theorem bkI_length {m : Nat} : ∀ {j}, j ≤ m → (bkI m j).length = j
  | 0, _ => rfl
  | j + 1, h => by rw [bkI_succ (by omega), List.length_append, bkI_length (by omega)]; rfl
/-- What a round keeps: what lay below n₀, and the box of the slice. -/
def KBR (n₀ Bs : Nat) (W W' : World) : Prop := Below n₀ W W' ∧ ∀ v, W.cell? ⟨Bs, 0, none⟩ = some v → W'.cell? ⟨Bs, 0, none⟩ = some v
theorem KBR.trans {n₀ Bs : Nat} {A B C : World} (h : KBR n₀ Bs A B) (k : KBR n₀ Bs B C) : KBR n₀ Bs A C := ⟨h.1.trans k.1, fun v hv => k.2 v (h.2 v hv)⟩
set_option maxRecDepth 100000 in
set_option maxHeartbeats 2000000 in
/-- slices.Backward's closure, for every loop body that keeps what lay below n₀. -/
theorem obk1_inR (F : Fence) (n : Nat) (h8 : F.fn 64) (hro : F.round = none) (hn : 1 ≤ n) (l Bs n₀ m cap : Nat) (A : Option Addr) (xs : List Int) (hm : m = xs.length) (hm12 : m ≤ 1000)
    (hA : 0 < xs.length → ∃ b off, A = some ⟨b, off, none⟩ ∧ b < n₀) (J Jx : List { k : Nat // k < m } → World → Prop)
    (hY : ∀ pre x W, J pre W → pre.length < m → YieldAt F (n - 1) Try.prog l #[.int .i64 (x.1 : Int), .int .i64 (ivL xs x.1)] W fun e W' =>
      (e = .returned (.bool true) ∧ J (pre ++ [x]) W' ∧ KBR n₀ Bs W W') ∨ (e = .returned (.bool false) ∧ Jx (pre ++ [x]) W'))
    (W : World) (hBs : W.cell? ⟨Bs, 0, none⟩ = some (.slice A m cap)) (hc : ∀ b off, A = some ⟨b, off, none⟩ → ∀ j, j < m → W.cell? ⟨b, off + j, none⟩ = some (.int .i64 (ivL xs j))) (h0 : J [] W) :
    CallsIn F n Try.prog 64 #[.func (.yield l) #[] #[], .pointer (some ⟨Bs, 0, none⟩)] W fun e W' => (∃ v, e = .returned v) ∧
      ((∃ ys, ys = bkI m m ∧ J ys W') ∨ (∃ pre, (∃ k, k ≤ m ∧ pre = bkI m k) ∧ Jx pre W')) := by
  have Hm := Lib.hid hm
  clear hm
  refine callsIn_of_wp Try.func64 rfl h8 ?_ hro
  simp only [Try.ntmps64, List.size_toArray, List.length_cons, List.length_nil, Nat.reduceAdd, Nat.reduceSub, Array.replicate_succ, Array.replicate_zero, List.push_toArray, List.append_toArray, List.nil_append, List.cons_append]
  gi_wp2
  gi_loopw [3] (fun i wr => ∃ k : Nat, k ≤ m ∧ i = .int .i64 ((k : Int) - 1) ∧ J (bkI m (m - k)) wr ∧ KBR n₀ Bs W wr)
    (fun i _ => (intOf i + 1).toNat)
  case atStart => exact ⟨m, Nat.le_refl _, rfl, by rw [Nat.sub_self]; exact h0, Below.refl _ _, fun _ h => h⟩
  case round =>
    obtain ⟨k, hk, rfl, hJs, hnx⟩ := hrel
    cases k with
    | zero =>
      rw [Nat.sub_zero] at hJs
      gi_wp2
      go_end0
      exact ⟨⟨_, rfl⟩, .inl ⟨_, rfl, hJs⟩⟩
    | succ k =>
      have hlt1 : k < xs.length := by have := Hm.out; omega
      obtain ⟨b, off, rfl, hb⟩ := hA (by omega)
      have hcx : wr.cell? ⟨b, off + k, none⟩ = some (.int .i64 (ivL xs k)) := (hnx.1.cell (p := ⟨b, off + k, none⟩) hb).trans (hc b off rfl k (by omega))
      have hsx : wr.cell? ⟨Bs, 0, none⟩ = some (.slice (some ⟨b, off, none⟩) m cap) := hnx.2 _ hBs
      obtain ⟨fn, tmps, assign, body, hy, hR⟩ := hY _ ⟨k, by omega⟩ wr hJs (by rw [bkI_length (by omega)]; omega)
      dsimp only at hy
      have e1 : (((k + 1 : Nat) : Int) - 1) = (k : Int) := by omega
      have hkm : (k : Int) < (m : Int) := by omega
      have Hb := Lib.hid (show bkI m (m - (k + 1)) ++ [⟨k, by omega⟩] = bkI m (m - k) by
        have h1 : m - k = m - (k + 1) + 1 := by omega
        rw [h1, bkI_succ (by omega)]
        congr 3
        omega)
      gi_wp2
      refine hR.mono ?_
      rintro e W3 (⟨rfl, hJ3, hk3⟩ | ⟨rfl, hJx3⟩)
      · gi_wp2
        go_roundw
        case rel => exact ⟨k, by omega, by simp, by rw [← Hb.out]; exact hJ3, hnx.trans hk3⟩
        case measure => simp [intOf]
      · gi_wp2
        refine bodyPost_ret (results_none rfl _ _ _) rfl ?_
        exact ⟨⟨_, rfl⟩, .inr ⟨_, ⟨m - k, by omega, Hb.out⟩, hJx3⟩⟩

set_option maxHeartbeats 1000000 in
/-- slices.Backward(s): the slice value is boxed; the function value captures the box. -/
theorem obackward_inR (F : Fence) (n : Nat) (h6 : F.fn 46) (hro : F.round = none) (A : Option Addr) (len cap : Nat) (w : World) :
    CallsIn F n Try.prog 46 #[.slice A len cap] w fun e w' => e = .returned (.func (.func 64) #[] #[.pointer (some ⟨w.heap.size, 0, none⟩)]) ∧ w' = w.alloc (.cells #[.slice A len cap] 24) := by
  refine callsIn_of_wp Try.func46 rfl h6 ?_ hro
  simp only [Try.ntmps46, List.size_toArray, List.length_cons, List.length_nil, Nat.reduceAdd, Nat.reduceSub, Array.replicate_succ, Array.replicate_zero, List.push_toArray, List.append_toArray, List.nil_append, List.cons_append]
  gi_wp2
  go_ret
  exact ⟨rfl, rfl⟩

theorem oback_stopsR (F : Fence) (n : Nat) (h8 : F.fn 64) (hro : F.round = none) (hn : 1 ≤ n) (n₀ Bs m cap : Nat) (A : Option Addr) (xs : List Int) (w : World) (hm : m = xs.length) (hm12 : m ≤ 1000)
    (hn₀ : n₀ ≤ w.heap.size) (hBs : Bs < w.heap.size) (hc : w.cell? ⟨Bs, 0, none⟩ = some (.slice A m cap)) (hI : 0 < xs.length → ∃ b off, A = some ⟨b, off, none⟩ ∧ b < n₀ ∧ ∀ j, j < xs.length → w.cell? ⟨b, off + j, none⟩ = some (.int .i64 (ivL xs j))) :
    SeqStopsK F n Try.prog 64 #[.pointer (some ⟨Bs, 0, none⟩)] (fun x : { k : Nat // k < m } => #[Value.int .i64 (x.1 : Int), Value.int .i64 (ivL xs x.1)]) (KBR n₀ Bs) (fun ys => ys = bkI m m)
      (fun pre => ∃ k, k ≤ m ∧ pre = bkI m k) m w := fun l J Jx W hW _ _ hY h0 => by
  have hc' := (hW.cell (p := ⟨Bs, 0, none⟩) hBs).trans hc
  have hA : 0 < xs.length → ∃ b off, A = some ⟨b, off, none⟩ ∧ b < n₀ := fun h => by
    obtain ⟨b, off, e, hb, _⟩ := hI h
    exact ⟨b, off, e, hb⟩
  refine obk1_inR F n h8 hro hn l Bs n₀ m cap A xs hm hm12 hA J Jx hY W hc' ?_ h0
  intro b off e j hj
  obtain ⟨b', off', e', hb', hr'⟩ := hI (by omega)
  rw [e] at e'
  injection e' with e'
  injection e' with e1 e2 _
  subst e1 e2
  exact (hW.cell (p := ⟨b, off + j, none⟩) (Nat.lt_of_lt_of_le hb' hn₀)).trans (hr' j (by omega))


/-- What lies there when the indices pre have come: the rank that is left, the rules, and their slice in its box. -/
def ChI (G : Nat) (w0 : World) (xs : List Int) (r m : Nat) (pre : List { k : Nat // k < m }) (W : World) : Prop :=
  ∃ (z : Nat) (cs : Array Value), z ≤ 1000000 ∧ W.heap[G]? = some (.cells #[.int .i64 (z : Int)] 3 (0, 0)) ∧ W.heap[G + 1]? = some (.cells cs 38 (0, 0)) ∧ cs.size = m * 2 ∧
    W.heap[G + 2]? = some (.cells #[.slice (some ⟨G + 1, 0, none⟩) m m] 28 (0, 0)) ∧ Below G w0 W ∧
    (pre = bkI m pre.length → pre.length ≤ m → z = r / prodN (xs.drop (m - pre.length)) ∧ ∀ k, m - pre.length ≤ k → k < m → cs[k * 2]? = some (.int .i64 (evL (chR xs r) k)) ∧ cs[k * 2 + 1]? = some (.int .i64 (reL (chR xs r) k)))
theorem ChI.kept {G : Nat} {w0 : World} {xs : List Int} {r m : Nat} {pre : List { k : Nat // k < m }} {A B : World} {row : Option Nat} (h : ChI G w0 xs r m pre A) (hG : G ≤ w0.heap.size) (hg : A.grownBy B row) (hr : ∀ q, row = some q → G + 3 ≤ q) : ChI G w0 xs r m pre B := by
  obtain ⟨z, cs, h1, h2, h3, h4, h5, h6, h7⟩ := h
  have l2 := (Array.getElem?_eq_some_iff.1 h5).1
  have key : ∀ k, k < G + 3 → B.heap[k]? = A.heap[k]? := fun k hk => hg.block k (by omega) (fun e => by have := hr k e.symm; omega)
  exact ⟨z, cs, h1, (key G (by omega)).trans h2, (key (G + 1) (by omega)).trans h3, h4, (key (G + 2) (by omega)).trans h5, h6.grown hg (Nat.le_trans hG h6.size) (fun k e => by have := hr k e; omega), h7⟩
theorem ChI.own {G : Nat} {w0 : World} {xs : List Int} {r m : Nat} {W : World} (h : ChI G w0 xs r m (bkI m m) W) (hm : m = xs.length) (hm5 : m ≤ 1000) : OwnR W (G + 1) (.slice (some ⟨G + 1, 0, none⟩) m m) (chR xs r) := by
  obtain ⟨z, cs, _, _, h1, h2, _, _, h7⟩ := h
  rw [bkI_length (Nat.le_refl _)] at h7
  have h3 := (h7 rfl (Nat.le_refl _)).2
  have hl := chR_len xs r
  have he : cs.toList = cellsR (chR xs r) := cellsR_of (by rw [Array.length_toList, h2, hl, hm]) fun k hk => by
    have := h3 k (by omega) (by omega)
    simpa [Array.getElem?_toList] using this
  refine ⟨by rw [cellsR_length], .inr ⟨G + 1, m, cs, by rw [hl, hm], Nat.le_refl _, h1, by rw [hl]; omega, by unfold maxLen; omega, h2, ?_⟩⟩
  rw [he, List.take_of_length_le (by rw [cellsR_length]; omega)]
/-- A round: the rule of the index k is filled, and the rank is divided. -/
theorem ChI.step {G : Nat} {w0 : World} {xs : List Int} {r m : Nat} {pre : List { k : Nat // k < m }} {W' : World} (hm : m = xs.length) (x : { k : Nat // k < m }) (p z : Nat) (cs : Array Value) (hp : ivL xs x.1 = (p : Int)) (hp2 : 2 ≤ p)
    (h1 : z ≤ 1000000) (h4 : cs.size = m * 2) (h7 : pre = bkI m pre.length → pre.length ≤ m → z = r / prodN (xs.drop (m - pre.length)) ∧ ∀ k, m - pre.length ≤ k → k < m → cs[k * 2]? = some (.int .i64 (evL (chR xs r) k)) ∧ cs[k * 2 + 1]? = some (.int .i64 (reL (chR xs r) k)))
    (a2 : W'.heap[G]? = some (.cells #[.int .i64 ((z / p : Nat) : Int)] 3 (0, 0)))
    (a3 : W'.heap[G + 1]? = some (.cells ((cs.setIfInBounds (x.1 * 2) (.int .i64 (p : Int))).setIfInBounds (x.1 * 2 + 1) (.int .i64 ((z % p : Nat) : Int))) 38 (0, 0)))
    (a5 : W'.heap[G + 2]? = some (.cells #[.slice (some ⟨G + 1, 0, none⟩) m m] 28 (0, 0))) (a6 : Below G w0 W') : ChI G w0 xs r m (pre ++ [x]) W' := by
  refine ⟨z / p, _, Nat.le_trans (Nat.div_le_self _ _) h1, a2, a3, by simp [h4], a5, a6, fun e hle => ?_⟩
  rw [List.length_append, List.length_singleton] at e hle ⊢
  have hlt : pre.length < m := by omega
  rw [bkI_succ hlt] at e
  obtain ⟨e1, e2⟩ := List.append_inj' e rfl
  have hx : x.1 = m - 1 - pre.length := by
    have := List.cons.inj e2
    rw [this.1]
  obtain ⟨hz, hcs⟩ := h7 e1 (by omega)
  have hk : m - (pre.length + 1) = x.1 := by omega
  have hk2 : m - pre.length = x.1 + 1 := by omega
  rw [hk2] at hz hcs
  rw [hk]
  have hxl : x.1 < xs.length := by omega
  have hd := prodN_drop hxl
  rw [hp, Int.toNat_natCast] at hd
  refine ⟨by rw [hz, hd, Nat.div_div_eq_div_mul, Nat.mul_comm], fun k hk1 hkm => ?_⟩
  have h2 := x.2
  rcases Nat.lt_or_eq_of_le hk1 with h | h
  · rw [Array.getElem?_setIfInBounds_ne (by omega), Array.getElem?_setIfInBounds_ne (by omega), Array.getElem?_setIfInBounds_ne (by omega), Array.getElem?_setIfInBounds_ne (by omega)]
    exact hcs k (by omega) hkm
  · subst h
    obtain ⟨g1, g2⟩ := chR_ev r hxl
    rw [hp, Int.toNat_natCast, ← hz] at g2
    rw [hp] at g1
    rw [g1, g2, Array.getElem?_setIfInBounds_ne (by omega), Array.getElem?_setIfInBounds_self_of_lt (by omega), Array.getElem?_setIfInBounds_self_of_lt (by simp; omega)]
    exact ⟨rfl, rfl⟩
set_option maxRecDepth 100000 in
set_option maxHeartbeats 4000000 in
theorem choiceOfRank_in (w : World) (A : Option Addr) (m c : Nat) (xs : List Int) (hA : Il w A xs) (hm : m = xs.length) (hg : gpP xs = true) (r : Nat) (hr : r ≤ 1000000) :
    CallsIn Fence.wide 3 Try.prog 27 #[.slice A m c, .int .i64 (r : Int)] w fun en w' => (∃ v, en = .returned v ∧ OwnR w' w.heap.size v (chR xs r)) ∧ Below w.heap.size w w' := by
  have Hm := Lib.hid hm
  have hm5 : m ≤ 5 := by have := (gpP_parts hg).1; omega
  have Hx2 := Lib.hid (fun i (hi : i < xs.length) => dpB_at (gpP_parts hg).2.1 hi)
  have hmk := fun W => mk_full Try.underlying28 info_R m (by omega) (by omega) W
  clear hm hg
  refine callsIn_of_wp_marks Try.func27 rfl trivial ?_ rfl
  simp only [Try.ntmps27, List.size_toArray, List.length_cons, List.length_nil, Nat.reduceAdd, Nat.reduceSub, Array.replicate_succ, Array.replicate_zero, List.push_toArray, List.append_toArray, List.nil_append, List.cons_append]
  gi_wp2_with (first | (refine ⟨trivial, ?_⟩; gi_at_call 46; refine (obackward_inR Fence.wide _ trivial rfl _ _ _ _).mono ?_; rintro e w' ⟨rfl, rfl⟩))
  clear hmk
  obtain ⟨G, hG⟩ : ∃ G, w.heap.size = G := ⟨_, rfl⟩
  obtain ⟨w3, hw3⟩ : ∃ w3, ((w.alloc (.cells #[.int .i64 (r : Int)] 3)).alloc (.cells (madeCells #[.int .i64 0, .int .i64 0] (m * 2)) 38)).alloc (.cells #[.slice (some ⟨w.heap.size + 1, 0, none⟩) m m] 28) = w3 := ⟨_, rfl⟩
  have hs3 : w3.heap.size = G + 3 := by rw [← hw3, ← hG]; simp
  have hb3 : Below G w w3 := by rw [← hw3, ← hG]; exact (((Below.refl _ _).alloc (Nat.le_refl _) _).alloc (by simp) _).alloc (by simp; omega) _
  have p0 : w3.heap[G]? = some (.cells #[.int .i64 (r : Int)] 3 (0, 0)) := by
    rw [← hw3, ← hG, Below.heap_alloc _ _ _ (by simp; omega), Below.heap_alloc _ _ _ (by simp)]
    exact heap_alloc_new w _
  have p1 : w3.heap[G + 1]? = some (.cells (madeCells #[.int .i64 0, .int .i64 0] (m * 2)) 38 (0, 0)) := by
    have := heap_alloc_new (w.alloc (.cells #[.int .i64 (r : Int)] 3)) (.cells (madeCells #[.int .i64 0, .int .i64 0] (m * 2)) 38)
    rw [World.size_alloc, hG] at this
    rw [← hw3, Below.heap_alloc _ _ _ (by simp; omega)]
    exact this
  have p2 : w3.heap[G + 2]? = some (.cells #[.slice (some ⟨G + 1, 0, none⟩) m m] 28 (0, 0)) := by
    have := heap_alloc_new ((w.alloc (.cells #[.int .i64 (r : Int)] 3)).alloc (.cells (madeCells #[.int .i64 0, .int .i64 0] (m * 2)) 38)) (.cells #[.slice (some ⟨w.heap.size + 1, 0, none⟩) m m] 28)
    rw [World.size_alloc, World.size_alloc, hw3, hG] at this
    exact this
  rw [hw3]
  have Hw3 := Lib.hid hw3
  have HG := Lib.hid hG
  have bN := Boxed.new w3 24 (.slice A m c)
  rw [hs3] at bN
  rw [hG]
  have hIs : 0 < xs.length → ∃ b off, A = some ⟨b, off, none⟩ ∧ b < G ∧ ∀ j, j < xs.length → (w3.alloc (.cells #[.slice A m c] 24)).cell? ⟨b, off + j, none⟩ = some (.int .i64 (ivL xs j)) := fun h => by
    obtain ⟨b, off, e, hb, hrr⟩ := hA h
    rw [hG] at hb
    exact ⟨b, off, e, hb, fun j hj => ((hb3.alloc (by omega) _).cell (p := ⟨b, off + j, none⟩) hb).trans (hrr j hj)⟩
  have hchi : ChI G w xs r m [] (w3.alloc (.cells #[.slice A m c] 24)) := by
    refine ⟨r, madeCells #[.int .i64 0, .int .i64 0] (m * 2), hr, (Below.heap_alloc w3 _ _ (by omega)).trans p0, (Below.heap_alloc w3 _ _ (by omega)).trans p1, by rw [size_madeCells], (Below.heap_alloc w3 _ _ (by omega)).trans p2, hb3.alloc (by omega) _, fun _ _ => ⟨?_, fun k h1 h2 => by simp at h1; omega⟩⟩
    have hd : xs.drop (m - ([] : List { k : Nat // k < m }).length) = [] := List.drop_of_length_le (by have := Hm.out; simp; omega)
    rw [hd]
    simp [prodN]
  clear hw3 p0 p1 p2
  refine wpIn_rangeFunc_ownG rfl (by omega) (gf := 64) (lb := #[.pointer (some ⟨G + 3, 0, none⟩)]) (by simp [go_sem, hs3]) trivial (_root_.Go.Proofs.enters_of Try.func64 (by kernel_rfl) rfl)
    (oback_stopsR Fence.wide _ trivial rfl (by omega) G (G + 3) m c A xs _ Hm.out (by omega) (by simp; omega) (by simp; omega) bN.cell hIs)
    KBR.trans (fun W l o o' hl ho hc hw => ⟨belowK_b (by simp; omega) W l o o' hl ho hc hw, fun v hv => cell_kept hv (grownBy_putObj' _ l o') (fun q e => by cases e; exact ⟨_, ho, hc⟩)⟩) (Below.refl _ _) (fun _ => rfl)
    (fun pre W => ChI G w xs r m pre W ∧ Boxed W (G + 3) 24 (.slice A m c))
    (fun _ _ _ => False)
    (fun s X Y row hs hgr hrow => ⟨ChI.kept hs.1 (by omega) hgr (fun q e => by have := (hrow q e).1; simp at this; omega), hs.2.kept hgr (fun e => by have := (hrow _ e.symm).1; simp at this; omega)⟩)
    (fun _ _ _ _ _ hs _ _ => hs)
    ⟨hchi, bN⟩
    (fun x => { tmps := #[.slice A m c, .int .i64 (r : Int), undef, .pointer (some ⟨G, 0, none⟩), .slice none 0 0, .pointer (some ⟨G + 1 + 1, 0, none⟩), .int .i64 (x.1 : Int), .int .i64 (ivL xs x.1), .slice A m c, .int .i64 (m : Int), .slice (some ⟨G + 1, 0, none⟩) m m, .slice A m c, .func (.func 64) #[] #[.pointer (some ⟨G + 1 + 1 + 1, 0, none⟩)], .int .i64 (x.1 : Int), .int .i64 (ivL xs x.1), undef, undef, undef, undef, undef, undef, undef, undef, undef, undef, undef, undef], defers := [] }) ?assign ?body ?done ?stop
  case assign =>
    intro l x W K hK
    gi_wp2
    exact hK
  case body =>
    rintro l pre x W ⟨⟨z, cs, h1, h2, h3, h4, h5, h6, h7⟩, hbx⟩ hlen
    have hxl : x.1 < xs.length := by have := x.2; have := Hm.out; omega
    obtain ⟨q1, q2⟩ := Hx2.out x.1 hxl
    obtain ⟨p, hp⟩ := Int.eq_ofNat_of_zero_le (show 0 ≤ ivL xs x.1 by omega)
    have hp2 : 2 ≤ p := by omega
    have hp9 : p ≤ 13 := by omega
    obtain ⟨k, hk⟩ := x
    dsimp only at hp ⊢
    have H7 := Lib.hid h7
    have H3 := Lib.hid h3
    have Hp := Lib.hid hp
    rw [hp]
    have hki : (k : Int) < (m : Int) := by omega
    have hk0 : (0 : Int) ≤ (k : Int) := Int.natCast_nonneg k
    have c0 : W.cell? ⟨G + 1 + 1, 0, none⟩ = some (.slice (some ⟨G + 1, 0, none⟩) m m) := cell_of_row _ _ 0 _ _ _ h5
    have c1 : W.cell? ⟨G, 0, none⟩ = some (.int .i64 (z : Int)) := cell_of_row _ _ 0 _ _ _ h2
    have f1 : W.frozen? ⟨G, 0, none⟩ = false := frozen_of_row _ _ _ _ _ h2
    have c2 : W.cell? ⟨G + 1, k * 2, none⟩ = some (cs[k * 2]'(by omega)) := (cell_of_row _ _ (k * 2) _ _ _ h3).trans (Array.getElem?_eq_getElem (by omega))
    have c3 : W.cell? ⟨G + 1, k * 2 + 1, none⟩ = some (cs[k * 2 + 1]'(by omega)) := (cell_of_row _ _ (k * 2 + 1) _ _ _ h3).trans (Array.getElem?_eq_getElem (by omega))
    have f2 : W.frozen? ⟨G + 1, k * 2, none⟩ = false := frozen_of_row _ _ _ _ _ h3
    have f3 : W.frozen? ⟨G + 1, k * 2 + 1, none⟩ = false := frozen_of_row _ _ _ _ _ h3
    generalize cs[k * 2]'(by omega) = u2 at c2
    generalize cs[k * 2 + 1]'(by omega) = u3 at c3
    have hpz : ¬ p = 0 := by omega
    have hpi : ¬ (p : Int) = 0 := by omega
    have ht : Int.tmod (z : Int) (p : Int) = ((z % p : Nat) : Int) := rfl
    have hd : Int.tdiv (z : Int) (p : Int) = ((z / p : Nat) : Int) := rfl
    obtain ⟨zm, hzm⟩ : ∃ zm, z % p = zm := ⟨_, rfl⟩
    obtain ⟨zd, hzd⟩ : ∃ zd, z / p = zd := ⟨_, rfl⟩
    have hzm9 : zm ≤ 13 := by have := Nat.mod_lt z (show 0 < p by omega); omega
    have hzd9 : zd ≤ 1000000 := by have := Nat.div_le_self z p; omega
    rw [hzm] at ht
    rw [hzd] at hd
    have hw1 : IntKind.i64.wrap (zm : Int) = (zm : Int) := IntWalk.i64_in _ (by omega)
    have hw2 : IntKind.i64.wrap (zd : Int) = (zd : Int) := IntWalk.i64_in _ (by omega)
    have Hzm := Lib.hid hzm
    have Hzd := Lib.hid hzd
    have n1 : G + 1 ≠ G := by omega
    have n2 : G ≠ G + 1 := by omega
    have n3 : G + 1 + 1 ≠ G := by omega
    have n4 : G + 1 + 1 ≠ G + 1 := by omega
    have H2 := Lib.hid h2
    have H5 := Lib.hid h5
    have H6 := Lib.hid h6
    have H4 := Lib.hid h4
    have Hbx := Lib.hid hbx
    clear h7 h3 hp hzm hzd h2 h5 h6 h4 hbx q1 q2
    gi_wp2
    refine wpIn_region_any (by kernel_rfl) ?_
    refine wpAny_inRound l (noDefer_spec (by kernel_rfl)) _ _ _ _ ?_
    try (change wpAnyIn _ _ _ _ _ _ _ _ _ (World.drew _))
    refine wpAnyIn_take (i := 1) (v := .int .i64 (k : Int)) rfl rfl (by kernel_rfl) (by kernel_rfl) (by kernel_rfl) (fun _ _ _ h => h) ⟨Or.inl ⟨by rfl, fun w => by go_simp⟩, fun _ => rfl⟩ ?_
    refine wpAnyIn_take (i := 2) (v := .int .i64 (p : Int)) rfl rfl (by kernel_rfl) (by kernel_rfl) (by kernel_rfl) (fun _ _ _ h => h) ⟨Or.inl ⟨by rfl, fun w => by go_simp⟩, fun _ => rfl⟩ ?_
    refine wpAnyIn_take (i := 4) (v := .int .i64 (p : Int)) rfl rfl (by kernel_rfl) (by kernel_rfl) (by kernel_rfl) (fun _ _ _ h => h) ⟨Or.inl ⟨by rfl, fun w => by go_simp⟩, fun _ => rfl⟩ ?_
    refine wpAnyIn_ready (rs := [0, 3]) (by kernel_rfl) (by simp) ?_
    refine AllReadyIn.cons rfl (fun K hK => ?_) ?_
    · go_simp
      refine hK _ _ ?_
      clear hK K
      refine wpAnyIn_ready (rs := [3]) (by kernel_rfl) (by simp) ?_
      refine AllReadyIn.cons rfl (fun K hK => ?_) ?_
      · go_simp
        refine hK _ _ ?_
        clear hK K
        refine wpAnyIn_ready (rs := [5]) (by kernel_rfl) (by simp) ?_
        refine AllReadyIn.cons rfl (fun K hK => ?_) ?_
        · go_simp
          refine hK _ _ ?_
          clear hK K
          refine wpAnyIn_ready (rs := [6]) (by kernel_rfl) (by simp) ?_
          refine AllReadyIn.cons rfl (fun K hK => ?_) ?_
          · go_simp
            refine hK _ _ ?_
            clear hK K
            refine wpAnyIn_ready (rs := [7]) (by kernel_rfl) (by simp) ?_
            refine AllReadyIn.cons rfl (fun K hK => ?_) ?_
            · go_simp
              refine hK _ _ ?_
              clear hK K
              refine wpAnyIn_ready (rs := [8]) (by kernel_rfl) (by simp) ?_
              refine AllReadyIn.cons rfl (fun K hK => ?_) ?_
              · go_simp
                refine hK _ _ ?_
                clear hK K
                refine wpAnyIn_done (by kernel_rfl) ?_ _
                gi_wp2
                have hbl : ∀ j, j ≠ G → j ≠ G + 1 → (((W.drew.setCell ⟨G + 1, k * 2, none⟩ (.int .i64 (p : Int))).setCell ⟨G + 1, k * 2 + 1, none⟩ (.int .i64 (zm : Int))).setCell ⟨G, 0, none⟩ (.int .i64 (zd : Int))).heap[j]? = W.heap[j]? := fun j j1 j2 =>
                  (heap_setCell_other _ ⟨G, 0, none⟩ j _ j1).trans ((heap_setCell_other _ ⟨G + 1, k * 2 + 1, none⟩ j _ j2).trans (heap_setCell_other W.drew ⟨G + 1, k * 2, none⟩ j _ j2))
                have a2 : (((W.drew.setCell ⟨G + 1, k * 2, none⟩ (.int .i64 (p : Int))).setCell ⟨G + 1, k * 2 + 1, none⟩ (.int .i64 (zm : Int))).setCell ⟨G, 0, none⟩ (.int .i64 (zd : Int))).heap[G]? = some (.cells #[.int .i64 (zd : Int)] 3 (0, 0)) :=
                  heap_setCell_same _ G 0 _ _ _ ((heap_setCell_other _ ⟨G + 1, k * 2 + 1, none⟩ G _ n2).trans ((heap_setCell_other W.drew ⟨G + 1, k * 2, none⟩ G _ n2).trans H2.out))
                have a3 : (((W.drew.setCell ⟨G + 1, k * 2, none⟩ (.int .i64 (p : Int))).setCell ⟨G + 1, k * 2 + 1, none⟩ (.int .i64 (zm : Int))).setCell ⟨G, 0, none⟩ (.int .i64 (zd : Int))).heap[G + 1]? = some (.cells ((cs.setIfInBounds (k * 2) (.int .i64 (p : Int))).setIfInBounds (k * 2 + 1) (.int .i64 (zm : Int))) 38 (0, 0)) :=
                  (heap_setCell_other _ ⟨G, 0, none⟩ (G + 1) _ n1).trans (heap_setCell_same _ (G + 1) (k * 2 + 1) _ _ _ (heap_setCell_same W.drew (G + 1) (k * 2) _ _ _ H3.out))
                have b9 : Below G W (((W.drew.setCell ⟨G + 1, k * 2, none⟩ (.int .i64 (p : Int))).setCell ⟨G + 1, k * 2 + 1, none⟩ (.int .i64 (zm : Int))).setCell ⟨G, 0, none⟩ (.int .i64 (zd : Int))) :=
                  (((Below.refl G W).drew.setCell (p := ⟨G + 1, k * 2, none⟩) (by show G ≤ G + 1; omega) _).setCell (p := ⟨G + 1, k * 2 + 1, none⟩) (by show G ≤ G + 1; omega) _).setCell (p := ⟨G, 0, none⟩) (Nat.le_refl _) _
                have hbx2 := (hbl (G + 3) (by omega) (by omega)).trans Hbx.out
                refine ⟨((((KeepsOthers.drew W).trans (KeepsOthers.setCell _ _ _)).trans (KeepsOthers.setCell _ _ _)).trans (KeepsOthers.setCell _ _ _)).from _, ⟨b9, fun v hv => (World.cell?_of_block (a := ⟨G + 3, 0, none⟩) (hbl (G + 3) (by omega) (by omega))).trans hv⟩, ChI.step Hm.out ⟨k, hk⟩ p z cs Hp.out hp2 h1 H4.out H7.out (by rw [Hzd.out]; exact a2) (by rw [Hzm.out]; exact a3) ((hbl (G + 2) (by omega) (by omega)).trans H5.out) (H6.out.trans b9), hbx2⟩
              exact AllReadyIn.nil
            exact AllReadyIn.nil
          exact AllReadyIn.nil
        exact AllReadyIn.nil
      exact AllReadyIn.nil
    refine AllReadyIn.cons rfl (fun K hK => ?_) ?_
    · go_simp
      refine hK _ _ ?_
      clear hK K
      refine wpAnyIn_ready (rs := [0, 5]) (by kernel_rfl) (by simp) ?_
      refine AllReadyIn.cons rfl (fun K hK => ?_) ?_
      · go_simp
        refine hK _ _ ?_
        clear hK K
        refine wpAnyIn_ready (rs := [5]) (by kernel_rfl) (by simp) ?_
        refine AllReadyIn.cons rfl (fun K hK => ?_) ?_
        · go_simp
          refine hK _ _ ?_
          clear hK K
          refine wpAnyIn_ready (rs := [6]) (by kernel_rfl) (by simp) ?_
          refine AllReadyIn.cons rfl (fun K hK => ?_) ?_
          · go_simp
            refine hK _ _ ?_
            clear hK K
            refine wpAnyIn_ready (rs := [7]) (by kernel_rfl) (by simp) ?_
            refine AllReadyIn.cons rfl (fun K hK => ?_) ?_
            · go_simp
              refine hK _ _ ?_
              clear hK K
              refine wpAnyIn_ready (rs := [8]) (by kernel_rfl) (by simp) ?_
              refine AllReadyIn.cons rfl (fun K hK => ?_) ?_
              · go_simp
                refine hK _ _ ?_
                clear hK K
                refine wpAnyIn_done (by kernel_rfl) ?_ _
                gi_wp2
                have hbl : ∀ j, j ≠ G → j ≠ G + 1 → (((W.drew.setCell ⟨G + 1, k * 2, none⟩ (.int .i64 (p : Int))).setCell ⟨G + 1, k * 2 + 1, none⟩ (.int .i64 (zm : Int))).setCell ⟨G, 0, none⟩ (.int .i64 (zd : Int))).heap[j]? = W.heap[j]? := fun j j1 j2 =>
                  (heap_setCell_other _ ⟨G, 0, none⟩ j _ j1).trans ((heap_setCell_other _ ⟨G + 1, k * 2 + 1, none⟩ j _ j2).trans (heap_setCell_other W.drew ⟨G + 1, k * 2, none⟩ j _ j2))
                have a2 : (((W.drew.setCell ⟨G + 1, k * 2, none⟩ (.int .i64 (p : Int))).setCell ⟨G + 1, k * 2 + 1, none⟩ (.int .i64 (zm : Int))).setCell ⟨G, 0, none⟩ (.int .i64 (zd : Int))).heap[G]? = some (.cells #[.int .i64 (zd : Int)] 3 (0, 0)) :=
                  heap_setCell_same _ G 0 _ _ _ ((heap_setCell_other _ ⟨G + 1, k * 2 + 1, none⟩ G _ n2).trans ((heap_setCell_other W.drew ⟨G + 1, k * 2, none⟩ G _ n2).trans H2.out))
                have a3 : (((W.drew.setCell ⟨G + 1, k * 2, none⟩ (.int .i64 (p : Int))).setCell ⟨G + 1, k * 2 + 1, none⟩ (.int .i64 (zm : Int))).setCell ⟨G, 0, none⟩ (.int .i64 (zd : Int))).heap[G + 1]? = some (.cells ((cs.setIfInBounds (k * 2) (.int .i64 (p : Int))).setIfInBounds (k * 2 + 1) (.int .i64 (zm : Int))) 38 (0, 0)) :=
                  (heap_setCell_other _ ⟨G, 0, none⟩ (G + 1) _ n1).trans (heap_setCell_same _ (G + 1) (k * 2 + 1) _ _ _ (heap_setCell_same W.drew (G + 1) (k * 2) _ _ _ H3.out))
                have b9 : Below G W (((W.drew.setCell ⟨G + 1, k * 2, none⟩ (.int .i64 (p : Int))).setCell ⟨G + 1, k * 2 + 1, none⟩ (.int .i64 (zm : Int))).setCell ⟨G, 0, none⟩ (.int .i64 (zd : Int))) :=
                  (((Below.refl G W).drew.setCell (p := ⟨G + 1, k * 2, none⟩) (by show G ≤ G + 1; omega) _).setCell (p := ⟨G + 1, k * 2 + 1, none⟩) (by show G ≤ G + 1; omega) _).setCell (p := ⟨G, 0, none⟩) (Nat.le_refl _) _
                have hbx2 := (hbl (G + 3) (by omega) (by omega)).trans Hbx.out
                refine ⟨((((KeepsOthers.drew W).trans (KeepsOthers.setCell _ _ _)).trans (KeepsOthers.setCell _ _ _)).trans (KeepsOthers.setCell _ _ _)).from _, ⟨b9, fun v hv => (World.cell?_of_block (a := ⟨G + 3, 0, none⟩) (hbl (G + 3) (by omega) (by omega))).trans hv⟩, ChI.step Hm.out ⟨k, hk⟩ p z cs Hp.out hp2 h1 H4.out H7.out (by rw [Hzd.out]; exact a2) (by rw [Hzm.out]; exact a3) ((hbl (G + 2) (by omega) (by omega)).trans H5.out) (H6.out.trans b9), hbx2⟩
              exact AllReadyIn.nil
            exact AllReadyIn.nil
          exact AllReadyIn.nil
        exact AllReadyIn.nil
      refine AllReadyIn.cons rfl (fun K hK => ?_) ?_
      · go_simp
        refine hK _ _ ?_
        clear hK K
        refine wpAnyIn_ready (rs := [0, 6]) (by kernel_rfl) (by simp) ?_
        refine AllReadyIn.cons rfl (fun K hK => ?_) ?_
        · go_simp
          refine hK _ _ ?_
          clear hK K
          refine wpAnyIn_ready (rs := [6]) (by kernel_rfl) (by simp) ?_
          refine AllReadyIn.cons rfl (fun K hK => ?_) ?_
          · go_simp
            refine hK _ _ ?_
            clear hK K
            refine wpAnyIn_ready (rs := [7]) (by kernel_rfl) (by simp) ?_
            refine AllReadyIn.cons rfl (fun K hK => ?_) ?_
            · go_simp
              refine hK _ _ ?_
              clear hK K
              refine wpAnyIn_ready (rs := [8]) (by kernel_rfl) (by simp) ?_
              refine AllReadyIn.cons rfl (fun K hK => ?_) ?_
              · go_simp
                refine hK _ _ ?_
                clear hK K
                refine wpAnyIn_done (by kernel_rfl) ?_ _
                gi_wp2
                have hbl : ∀ j, j ≠ G → j ≠ G + 1 → (((W.drew.setCell ⟨G + 1, k * 2, none⟩ (.int .i64 (p : Int))).setCell ⟨G + 1, k * 2 + 1, none⟩ (.int .i64 (zm : Int))).setCell ⟨G, 0, none⟩ (.int .i64 (zd : Int))).heap[j]? = W.heap[j]? := fun j j1 j2 =>
                  (heap_setCell_other _ ⟨G, 0, none⟩ j _ j1).trans ((heap_setCell_other _ ⟨G + 1, k * 2 + 1, none⟩ j _ j2).trans (heap_setCell_other W.drew ⟨G + 1, k * 2, none⟩ j _ j2))
                have a2 : (((W.drew.setCell ⟨G + 1, k * 2, none⟩ (.int .i64 (p : Int))).setCell ⟨G + 1, k * 2 + 1, none⟩ (.int .i64 (zm : Int))).setCell ⟨G, 0, none⟩ (.int .i64 (zd : Int))).heap[G]? = some (.cells #[.int .i64 (zd : Int)] 3 (0, 0)) :=
                  heap_setCell_same _ G 0 _ _ _ ((heap_setCell_other _ ⟨G + 1, k * 2 + 1, none⟩ G _ n2).trans ((heap_setCell_other W.drew ⟨G + 1, k * 2, none⟩ G _ n2).trans H2.out))
                have a3 : (((W.drew.setCell ⟨G + 1, k * 2, none⟩ (.int .i64 (p : Int))).setCell ⟨G + 1, k * 2 + 1, none⟩ (.int .i64 (zm : Int))).setCell ⟨G, 0, none⟩ (.int .i64 (zd : Int))).heap[G + 1]? = some (.cells ((cs.setIfInBounds (k * 2) (.int .i64 (p : Int))).setIfInBounds (k * 2 + 1) (.int .i64 (zm : Int))) 38 (0, 0)) :=
                  (heap_setCell_other _ ⟨G, 0, none⟩ (G + 1) _ n1).trans (heap_setCell_same _ (G + 1) (k * 2 + 1) _ _ _ (heap_setCell_same W.drew (G + 1) (k * 2) _ _ _ H3.out))
                have b9 : Below G W (((W.drew.setCell ⟨G + 1, k * 2, none⟩ (.int .i64 (p : Int))).setCell ⟨G + 1, k * 2 + 1, none⟩ (.int .i64 (zm : Int))).setCell ⟨G, 0, none⟩ (.int .i64 (zd : Int))) :=
                  (((Below.refl G W).drew.setCell (p := ⟨G + 1, k * 2, none⟩) (by show G ≤ G + 1; omega) _).setCell (p := ⟨G + 1, k * 2 + 1, none⟩) (by show G ≤ G + 1; omega) _).setCell (p := ⟨G, 0, none⟩) (Nat.le_refl _) _
                have hbx2 := (hbl (G + 3) (by omega) (by omega)).trans Hbx.out
                refine ⟨((((KeepsOthers.drew W).trans (KeepsOthers.setCell _ _ _)).trans (KeepsOthers.setCell _ _ _)).trans (KeepsOthers.setCell _ _ _)).from _, ⟨b9, fun v hv => (World.cell?_of_block (a := ⟨G + 3, 0, none⟩) (hbl (G + 3) (by omega) (by omega))).trans hv⟩, ChI.step Hm.out ⟨k, hk⟩ p z cs Hp.out hp2 h1 H4.out H7.out (by rw [Hzd.out]; exact a2) (by rw [Hzm.out]; exact a3) ((hbl (G + 2) (by omega) (by omega)).trans H5.out) (H6.out.trans b9), hbx2⟩
              exact AllReadyIn.nil
            exact AllReadyIn.nil
          exact AllReadyIn.nil
        refine AllReadyIn.cons rfl (fun K hK => ?_) ?_
        · go_simp
          refine hK _ _ ?_
          clear hK K
          refine wpAnyIn_ready (rs := [0]) (by kernel_rfl) (by simp) ?_
          refine AllReadyIn.cons rfl (fun K hK => ?_) ?_
          · go_simp
            refine hK _ _ ?_
            clear hK K
            refine wpAnyIn_ready (rs := [7]) (by kernel_rfl) (by simp) ?_
            refine AllReadyIn.cons rfl (fun K hK => ?_) ?_
            · go_simp
              refine hK _ _ ?_
              clear hK K
              refine wpAnyIn_ready (rs := [8]) (by kernel_rfl) (by simp) ?_
              refine AllReadyIn.cons rfl (fun K hK => ?_) ?_
              · go_simp
                refine hK _ _ ?_
                clear hK K
                refine wpAnyIn_done (by kernel_rfl) ?_ _
                gi_wp2
                have hbl : ∀ j, j ≠ G → j ≠ G + 1 → (((W.drew.setCell ⟨G + 1, k * 2, none⟩ (.int .i64 (p : Int))).setCell ⟨G + 1, k * 2 + 1, none⟩ (.int .i64 (zm : Int))).setCell ⟨G, 0, none⟩ (.int .i64 (zd : Int))).heap[j]? = W.heap[j]? := fun j j1 j2 =>
                  (heap_setCell_other _ ⟨G, 0, none⟩ j _ j1).trans ((heap_setCell_other _ ⟨G + 1, k * 2 + 1, none⟩ j _ j2).trans (heap_setCell_other W.drew ⟨G + 1, k * 2, none⟩ j _ j2))
                have a2 : (((W.drew.setCell ⟨G + 1, k * 2, none⟩ (.int .i64 (p : Int))).setCell ⟨G + 1, k * 2 + 1, none⟩ (.int .i64 (zm : Int))).setCell ⟨G, 0, none⟩ (.int .i64 (zd : Int))).heap[G]? = some (.cells #[.int .i64 (zd : Int)] 3 (0, 0)) :=
                  heap_setCell_same _ G 0 _ _ _ ((heap_setCell_other _ ⟨G + 1, k * 2 + 1, none⟩ G _ n2).trans ((heap_setCell_other W.drew ⟨G + 1, k * 2, none⟩ G _ n2).trans H2.out))
                have a3 : (((W.drew.setCell ⟨G + 1, k * 2, none⟩ (.int .i64 (p : Int))).setCell ⟨G + 1, k * 2 + 1, none⟩ (.int .i64 (zm : Int))).setCell ⟨G, 0, none⟩ (.int .i64 (zd : Int))).heap[G + 1]? = some (.cells ((cs.setIfInBounds (k * 2) (.int .i64 (p : Int))).setIfInBounds (k * 2 + 1) (.int .i64 (zm : Int))) 38 (0, 0)) :=
                  (heap_setCell_other _ ⟨G, 0, none⟩ (G + 1) _ n1).trans (heap_setCell_same _ (G + 1) (k * 2 + 1) _ _ _ (heap_setCell_same W.drew (G + 1) (k * 2) _ _ _ H3.out))
                have b9 : Below G W (((W.drew.setCell ⟨G + 1, k * 2, none⟩ (.int .i64 (p : Int))).setCell ⟨G + 1, k * 2 + 1, none⟩ (.int .i64 (zm : Int))).setCell ⟨G, 0, none⟩ (.int .i64 (zd : Int))) :=
                  (((Below.refl G W).drew.setCell (p := ⟨G + 1, k * 2, none⟩) (by show G ≤ G + 1; omega) _).setCell (p := ⟨G + 1, k * 2 + 1, none⟩) (by show G ≤ G + 1; omega) _).setCell (p := ⟨G, 0, none⟩) (Nat.le_refl _) _
                have hbx2 := (hbl (G + 3) (by omega) (by omega)).trans Hbx.out
                refine ⟨((((KeepsOthers.drew W).trans (KeepsOthers.setCell _ _ _)).trans (KeepsOthers.setCell _ _ _)).trans (KeepsOthers.setCell _ _ _)).from _, ⟨b9, fun v hv => (World.cell?_of_block (a := ⟨G + 3, 0, none⟩) (hbl (G + 3) (by omega) (by omega))).trans hv⟩, ChI.step Hm.out ⟨k, hk⟩ p z cs Hp.out hp2 h1 H4.out H7.out (by rw [Hzd.out]; exact a2) (by rw [Hzm.out]; exact a3) ((hbl (G + 2) (by omega) (by omega)).trans H5.out) (H6.out.trans b9), hbx2⟩
              exact AllReadyIn.nil
            exact AllReadyIn.nil
          exact AllReadyIn.nil
        exact AllReadyIn.nil
      exact AllReadyIn.nil
    exact AllReadyIn.nil
  case done =>
    rintro D ys W hD rfl ⟨hch, hbx⟩ hK
    have h5 : W.heap[G + 2]? = some (.cells #[.slice (some ⟨G + 1, 0, none⟩) m m] 28 (0, 0)) := by obtain ⟨_, _, _, _, _, _, h, _⟩ := hch; exact h
    have c0 : W.cell? ⟨G + 1 + 1, 0, none⟩ = some (.slice (some ⟨G + 1, 0, none⟩) m m) := cell_of_row _ _ 0 _ _ _ h5
    have hown := hch.own Hm.out (by omega)
    have hbe : Below G w W := by obtain ⟨_, _, _, _, _, _, _, h, _⟩ := hch; exact h
    gi_wp2
    refine ⟨by simp, .inl ⟨_, _, rfl, run_takeDeferred hK, ?_⟩⟩
    have hfin := ownsRow_putObj hown (.deferred none) hK rfl
    have hDG : G ≤ D := by
      rw [World.size_alloc] at hD
      omega
    exact ⟨_, results_tmp rfl _ _ _, ⟨_, rfl, by rw [HG.out]; exact OwnR.mono hfin (by omega)⟩, by rw [HG.out]; exact hbe.trans (belowK_b (w := w) (n₀ := G) (by rw [HG.out]; exact Nat.le_refl _) W D _ (.deferred none) (by rw [HG.out]; exact hDG) hK rfl rfl)⟩
  case stop =>
    rintro D c pre W _ _ h _
    exact h.elim
theorem choiceOfRank_c (w : World) (A : Option Addr) (m c : Nat) (xs : List Int) (hA : Il w A xs) (hm : m = xs.length) (hg : gpP xs = true) (r : Nat) (hr : r ≤ 1000000) :
    Calls Try.prog 27 #[.slice A m c, .int .i64 (r : Int)] w fun en w' => (∃ v, en = .returned v ∧ OwnR w' w.heap.size v (chR xs r)) ∧ Below w.heap.size w w' :=
  callsIn_wide.1 (choiceOfRank_in w A m c xs hA hm hg r hr)

end Go.Proofs.Ytgkciiklgadgkaa

namespace Go.Proofs.Ytgkciiklgadgkaa
open Go.RowKit
set_option linter.unusedVariables false
set_option linter.unusedSimpArgs false

set_option maxRecDepth 100000 in
set_option maxHeartbeats 800000 in
theorem isPrimeList_c (w : World) (A : Option Addr) (m c : Nat) (xs : List Int) (hA : Il w A xs) (hm : m = xs.length) (hn : m ≤ 1048576) (hmc : m ≤ c) :
    Calls Try.prog 24 #[.slice A m c] w fun en w' => en = .returned (.bool (gpP xs)) ∧ Below w.heap.size w w' := by
  have Hm := Lib.hid hm
  have HA := Lib.hid hA
  by_cases h5 : m ≤ 5
  · have h5i : (m : Int) ≤ 5 := by omega
    have hD := arePrimesTold_c w A m c xs hA hm hn hmc
    cases hd : dpB xs with
    | false =>
      rw [hd] at hD
      have HD := Lib.hid hD
      rw [gpP_bad hd]
      clear hm hA hd hD h5
      go_enter Try.func24, Try.ntmps24
      go_wp2_with fail
      refine HD.out.mono ?_
      rintro e w2 ⟨rfl, b2⟩
      go_wp2
      go_ret
      exact ⟨rfl, b2⟩
    | true =>
      rw [hd] at hD
      have HD := Lib.hid hD
      have hgp : gpP xs = srtB xs := by rw [gpP, hd, decide_eq_true (by omega), ris_srt hd]; rfl
      rw [hgp]
      have HS := Lib.hid (fun W (hb : Below w.heap.size w W) => isSorted_c W A m c xs (hA.below hb) hm hn)
      clear hm hA hd hD h5 hgp
      go_enter Try.func24, Try.ntmps24
      go_wp2_with fail
      refine HD.out.mono ?_
      rintro e w2 ⟨rfl, b2⟩
      go_wp2_with fail
      refine (HS.out _ b2).mono ?_
      rintro e w3 ⟨rfl, b3⟩
      go_wp2
      go_ret
      exact ⟨rfl, b2.trans (b3.mono b2.size)⟩
  · have h5i : 5 < (m : Int) := by omega
    rw [gpP_long (by omega)]
    clear hm hA h5
    go_enter Try.func24, Try.ntmps24
    go_wp2
    go_ret
    exact ⟨rfl, Below.refl _ _⟩
set_option maxRecDepth 100000 in
set_option maxHeartbeats 800000 in
theorem impl_RulesWithout_c (w : World) (A : Option Addr) (m c : Nat) (xs : List Int) (hA : Il w A xs) (hm : m = xs.length) (hn : m ≤ 1048576) (hmc : m ≤ c) :
    Calls Try.prog 9 #[.slice A m c] w fun en w' => (∃ v, en = .returned (.tuple #[v, .bool (gpP xs)]) ∧ OwnR w' w.heap.size v (rwV xs)) ∧ Below w.heap.size w w' := by
  have Hm := Lib.hid hm
  clear hm
  cases hg : gpP xs with
  | false =>
    rw [rwV_no hg]
    go_enter Try.func9, Try.ntmps9
    go_wp2_with fail
    refine (isPrimeList_c _ _ _ _ xs hA Hm.out hn hmc).mono ?_
    rintro e w1 ⟨rfl, b1⟩
    have hA_1 := hA.below b1
    go_wp2
    go_ret2
    exact ⟨⟨_, rfl, OwnR.nil _ _⟩, b1⟩
  | true =>
    rw [rwV_yes hg, ← chR_zero]
    have Hgg := Lib.hid hg
    have Hg := Lib.hid hg
    go_enter Try.func9, Try.ntmps9
    go_wp2_with fail
    refine (isPrimeList_c _ _ _ _ xs hA Hm.out hn hmc).mono ?_
    rintro e w1 ⟨rfl, b1⟩
    have hA_1 := hA.below b1
    have HC := Lib.hid (choiceOfRank_c _ A m c xs hA_1 Hm.out Hgg.out 0 (by omega))
    go_wp2_with fail
    refine HC.out.mono ?_
    rintro e w5 ⟨⟨v5, rfl, o5⟩, b5⟩
    obtain ⟨A5, n5, c5, hv5, -, -⟩ := o5.form
    subst hv5
    have O5 := Lib.hid o5
    clear o5
    go_wp2
    go_ret2
    exact ⟨⟨_, rfl, OwnR.mono O5.out (b1).size⟩, (b1).trans (b5.mono (b1).size)⟩
set_option maxRecDepth 100000 in
set_option maxHeartbeats 1600000 in
theorem impl_MostCovered_c (w : World) (A : Option Addr) (m c : Nat) (xs : List Int) (hA : Il w A xs) (hm : m = xs.length) (hn : m ≤ 1048576) (hmc : m ≤ c) :
    Calls Try.prog 7 #[.slice A m c] w fun en w' => en = .returned (.tuple #[.int .i64 (mcV xs), .bool (gpP xs)]) ∧ Below w.heap.size w w' := by
  have Hm := Lib.hid hm
  clear hm
  cases hg : gpP xs with
  | false =>
    rw [mcV_no hg]
    go_enter Try.func7, Try.ntmps7
    go_wp2_with fail
    refine (isPrimeList_c _ _ _ _ xs hA Hm.out hn hmc).mono ?_
    rintro e w1 ⟨rfl, b1⟩
    have hA_1 := hA.below b1
    go_wp2
    go_ret2
    exact ⟨rfl, b1⟩
  | true =>
    rw [mcV_yes hg, mostCovered_is hg]
    have Hgg := Lib.hid hg
    have hP9 := (gpP_prod hg).2
    have HL := Lib.hid (fun k => lcM_le xs k)
    have HV := Lib.hid (fun rs => lcV_le rs)
    have HS : Hid (∀ k, lcM xs (k + 1) = max (lcM xs k) (lcV (chR xs k))) := fun k => rfl
    have HCh := Lib.hid (fun W (hb : Il W A xs) r hr => choiceOfRank_c W A m c xs hb Hm.out Hgg.out r hr)
    have HGd := Lib.hid (fun r => chR_good Hgg.out r)
    obtain ⟨P, hP⟩ : ∃ P, prodN xs = P := ⟨_, rfl⟩
    rw [hP] at hP9 ⊢
    have HP := Lib.hid hP
    clear hP
    have Hg := Lib.hid hg
    go_enter Try.func7, Try.ntmps7
    go_wp2_with fail
    refine (isPrimeList_c _ _ _ _ xs hA Hm.out hn hmc).mono ?_
    rintro e w1 ⟨rfl, b1⟩
    have hA_1 := hA.below b1
    have HCc := Lib.hid (countChoices_c _ A m c xs hA_1 Hm.out Hgg.out)
    go_wp2_with fail
    refine HCc.out.mono ?_
    rw [HP.out]
    rintro e w5 ⟨rfl, rfl⟩
    have HA1 := Lib.hid hA_1
    go_wp2
    go_loopw [4, 5, 11] (fun t _ i wr => ∃ k : Nat, k ≤ P ∧ i = .int .i64 (k : Int) ∧ t = .int .i64 (lcM xs k : Int) ∧ Below w.heap.size w wr) (fun _ _ i _ => P - (intOf i).toNat)
    case atStart => exact ⟨0, Nat.zero_le _, rfl, rfl, b1⟩
    case round =>
      obtain ⟨k, hk, rfl, rfl, hbel⟩ := hrel
      have hs := hbel.size
      by_cases hlt : k < P
      · have hki : (k : Int) < (P : Int) := by omega
        have HC := Lib.hid (HCh.out wr (hA.below hbel) k (by omega))
        have hlm := HL.out k
        have hs1 := HS.out k
        have hgd := HGd.out k
        obtain ⟨R, hR⟩ : ∃ R, chR xs k = R := ⟨_, rfl⟩
        rw [hR] at HC hs1 hgd
        have hlv := HV.out R
        have Hgd := Lib.hid hgd
        have Hs1 := Lib.hid hs1
        obtain ⟨V, hV⟩ : ∃ V, lcV R = V := ⟨_, rfl⟩
        rw [hV] at hlv Hs1
        have HVe := Lib.hid hV
        obtain ⟨M, hM⟩ : ∃ M, lcM xs k = M := ⟨_, rfl⟩
        rw [hM] at hlm Hs1 ⊢
        clear hR hs1 hgd hV hM
        go_wp2_with fail
        refine HC.out.mono ?_
        rintro e w6 ⟨⟨v6, rfl, o6⟩, b6⟩
        obtain ⟨A6, n6, c6, rfl, e6, _⟩ := o6.form
        have HLc := Lib.hid (lengthCovered_c w6 A6 n6 c6 R (Rl_of_own o6 e6) e6 Hgd.out)
        clear o6 e6
        have hb6 := hbel.trans (b6.mono hs)
        go_wp2_with fail
        refine HLc.out.mono ?_
        rw [HVe.out]
        rintro e w7 ⟨rfl, b7⟩
        have hb7 := hb6.trans (b7.mono hb6.size)
        go_wp2
        go_roundw
        case rel => exact ⟨k + 1, by omega, by go_num, by rw [Hs1.out]; go_num, hb7⟩
        case measure => simp [intOf]; omega
      · have Hk := Lib.hid (show k = P by omega)
        go_wp2
        go_ret2
        exact ⟨by rw [← Hk.out]; rfl, hbel⟩

set_option maxRecDepth 100000 in
set_option maxHeartbeats 1600000 in
theorem impl_CountCovers_c (w : World) (A : Option Addr) (m c : Nat) (xs : List Int) (hA : Il w A xs) (hm : m = xs.length) (hn : m ≤ 1048576) (hmc : m ≤ c) (n : Int) :
    Calls Try.prog 13 #[.slice A m c, .int .i64 n] w fun en w' => en = .returned (.tuple #[.int .i64 (ccvV xs n), .bool (gqO xs n)]) ∧ Below w.heap.size w w' := by
  have Hm := Lib.hid hm
  clear hm
  cases hg : gpP xs with
  | false =>
    have ho : gqO xs n = false := by simp [gqO, *]
    rw [ccvV_no ho, ho]
    clear ho
    go_enter Try.func13, Try.ntmps13
    go_wp2_with fail
    refine (isPrimeList_c _ _ _ _ xs hA Hm.out hn hmc).mono ?_
    rintro e w1 ⟨rfl, b1⟩
    have hA_1 := hA.below b1
    go_wp2
    go_ret2
    exact ⟨rfl, b1⟩
  | true =>
    cases hh : inB n 0 40 with
    | false =>
      have ho : gqO xs n = false := by simp [gqO, *]
      rw [ccvV_no ho, ho]
      clear ho
      go_enter Try.func13, Try.ntmps13
      go_wp2_with fail
      refine (isPrimeList_c _ _ _ _ xs hA Hm.out hn hmc).mono ?_
      rintro e w1 ⟨rfl, b1⟩
      have hA_1 := hA.below b1
      go_wp2_with fail
      refine (isLength_c _ _).mono ?_
      rintro e w2 ⟨rfl, rfl⟩
      go_wp2
      go_ret2
      exact ⟨rfl, b1⟩
    | true =>
      have ho : gqO xs n = true := by simp [gqO, *]
      obtain ⟨n1, n2⟩ := inB_true.1 hh
      obtain ⟨N, rfl⟩ := Int.eq_ofNat_of_zero_le n1
      rw [ccvV_yes ho, ho, cvA_count hg (by omega)]
      clear ho
      have Hgg := Lib.hid hg
      have hP9 := (gpP_prod hg).2
      have HCh := Lib.hid (fun W (hb : Il W A xs) r hr => choiceOfRank_c W A m c xs hb Hm.out Hgg.out r hr)
      have HGd := Lib.hid (fun r => chR_good Hgg.out r)
      have HV := Lib.hid (fun rs => lcV_le rs)
      have HL := Lib.hid (fun k => ckF_le xs N k)
      have HY := Lib.hid (fun k => @ckF_yes xs N k)
      have HN := Lib.hid (fun k => @ckF_no xs N k)
      obtain ⟨P, hP⟩ : ∃ P, prodN xs = P := ⟨_, rfl⟩
      rw [hP] at hP9 ⊢
      have HP := Lib.hid hP
      clear hP
      have Hg := Lib.hid hg
      have Hh := Lib.hid hh
      go_enter Try.func13, Try.ntmps13
      go_wp2_with fail
      refine (isPrimeList_c _ _ _ _ xs hA Hm.out hn hmc).mono ?_
      rintro e w1 ⟨rfl, b1⟩
      have hA_1 := hA.below b1
      go_wp2_with fail
      refine (isLength_c _ _).mono ?_
      rintro e w2 ⟨rfl, rfl⟩
      have HCc := Lib.hid (countChoices_c _ A m c xs hA_1 Hm.out Hgg.out)
      go_wp2_with fail
      refine HCc.out.mono ?_
      rw [HP.out]
      rintro e w5 ⟨rfl, rfl⟩
      go_wp2
      go_loopw [6, 7, 18] (fun t _ i wr => ∃ k : Nat, k ≤ P ∧ i = .int .i64 (k : Int) ∧ t = .int .i64 (ckF xs N k : Int) ∧ Below w.heap.size w wr) (fun _ _ i _ => P - (intOf i).toNat)
      case atStart => exact ⟨0, Nat.zero_le _, rfl, rfl, b1⟩
      case round =>
        obtain ⟨k, hk, rfl, rfl, hbel⟩ := hrel
        have hs := hbel.size
        by_cases hlt : k < P
        · have hki : (k : Int) < (P : Int) := by omega
          have HC := Lib.hid (HCh.out wr (hA.below hbel) k (by omega))
          have hlm := HL.out k
          have hy := HY.out k
          have hno := HN.out k
          have hgd := HGd.out k
          obtain ⟨R, hR⟩ : ∃ R, chR xs k = R := ⟨_, rfl⟩
          rw [hR] at HC hy hno hgd
          have hlv := HV.out R
          have Hgd := Lib.hid hgd
          obtain ⟨V, hV⟩ : ∃ V, lcV R = V := ⟨_, rfl⟩
          rw [hV] at hlv hy hno
          have HVe := Lib.hid hV
          obtain ⟨M, hM⟩ : ∃ M, ckF xs N k = M := ⟨_, rfl⟩
          rw [hM] at hlm hy hno ⊢
          have Hy := Lib.hid hy
          have Hno := Lib.hid hno
          clear hR hgd hV hM hy hno
          by_cases hnv : N ≤ V
          · have hnvi : (N : Int) ≤ (V : Int) := by omega
            have HT := Lib.hid (Hy.out hnv)
            go_wp2_with fail
            refine HC.out.mono ?_
            rintro e w6 ⟨⟨v6, rfl, o6⟩, b6⟩
            obtain ⟨A6, n6, c6, rfl, e6, -⟩ := o6.form
            have HLc := Lib.hid (lengthCovered_c w6 A6 n6 c6 R (Rl_of_own o6 e6) e6 Hgd.out)
            clear o6 e6
            have hb6 := hbel.trans (b6.mono hs)
            go_wp2_with fail
            refine HLc.out.mono ?_
            rw [HVe.out]
            rintro e w7 ⟨rfl, b7⟩
            have hb7 := hb6.trans (b7.mono hb6.size)
            go_wp2
            go_roundw
            case rel => exact ⟨k + 1, by omega, by go_num, by rw [HT.out]; go_num, hb7⟩
            case measure => simp [intOf]; omega
          · have hnvi : (V : Int) < (N : Int) := by omega
            have HT := Lib.hid (Hno.out (by omega))
            go_wp2_with fail
            refine HC.out.mono ?_
            rintro e w6 ⟨⟨v6, rfl, o6⟩, b6⟩
            obtain ⟨A6, n6, c6, rfl, e6, -⟩ := o6.form
            have HLc := Lib.hid (lengthCovered_c w6 A6 n6 c6 R (Rl_of_own o6 e6) e6 Hgd.out)
            clear o6 e6
            have hb6 := hbel.trans (b6.mono hs)
            go_wp2_with fail
            refine HLc.out.mono ?_
            rw [HVe.out]
            rintro e w7 ⟨rfl, b7⟩
            have hb7 := hb6.trans (b7.mono hb6.size)
            go_wp2
            go_roundw
            case rel => exact ⟨k + 1, by omega, by go_num, by rw [HT.out], hb7⟩
            case measure => simp [intOf]; omega
        · have Hk := Lib.hid (show k = P by omega)
          go_wp2
          go_ret2
          exact ⟨by rw [← Hk.out]; rfl, hbel⟩
set_option maxRecDepth 100000 in
set_option maxHeartbeats 1600000 in
theorem impl_FirstCover_c (w : World) (A : Option Addr) (m c : Nat) (xs : List Int) (hA : Il w A xs) (hm : m = xs.length) (hn : m ≤ 1048576) (hmc : m ≤ c) (n : Int) :
    Calls Try.prog 12 #[.slice A m c, .int .i64 n] w fun en w' => (∃ v, en = .returned (.tuple #[v, .bool (fcO xs n)]) ∧ OwnR w' w.heap.size v (fcV xs n)) ∧ Below w.heap.size w w' := by
  have Hm := Lib.hid hm
  clear hm
  cases hg : gpP xs with
  | false =>
    have ho : fcO xs n = false := by simp [fcO, gqO, *]
    rw [fcV_no ho, ho]
    clear ho
    go_enter Try.func12, Try.ntmps12
    go_wp2_with fail
    refine (isPrimeList_c _ _ _ _ xs hA Hm.out hn hmc).mono ?_
    rintro e w1 ⟨rfl, b1⟩
    have hA_1 := hA.below b1
    go_wp2
    go_ret2
    exact ⟨⟨_, rfl, OwnR.nil _ _⟩, b1⟩
  | true =>
    cases hh : inB n 0 40 with
    | false =>
      have ho : fcO xs n = false := by simp [fcO, gqO, *]
      rw [fcV_no ho, ho]
      clear ho
      go_enter Try.func12, Try.ntmps12
      go_wp2_with fail
      refine (isPrimeList_c _ _ _ _ xs hA Hm.out hn hmc).mono ?_
      rintro e w1 ⟨rfl, b1⟩
      have hA_1 := hA.below b1
      go_wp2_with fail
      refine (isLength_c _ _).mono ?_
      rintro e w2 ⟨rfl, rfl⟩
      go_wp2
      go_ret2
      exact ⟨⟨_, rfl, OwnR.nil _ _⟩, b1⟩
    | true =>
      have hq : gqO xs n = true := by simp [gqO, *]
      obtain ⟨n1, n2⟩ := inB_true.1 hh
      obtain ⟨N, rfl⟩ := Int.eq_ofNat_of_zero_le n1
      have HNo : Hid ((∀ r, r < prodN xs → ¬ N ≤ lcV (chR xs r)) → fcO xs (N : Int) = false) := fun h => by rw [fcO, Int.toNat_natCast, cvA_none hg (by omega) h]; simp
      have HYes : Hid (∀ r, r < prodN xs → (∀ i, i < r → ¬ N ≤ lcV (chR xs i)) → N ≤ lcV (chR xs r) → fcO xs (N : Int) = true ∧ fcV xs (N : Int) = chR xs r) := fun r hr h1 h2 => by
        obtain ⟨g1, g2⟩ := cvA_first hg (by omega) hr h1 h2
        have ho : fcO xs (N : Int) = true := by rw [fcO, Int.toNat_natCast, hq, decide_eq_true g1]; rfl
        exact ⟨ho, by rw [fcV_yes ho, g2]⟩
      clear hq
      have Hgg := Lib.hid hg
      have hP9 := (gpP_prod hg).2
      have HCh := Lib.hid (fun W (hb : Il W A xs) r hr => choiceOfRank_c W A m c xs hb Hm.out Hgg.out r hr)
      have HGd := Lib.hid (fun r => chR_good Hgg.out r)
      have HV := Lib.hid (fun rs => lcV_le rs)
      obtain ⟨P, hP⟩ : ∃ P, prodN xs = P := ⟨_, rfl⟩
      rw [hP] at hP9 HNo HYes
      have HP := Lib.hid hP
      clear hP
      have Hg := Lib.hid hg
      have Hh := Lib.hid hh
      go_enter Try.func12, Try.ntmps12
      go_wp2_with fail
      refine (isPrimeList_c _ _ _ _ xs hA Hm.out hn hmc).mono ?_
      rintro e w1 ⟨rfl, b1⟩
      have hA_1 := hA.below b1
      go_wp2_with fail
      refine (isLength_c _ _).mono ?_
      rintro e w2 ⟨rfl, rfl⟩
      have HCc := Lib.hid (countChoices_c _ A m c xs hA_1 Hm.out Hgg.out)
      go_wp2_with fail
      refine HCc.out.mono ?_
      rw [HP.out]
      rintro e w5 ⟨rfl, rfl⟩
      go_wp2
      go_loopw [6, 7, 18] (fun _ _ i wr => ∃ k : Nat, k ≤ P ∧ i = .int .i64 (k : Int) ∧ (∀ j, j < k → ¬ N ≤ lcV (chR xs j)) ∧ Below w.heap.size w wr) (fun _ _ i _ => P - (intOf i).toNat)
      case atStart => exact ⟨0, Nat.zero_le _, rfl, fun j hj => by omega, b1⟩
      case round =>
        obtain ⟨k, hk, rfl, hall, hbel⟩ := hrel
        have Hall := Lib.hid hall
        have hs := hbel.size
        clear hall
        by_cases hlt : k < P
        · have hki : (k : Int) < (P : Int) := by omega
          have HC := Lib.hid (HCh.out wr (hA.below hbel) k (by omega))
          have hgd := HGd.out k
          have hy := HYes.out k hlt Hall.out
          have hall2 := fun (h : ¬ N ≤ lcV (chR xs k)) => show ∀ j, j < k + 1 → ¬ N ≤ lcV (chR xs j) from fun j hj => by
            rcases Nat.lt_succ_iff_lt_or_eq.1 hj with h1 | h1
            · exact Hall.out j h1
            · rw [h1]; exact h
          obtain ⟨R, hR⟩ : ∃ R, chR xs k = R := ⟨_, rfl⟩
          rw [hR] at HC hy hgd hall2
          have hlv := HV.out R
          have Hgd := Lib.hid hgd
          obtain ⟨V, hV⟩ : ∃ V, lcV R = V := ⟨_, rfl⟩
          rw [hV] at hlv hy hall2
          have HVe := Lib.hid hV
          have Hy := Lib.hid hy
          have Hall2 := Lib.hid hall2
          clear hR hgd hV hy hall2
          by_cases hnv : N ≤ V
          · have hnvi : (N : Int) ≤ (V : Int) := by omega
            have HT := Lib.hid (Hy.out hnv)
            go_wp2_with fail
            refine HC.out.mono ?_
            rintro e w6 ⟨⟨v6, rfl, o6⟩, b6⟩
            obtain ⟨A6, n6, c6, rfl, e6, -⟩ := o6.form
            have HLc := Lib.hid (lengthCovered_c w6 A6 n6 c6 R (Rl_of_own o6 e6) e6 Hgd.out)
            have O6 := Lib.hid o6
            clear o6 e6
            have hb6 := hbel.trans (b6.mono hs)
            have hs6 := b6.size
            go_wp2_with fail
            refine HLc.out.mono ?_
            rw [HVe.out]
            rintro e w7 ⟨rfl, b7⟩
            have hb7 := hb6.trans (b7.mono hb6.size)
            go_wp2
            go_ret2
            exact ⟨⟨_, by rw [HT.out.1]; rfl, by rw [HT.out.2]; exact OwnR.mono (OwnR.below O6.out b7) hbel.size⟩, hb7⟩
          · have hnvi : (V : Int) < (N : Int) := by omega
            have HT := Lib.hid (Hall2.out hnv)
            go_wp2_with fail
            refine HC.out.mono ?_
            rintro e w6 ⟨⟨v6, rfl, o6⟩, b6⟩
            obtain ⟨A6, n6, c6, rfl, e6, -⟩ := o6.form
            have HLc := Lib.hid (lengthCovered_c w6 A6 n6 c6 R (Rl_of_own o6 e6) e6 Hgd.out)
            clear o6 e6
            have hb6 := hbel.trans (b6.mono hs)
            go_wp2_with fail
            refine HLc.out.mono ?_
            rw [HVe.out]
            rintro e w7 ⟨rfl, b7⟩
            have hb7 := hb6.trans (b7.mono hb6.size)
            go_wp2
            go_roundw
            case rel => exact ⟨k + 1, by omega, by go_num, HT.out, hb7⟩
            case measure => simp [intOf]; omega
        · have HT := Lib.hid (HNo.out fun r hr => Hall.out r (by omega))
          go_wp2
          go_ret2
          exact ⟨⟨_, by rw [HT.out]; rfl, by rw [fcV_no HT.out]; exact OwnR.nil _ _⟩, hbel⟩

end Go.Proofs.Ytgkciiklgadgkaa
