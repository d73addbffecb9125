import Derived.Test.YtoapidcbmlnjcaaPE
import Derived.Test.YtoapidcbmlnjcaaI2
import Derived.Test.YtoapidcbmlnjcaaQ7
import Derived.Test.YtoapidcbmlnjcaaSh
import Derived.Test.YtoapidcbmlnjcaaA4
namespace Go.Proofs.Ytoapidcbmlnjcaa
open Go.RowKit
set_option linter.unusedVariables false
set_option linter.unusedSimpArgs false

set_option maxRecDepth 100000 in
set_option maxHeartbeats 800000 in
theorem lengthCovered_c (w : World) (A : Option Addr) (m c : Nat) (rs : List (Int × Int)) (hA : Rl w A rs) (hm : m = rs.length) (hg : goodL rs = true) :
    Calls Try.prog 95 #[.slice A m c] w fun en w' => en = .returned (.int .i64 (lcV rs : Int)) ∧ Below w.heap.size w w' := by
  have Hm := Lib.hid hm
  have Hg := Lib.hid hg
  have HV : Hid (lcV rs = lcG rs 40 0) := rfl
  have Hon := Lib.hid (fun f k => @lcG_on rs f k)
  have Hst := Lib.hid (fun f k => @lcG_stop rs f k)
  clear hm hg
  go_enter Try.func95, Try.ntmps95
  go_wp2
  go_loopw [3] (fun i wr => ∃ k f : Nat, f + k = 40 ∧ i = .int .i64 (k : Int) ∧ lcV rs = lcG rs f k ∧ Below w.heap.size w wr) (fun i _ => 40 - (intOf i).toNat)
  case atStart => exact ⟨0, 40, rfl, rfl, HV.out, Below.refl _ _⟩
  case round =>
    obtain ⟨k, f, hfk, rfl, hv, hbel⟩ := hrel
    have Hv := Lib.hid hv
    have hs := hbel.size
    clear hv
    cases f with
    | succ f =>
      have hk : k < 40 := by omega
      have hki : (k : Int) < 40 := by omega
      have hF := isLeft_c A c m rs ((k : Int) + 1) wr (hA.below hbel) Hm.out Hg.out (by omega) (by omega)
      cases hl : leftF rs ((k : Int) + 1) with
      | true =>
        have Hy := Lib.hid (Hst.out f k hl)
        rw [hl] at hF
        have HF := Lib.hid hF
        clear hF hl
        go_wp2_with fail
        refine HF.out.mono ?_
        rintro e w5 ⟨rfl, b5⟩
        go_wp2
        go_ret
        exact ⟨by rw [Hv.out, Hy.out]; rfl, hbel.trans (b5.mono hs)⟩
      | false =>
        have Hy := Lib.hid (Hon.out f k hl)
        rw [hl] at hF
        have HF := Lib.hid hF
        clear hF hl
        go_wp2_with fail
        refine HF.out.mono ?_
        rintro e w5 ⟨rfl, b5⟩
        go_wp2
        go_roundw
        case rel => exact ⟨k + 1, f, by omega, by go_num, by rw [Hv.out, Hy.out], hbel.trans (b5.mono hs)⟩
        case measure => simp [intOf]; omega
    | zero =>
      have hk : k = 40 := by omega
      subst hk
      go_wp2
      go_ret
      exact ⟨by rw [Hv.out]; rfl, hbel⟩
theorem isLength_c (n : Int) (w : World) : Calls Try.prog 97 #[.int .i64 n] w fun en w' => en = .returned (.bool (inB n 0 40)) ∧ w = w' := by
  by_cases h1 : 0 ≤ n
  · by_cases h2 : n ≤ 40
    · rw [inB_true.2 ⟨h1, h2⟩]
      go_enter Try.func97, Try.ntmps97
      go_wp2
      go_ret
      exact ⟨rfl, rfl⟩
    · rw [inB_false.2 (by omega)]
      go_enter Try.func97, Try.ntmps97
      go_wp2
      go_ret
      exact ⟨rfl, rfl⟩
  · rw [inB_false.2 (by omega)]
    go_enter Try.func97, Try.ntmps97
    go_wp2
    go_ret
    exact ⟨rfl, rfl⟩
set_option maxRecDepth 100000 in
set_option maxHeartbeats 800000 in
theorem countChoices_c (w : World) (A : Option Addr) (m c : Nat) (xs : List Int) (hA : Il w A xs) (hm : m = xs.length) (hg : gpP xs = true) :
    Calls Try.prog 94 #[.slice A m c] w fun en w' => en = .returned (.int .i64 (prodN xs : Int)) ∧ w = w' := by
  have Hm := Lib.hid hm
  have HA := Lib.hid hA
  have Ht := Lib.hid (fun k (hk : k < m) => prodN_take (xs := xs) (k := k) (by omega))
  have hb : ∀ k, k ≤ m → prodN (xs.take k) ≤ 371293 := fun k hk => by
    have h1 := prodN_le (xs := xs.take k) fun x hx => by have := gpP_mem hg x (List.mem_of_mem_take hx); omega
    have h2 := (gpP_parts hg).1
    rw [List.length_take] at h1
    have h3 := Nat.pow_le_pow_right (show 0 < 13 by omega) (show min k xs.length ≤ 5 by omega)
    exact Nat.le_trans h1 h3
  have Hb := Lib.hid hb
  have Hx := Lib.hid (fun k (hk : k < m) => dpB_at (gpP_parts hg).2.1 (show k < xs.length by omega))
  have hm5 : m ≤ 5 := by have := (gpP_parts hg).1; omega
  have HE : Hid (xs.take m = xs) := by show _ = _; rw [hm, List.take_length]
  clear hA hm hg hb
  go_enter Try.func94, Try.ntmps94
  go_wp2
  go_loop [3, 5, 8] (fun t _ i => ∃ k : Nat, k ≤ m ∧ i = .int .i64 (k : Int) ∧ t = .int .i64 (prodN (xs.take k) : Int)) (fun _ _ i => m - (intOf i).toNat)
  case atStart => exact ⟨0, Nat.zero_le _, rfl, rfl⟩
  case round =>
    obtain ⟨k, hk, rfl, rfl⟩ := hrel
    by_cases hlt : k < m
    · obtain ⟨g, off, rfl, hg2, hcl⟩ := HA.out (by have := Hm.out; omega)
      have hck := hcl k (by have := Hm.out; omega)
      have hki : (k : Int) < (m : Int) := by omega
      have hx := Hx.out k hlt
      have ht := Ht.out k hlt
      have hb1 := Hb.out (k + 1) (by omega)
      obtain ⟨x, hxe⟩ := Int.eq_ofNat_of_zero_le (show 0 ≤ ivL xs k by omega)
      rw [hxe] at hck ht hx
      rw [Int.toNat_natCast] at ht
      obtain ⟨T, hT⟩ : ∃ T, prodN (xs.take k) = T := ⟨_, rfl⟩
      rw [hT] at ht ⊢
      obtain ⟨M, hM⟩ : ∃ M : Nat, T * x = M := ⟨_, rfl⟩
      have hmul : (T : Int) * (x : Int) = (M : Int) := by rw [← hM, Int.natCast_mul]
      rw [hM] at ht
      rw [ht] at hb1
      have hwm : IntKind.i64.wrap (M : Int) = (M : Int) := IntWalk.i64_in _ (by omega)
      have Hy := Lib.hid ht
      clear hxe ht hT hM hcl
      go_wp2
      go_round
      case rel => exact ⟨k + 1, by omega, by go_num, by rw [Hy.out]⟩
      case measure => simp [intOf]; omega
    · have Hk := Lib.hid (show k = m by omega)
      go_wp2
      go_ret
      exact ⟨by have e := HE.out; rw [← Hk.out] at e; rw [e]; rfl, rfl⟩
set_option maxRecDepth 100000 in
set_option maxHeartbeats 800000 in
theorem impl_IsCover_c (w : World) (A : Option Addr) (m c : Nat) (rs : List (Int × Int)) (hA : Rl w A rs) (hm : m = rs.length) (hn : m ≤ 1048576) (n : Int) :
    Calls Try.prog 62 #[.slice A m c, .int .i64 n] w fun en w' => en = .returned (.tuple #[.bool (icV rs n), .bool (icO rs n)]) ∧ Below w.heap.size w w' := by
  have Hm := Lib.hid hm
  clear hm
  cases hg : goodL rs with
  | false =>
    have ho : icO rs n = false := by simp [icO, *]
    rw [icV_no ho, ho]
    clear ho
    go_enter Try.func62, Try.ntmps62
    go_wp2_with fail
    refine (implAreRules_c _ _ _ rs _ hA Hm.out hn).mono ?_
    rintro e w1 ⟨rfl, b1⟩
    have hA_1 := hA.below b1
    go_wp2
    go_ret2
    exact ⟨rfl, b1⟩
  | true =>
    cases hh : inB n 0 40 with
    | false =>
      have ho : icO rs n = false := by simp [icO, *]
      rw [icV_no ho, ho]
      clear ho
      go_enter Try.func62, Try.ntmps62
      go_wp2_with fail
      refine (implAreRules_c _ _ _ rs _ hA Hm.out hn).mono ?_
      rintro e w1 ⟨rfl, b1⟩
      have hA_1 := hA.below b1
      go_wp2_with fail
      refine (isLength_c _ _).mono ?_
      rintro e w2 ⟨rfl, rfl⟩
      go_wp2
      go_ret2
      exact ⟨rfl, b1⟩
    | true =>
      have ho : icO rs n = true := by simp [icO, *]
      obtain ⟨n1, n2⟩ := inB_true.1 hh
      obtain ⟨N, rfl⟩ := Int.eq_ofNat_of_zero_le n1
      rw [icV_yes ho, ho, cov_lc (by omega)]
      have Hgg := Lib.hid hg
      clear ho
      have Hg := Lib.hid hg
      have Hh := Lib.hid hh
      go_enter Try.func62, Try.ntmps62
      go_wp2_with fail
      refine (implAreRules_c _ _ _ rs _ hA Hm.out hn).mono ?_
      rintro e w1 ⟨rfl, b1⟩
      have hA_1 := hA.below b1
      go_wp2_with fail
      refine (isLength_c _ _).mono ?_
      rintro e w2 ⟨rfl, rfl⟩
      have hl := lcV_le rs
      obtain ⟨L, hL⟩ : ∃ L, lcV rs = L := ⟨_, rfl⟩
      have Hlc := lengthCovered_c _ A m c rs hA_1 Hm.out Hgg.out
      rw [hL] at Hlc hl
      have HLc := Lib.hid Hlc
      have HLe := Lib.hid hL
      clear Hlc hL
      by_cases hd : N ≤ L
      · have hdi : (N : Int) ≤ (L : Int) := by omega
        go_wp2_with fail
        refine HLc.out.mono ?_
        rintro e w5 ⟨rfl, b5⟩
        go_wp2
        go_ret2
        exact ⟨by rw [HLe.out, decide_eq_true hd]; rfl, (b1).trans (b5.mono (b1).size)⟩
      · have hdi : (L : Int) < (N : Int) := by omega
        go_wp2_with fail
        refine HLc.out.mono ?_
        rintro e w5 ⟨rfl, b5⟩
        go_wp2
        go_ret2
        exact ⟨by rw [HLe.out, decide_eq_false hd]; rfl, (b1).trans (b5.mono (b1).size)⟩
open Go.RowKit
set_option linter.unusedVariables false
set_option linter.unusedSimpArgs false

theorem qcallS {P : Program} {f : FuncId} {args : Array Value} {w : World} {n : Nat} {v : Value} (h : Calls P f args (w.drewN n) fun e w' => e = .returned v ∧ w' = w.drewN n) :
    Calls P f args (w.drewN n) fun e w'' => e = .returned v ∧ ∃ m, w'' = w.drewN m := h.mono fun _ _ hh => ⟨hh.1, n, hh.2⟩
/-- Rising, or the same, as far as looked at. -/
def srtB (xs : List Int) : Bool := (List.range (xs.length - 1)).all fun i => decide (ivL xs i ≤ ivL xs (i + 1))
theorem srtB_no {xs : List Int} {i : Nat} (hi : i + 1 < xs.length) (h : ivL xs (i + 1) < ivL xs i) : srtB xs = false := by
  rw [srtB, List.all_eq_false]
  exact ⟨i, List.mem_range.2 (by omega), by simpa using h⟩
theorem srtB_yes {xs : List Int} (h : ∀ i, i + 1 < xs.length → ivL xs i ≤ ivL xs (i + 1)) : srtB xs = true := by
  rw [srtB, List.all_eq_true]
  exact fun i hi => decide_eq_true (h i (by have := List.mem_range.1 hi; omega))
theorem ris_srt {xs : List Int} (h : dpB xs = true) : risB xs = srtB xs := by
  rw [Bool.eq_iff_iff]
  constructor
  · intro h1
    refine srtB_yes fun i hi => ?_
    rw [risB, List.all_eq_true] at h1
    have := of_decide_eq_true (h1 i (List.mem_range.2 (by omega)))
    omega
  · intro h1
    refine risB_yes fun i hi => ?_
    rw [srtB, List.all_eq_true] at h1
    have h2 := of_decide_eq_true (h1 i (List.mem_range.2 (by omega)))
    have h3 := (dpB_iff.1 h).2 (i + 1) hi
    rw [dfB, Bool.and_eq_true, Bool.not_eq_true'] at h3
    have h4 : ivL xs (i + 1) ≠ ivL xs i := fun e => by
      have h5 : hasF (xs.take (i + 1)) (ivL xs (i + 1)) = true := hasF_mem.2 (by
        rw [e, List.mem_iff_getElem]
        exact ⟨i, by rw [List.length_take]; omega, by rw [List.getElem_take]; simp [ivL, show i < xs.length by omega]⟩)
      rw [h5] at h3
      exact absurd h3.2 (by decide)
    omega
set_option maxRecDepth 100000 in
set_option maxHeartbeats 1600000 in
theorem isSorted_c (w : World) (A : Option Addr) (n c : Nat) (xs : List Int) (hA : Il w A xs) (hn : n = xs.length) (hl : n ≤ 1048576) :
    Calls Try.prog 121 #[.slice A n c] w fun en w' => en = .returned (.bool (srtB xs)) ∧ Below w.heap.size w w' := by
  have HA := Lib.hid hA
  have Hn := Lib.hid hn
  obtain ⟨T, hT⟩ : ∃ T, srtB xs = T := ⟨_, rfl⟩
  have Hno : Hid (∀ i, i + 1 < n → ivL xs (i + 1) < ivL xs i → T = false) := fun i hi h => by rw [← hT]; exact srtB_no (by omega) h
  have Hyes : Hid ((∀ i, i + 1 < n → ivL xs i ≤ ivL xs (i + 1)) → T = true) := fun h => by rw [← hT]; exact srtB_yes fun i hi => h i (by omega)
  have hwn : IntKind.i64.wrap ((n : Int) - 1) = (n : Int) - 1 := IntWalk.i64_in _ (by omega)
  rw [hT]
  clear hA hn hT
  go_enter Try.func121, Try.ntmps121
  go_wp2
  go_loopw [3] (fun i wr => ∃ z : Int, i = .int .i64 z ∧ -1 ≤ z ∧ z ≤ (n : Int) - 1 ∧ (∀ j : Nat, z ≤ (j : Int) → j + 1 < n → ivL xs j ≤ ivL xs (j + 1)) ∧ Below w.heap.size w wr) (fun i _ => (intOf i + 1).toNat)
  case atStart => exact ⟨_, rfl, by omega, by omega, fun j h1 h2 => by omega, Below.refl _ _⟩
  case round =>
    obtain ⟨z, rfl, hz1, hz2, hall, hbel⟩ := hrel
    have Hall := Lib.hid hall
    have hs := hbel.size
    clear hall
    by_cases hlt : 0 < z
    · obtain ⟨K, hK⟩ := Int.eq_ofNat_of_zero_le (show 0 ≤ z by omega)
      obtain ⟨k, hk⟩ : ∃ k, K = k + 1 := ⟨K - 1, by omega⟩
      subst hK
      have hKn : K < n := by omega
      obtain ⟨g, off, rfl, hg2, hcl⟩ := HA.out (by have := Hn.out; omega)
      have hc1 := (hbel.cell (p := ⟨g, off + K, none⟩) hg2).trans (hcl K (by have := Hn.out; omega))
      have hc0 := (hbel.cell (p := ⟨g, off + k, none⟩) hg2).trans (hcl k (by have := Hn.out; omega))
      have Hk := Lib.hid hk
      have hK1 : (K : Int) - 1 = (k : Int) := by omega
      have hKi : (K : Int) < (n : Int) := by omega
      have hki : (k : Int) < (n : Int) := by omega
      have hw0 : IntKind.i64.wrap (k : Int) = (k : Int) := IntWalk.i64_in _ (by omega)
      have hb0 : (0 : Int) ≤ (k : Int) := Int.natCast_nonneg k
      have hb1 : (0 : Int) ≤ (K : Int) := Int.natCast_nonneg K
      have hno := Hno.out k (by omega)
      have hal := fun h => show ∀ j : Nat, (k : Int) ≤ (j : Int) → j + 1 < n → ivL xs j ≤ ivL xs (j + 1) from fun j h1 h2 => by
        rcases Nat.lt_or_ge k j with h3 | h3
        · exact Hall.out j (by omega) h2
        · have : j = k := by omega
          subst this
          exact (h : ivL xs j ≤ ivL xs (j + 1))
      rw [← hk] at hno hal
      obtain ⟨X1, hX1⟩ : ∃ X1, ivL xs K = X1 := ⟨_, rfl⟩
      obtain ⟨X0, hX0⟩ : ∃ X0, ivL xs k = X0 := ⟨_, rfl⟩
      rw [hX1] at hc1 hno hal
      rw [hX0] at hc0 hno hal
      have Hal := Lib.hid hal
      have Hno2 := Lib.hid hno
      have Hls := Lib.hid (fun q : Nat => Try.cmp_Less_int2 X1 X0 (wr.drewN q))
      clear hcl hk hno hal hX1 hX0
      by_cases hd : X1 < X0
      · have hdt : decide (X1 < X0) = true := decide_eq_true hd
        have HT := Lib.hid (Hno2.out hd)
        rw [hdt] at Hls
        go_wp2_with fail
        go_quiet ((go_at_call 137; exact qcallS (Hls.out _)))
        go_wp2
        go_ret
        exact ⟨by rw [HT.out]; rfl, below_drewN hbel _⟩
      · have hdf : decide (X1 < X0) = false := decide_eq_false hd
        have HL2 := Lib.hid (Hal.out (by omega))
        rw [hdf] at Hls
        go_wp2_with fail
        go_quiet ((go_at_call 137; exact qcallS (Hls.out _)))
        go_wp2
        go_roundw
        case rel => exact ⟨(k : Int), by go_num, by omega, by omega, HL2.out, below_drewN hbel _⟩
        case measure => simp [intOf]; omega
    · have HT := Lib.hid (Hyes.out fun i hi => Hall.out i (by omega) hi)
      go_wp2
      go_ret
      exact ⟨by rw [HT.out]; rfl, hbel⟩

end Go.Proofs.Ytoapidcbmlnjcaa
