import Derived.Test.YtaapfapejekkfaaS2
namespace Go.Proofs.Ytaapfapejekkfaa
open Go.RowKit
set_option linter.unusedVariables false
set_option linter.unusedSimpArgs false

def rkO (rs : List (Int × Int)) (n : Int) : Bool := isO rs n && decide (1 ≤ n) && leftF rs n
def rkR (rs : List (Int × Int)) (n : Int) : Int := n - (n - 1) / (whP rs : Int) * (whP rs : Int)
def rkT (rs : List (Int × Int)) (n x : Int) : Bool := decide (x < rkR rs n)
def rkV (rs : List (Int × Int)) (n : Int) : Int := if rkO rs n then (n - 1) / (whP rs : Int) * ((spk rs).length : Int) + (cntP (spk rs) (rkT rs n) (spk rs).length : Int) else 0
theorem rkV_no {rs : List (Int × Int)} {n : Int} (h : rkO rs n = false) : rkV rs n = 0 := by rw [rkV, h]; rfl
theorem rkV_yes {rs : List (Int × Int)} {n : Int} (h : rkO rs n = true) : rkV rs n = (n - 1) / (whP rs : Int) * ((spk rs).length : Int) + (cntP (spk rs) (rkT rs n) (spk rs).length : Int) := by rw [rkV, h]; rfl

/-- The left number nearest to n, from the distance d on. -/
def nearGo (rs : List (Int × Int)) (n : Int) : Nat → Nat → Int
  | 0, _ => n
  | f + 1, d => if leftF rs (n - (d : Int)) then n - (d : Int) else if leftF rs (n + (d : Int)) then n + (d : Int) else nearGo rs n f (d + 1)
def nearD (rs : List (Int × Int)) (n : Int) (d : Nat) : Int := nearGo rs n (whP rs - d) d
theorem nearD_lo {rs : List (Int × Int)} {n : Int} {d : Nat} (hd : d < whP rs) (h : leftF rs (n - (d : Int)) = true) : nearD rs n d = n - (d : Int) := by
  rw [nearD, show whP rs - d = (whP rs - d - 1) + 1 by omega, nearGo, if_pos h]
theorem nearD_hi {rs : List (Int × Int)} {n : Int} {d : Nat} (hd : d < whP rs) (h : leftF rs (n - (d : Int)) = false) (h2 : leftF rs (n + (d : Int)) = true) : nearD rs n d = n + (d : Int) := by
  rw [nearD, show whP rs - d = (whP rs - d - 1) + 1 by omega, nearGo, if_neg (by rw [h]; exact Bool.false_ne_true), if_pos h2]
theorem nearD_go {rs : List (Int × Int)} {n : Int} {d : Nat} (hd : d < whP rs) (h : leftF rs (n - (d : Int)) = false) (h2 : leftF rs (n + (d : Int)) = false) : nearD rs n d = nearD rs n (d + 1) := by
  rw [nearD, show whP rs - d = (whP rs - (d + 1)) + 1 by omega, nearGo, if_neg (by rw [h]; exact Bool.false_ne_true), if_neg (by rw [h2]; exact Bool.false_ne_true), nearD]
def snV (rs : List (Int × Int)) (n : Int) : Int := if isO rs n then nearD rs n 0 else 0
theorem snV_no {rs : List (Int × Int)} {n : Int} (h : isO rs n = false) : snV rs n = 0 := by rw [snV, h]; rfl
theorem snV_yes {rs : List (Int × Int)} {n : Int} (h : isO rs n = true) : snV rs n = nearD rs n 0 := by rw [snV, h]; rfl

/-- Whether n is left exactly if the period less n is. -/
def symB (rs : List (Int × Int)) : Bool := (List.range (whP rs)).all fun k => leftF rs (k : Int) == leftF rs ((whP rs : Int) - (k : Int))
theorem symB_no {rs : List (Int × Int)} {k : Nat} (hk : k < whP rs) (h : (leftF rs (k : Int) == leftF rs ((whP rs : Int) - (k : Int))) = false) : symB rs = false := by
  rw [Bool.eq_false_iff]
  intro hh
  rw [symB, List.all_eq_true] at hh
  rw [hh k (List.mem_range.2 hk)] at h
  cases h
theorem symB_yes {rs : List (Int × Int)} (h : ∀ k, k < whP rs → (leftF rs ((k : Nat) : Int) == leftF rs ((whP rs : Int) - ((k : Nat) : Int))) = true) : symB rs = true := by
  rw [symB, List.all_eq_true]
  exact fun k hk => h k (List.mem_range.1 hk)
def syV (rs : List (Int × Int)) : Bool := whB rs && symB rs
theorem syV_no {rs : List (Int × Int)} (h : whB rs = false) : syV rs = false := by rw [syV, h]; rfl
theorem syV_yes {rs : List (Int × Int)} (h : whB rs = true) : syV rs = symB rs := by rw [syV, h]; rfl

def csO (rs : List (Int × Int)) (s : Int) : Bool := whB rs && decide (1 ≤ s)
def cstV (rs : List (Int × Int)) (s : Int) : Int := if csO rs s then (cntP (stA rs) (fun x => x == s) (stA rs).length : Int) else 0
theorem cstV_no {rs : List (Int × Int)} {s : Int} (h : csO rs s = false) : cstV rs s = 0 := by rw [cstV, h]; rfl
theorem cstV_yes {rs : List (Int × Int)} {s : Int} (h : csO rs s = true) : cstV rs s = (cntP (stA rs) (fun x => x == s) (stA rs).length : Int) := by rw [cstV, h]; rfl
theorem stA_len (rs : List (Int × Int)) : (stA rs).length = (spk rs).length := stL_len _ _
theorem stA_at {rs : List (Int × Int)} (h : whB rs = true) {k : Nat} (hk : k < (stA rs).length) : -5000 ≤ ivL (stA rs) k ∧ ivL (stA rs) k ≤ 10000 := by
  rw [stA_len] at hk
  rw [stA, stL_at hk]
  exact stI_bound h hk

/-- The longest one of the first k steps, and the spoke from which it leads. -/
def lsF (rs : List (Int × Int)) : Nat → Int × Int
  | 0 => (0, 0)
  | k + 1 => if (lsF rs k).1 < ivL (stA rs) k then (ivL (stA rs) k, ivL (spk rs) k) else lsF rs k
theorem lsF_yes {rs : List (Int × Int)} {k : Nat} (h : (lsF rs k).1 < ivL (stA rs) k) : lsF rs (k + 1) = (ivL (stA rs) k, ivL (spk rs) k) := by rw [lsF, if_pos h]
theorem lsF_no {rs : List (Int × Int)} {k : Nat} (h : ¬ (lsF rs k).1 < ivL (stA rs) k) : lsF rs (k + 1) = lsF rs k := by rw [lsF, if_neg h]
def lsA (rs : List (Int × Int)) : Int × Int := if whB rs then lsF rs (spk rs).length else (0, 0)
theorem lsA_no {rs : List (Int × Int)} (h : whB rs = false) : lsA rs = (0, 0) := by rw [lsA, h]; rfl
theorem lsA_yes {rs : List (Int × Int)} (h : whB rs = true) : lsA rs = lsF rs (spk rs).length := by rw [lsA, h]; rfl

def ttO (rs : List (Int × Int)) (s : Int) : Bool := whB rs && inB s 1 5000
def ttV (rs : List (Int × Int)) (s : Int) : Int := if ttO rs s then (cntP (spk rs) (fun x => leftF rs (x + s)) (spk rs).length : Int) else 0
theorem ttV_no {rs : List (Int × Int)} {s : Int} (h : ttO rs s = false) : ttV rs s = 0 := by rw [ttV, h]; rfl
theorem ttV_yes {rs : List (Int × Int)} {s : Int} (h : ttO rs s = true) : ttV rs s = (cntP (spk rs) (fun x => leftF rs (x + s)) (spk rs).length : Int) := by rw [ttV, h]; rfl

set_option maxRecDepth 100000 in
set_option maxHeartbeats 1000000 in
theorem spec_RankOfSpoke_c (w : World) (A : Option Addr) (m c : Nat) (rs : List (Int × Int)) (hA : Rl w A rs) (hm : m = rs.length) (hn : m ≤ 1048576) (n : Int) :
    Calls Try.prog 48 #[.slice A m c, .int .i64 n] w fun en w' => en = .returned (.tuple #[.int .i64 (rkV rs n), .bool (rkO rs n)]) ∧ Below w.heap.size w w' := by
  have Hm := Lib.hid hm
  clear hm
  cases hg : whB rs with
  | false =>
    have ho : rkO rs n = false := by simp [rkO, isO, *]
    rw [rkV_no ho, ho]
    clear ho
    first | (have hp0 := whP_no hg) | (have hp1 : (((whP rs : Nat) : Int) == 0) = false := by have := (whB_parts hg).2.2.2.2.1; exact beq_eq_false_iff_ne.2 (by omega))
    go_enter Try.func48, Try.ntmps48
    go_wp2_with fail
    refine (whPeriod_c _ _ _ rs _ hA Hm.out hn).mono ?_
    rintro e w1 ⟨rfl, b1⟩
    have hA_1 := hA.below b1
    go_wp2
    go_ret2
    exact ⟨rfl, b1⟩
  | true =>
    cases hk : inB n 0 1000000000 with
    | false =>
      have ho : rkO rs n = false := by simp [rkO, isO, *]
      rw [rkV_no ho, ho]
      clear ho
      first | (have hp0 := whP_no hg) | (have hp1 : (((whP rs : Nat) : Int) == 0) = false := by have := (whB_parts hg).2.2.2.2.1; exact beq_eq_false_iff_ne.2 (by omega))
      go_enter Try.func48, Try.ntmps48
      go_wp2_with fail
      refine (whPeriod_c _ _ _ rs _ hA Hm.out hn).mono ?_
      rintro e w1 ⟨rfl, b1⟩
      have hA_1 := hA.below b1
      go_wp2_with fail
      refine (whFar_c _ _).mono ?_
      rintro e w2 ⟨rfl, rfl⟩
      go_wp2
      go_ret2
      exact ⟨rfl, b1⟩
    | true =>
      by_cases hj : 1 ≤ n
      rotate_left
      · skip
        have ho : rkO rs n = false := by simp [rkO, isO, *]
        rw [rkV_no ho, ho]
        clear ho
        first | (have hp0 := whP_no hg) | (have hp1 : (((whP rs : Nat) : Int) == 0) = false := by have := (whB_parts hg).2.2.2.2.1; exact beq_eq_false_iff_ne.2 (by omega))
        go_enter Try.func48, Try.ntmps48
        go_wp2_with fail
        refine (whPeriod_c _ _ _ rs _ hA Hm.out hn).mono ?_
        rintro e w1 ⟨rfl, b1⟩
        have hA_1 := hA.below b1
        go_wp2_with fail
        refine (whFar_c _ _).mono ?_
        rintro e w2 ⟨rfl, rfl⟩
        go_wp2
        go_ret2
        exact ⟨rfl, b1⟩
      · skip
        cases hl : leftF rs n with
        | false =>
          have ho : rkO rs n = false := by simp [rkO, isO, *]
          rw [rkV_no ho, ho]
          clear ho
          first | (have hp0 := whP_no hg) | (have hp1 : (((whP rs : Nat) : Int) == 0) = false := by have := (whB_parts hg).2.2.2.2.1; exact beq_eq_false_iff_ne.2 (by omega))
          go_enter Try.func48, Try.ntmps48
          go_wp2_with fail
          refine (whPeriod_c _ _ _ rs _ hA Hm.out hn).mono ?_
          rintro e w1 ⟨rfl, b1⟩
          have hA_1 := hA.below b1
          go_wp2_with fail
          refine (whFar_c _ _).mono ?_
          rintro e w2 ⟨rfl, rfl⟩
          go_wp2_with fail
          refine (siLeft_c _ _ _ rs _ _ hA_1 Hm.out (Lib.hid (whB_parts hg).1).out (by have := inB_true.1 hk; omega) (by have := inB_true.1 hk; omega)).mono ?_
          rintro e w3 ⟨rfl, b3⟩
          have hA_3 := hA_1.below b3
          have bb3 := b1.trans (b3.mono b1.size)
          go_wp2
          go_ret2
          exact ⟨rfl, bb3⟩
        | true =>
          have ho : rkO rs n = true := by simp [rkO, isO, *]
          rw [rkV_yes ho, ho]
          clear ho
          obtain ⟨n1, n2⟩ := inB_true.1 hk
          have hp1 : (((whP rs : Nat) : Int) == 0) = false := by have := (whB_parts hg).2.2.2.2.1; exact beq_eq_false_iff_ne.2 (by omega)
          have hp5 := (whB_parts hg).2.2.2.2.2.1
          have hgl := (whB_parts hg).1
          have Hgl := Lib.hid hgl
          have hpos := spk_pos hg
          have hsl := spk_len rs
          have Hat := Lib.hid (fun k (hk : k < (spk rs).length) => spk_at hk)
          have hP1 := (whB_parts hg).2.2.2.2.1
          have hq0 : 0 ≤ (n - 1) / (whP rs : Int) := Int.ediv_nonneg (by omega) (by omega)
          have hq1 : (n - 1) / (whP rs : Int) ≤ n - 1 := Int.ediv_le_self _ (by omega)
          have hm0 : 0 ≤ (n - 1) / (whP rs : Int) * ((spk rs).length : Int) := Int.mul_nonneg (by omega) (by omega)
          have hm9 : (n - 1) / (whP rs : Int) * ((spk rs).length : Int) ≤ 1000000000 * 5000 := Int.mul_le_mul (by omega) (by omega) (by omega) (by omega)
          have hm8 : (n - 1) / (whP rs : Int) * ((spk rs).length : Int) ≤ 5000000000000 := by omega
          have hn0 : 0 ≤ (n - 1) / (whP rs : Int) * (whP rs : Int) := Int.mul_nonneg (by omega) (by omega)
          have hn9 : (n - 1) / (whP rs : Int) * (whP rs : Int) ≤ n - 1 := Int.ediv_mul_le _ (by omega)
          have hT := fun x => show (rkT rs n x) = decide (x < n - (n - 1) / (whP rs : Int) * (whP rs : Int)) from rfl
          have HT := Lib.hid hT
          clear hm9 hT
          have Hg := Lib.hid hg
          have Hk := Lib.hid hk
          have Hl := Lib.hid hl
          go_enter Try.func48, Try.ntmps48
          go_wp2_with fail
          refine (whPeriod_c _ _ _ rs _ hA Hm.out hn).mono ?_
          rintro e w1 ⟨rfl, b1⟩
          have hA_1 := hA.below b1
          go_wp2_with fail
          refine (whFar_c _ _).mono ?_
          rintro e w2 ⟨rfl, rfl⟩
          go_wp2_with fail
          refine (siLeft_c _ _ _ rs _ _ hA_1 Hm.out (Lib.hid (whB_parts hg).1).out (by have := inB_true.1 hk; omega) (by have := inB_true.1 hk; omega)).mono ?_
          rintro e w3 ⟨rfl, b3⟩
          have hA_3 := hA_1.below b3
          have bb3 := b1.trans (b3.mono b1.size)
          go_wp2_with fail
          refine (whSpokes_c _ _ _ _ rs hA_3 Hm.out Hgl.out (whP rs) (by omega)).mono ?_
          rintro e w4 ⟨⟨v4, rfl, o4⟩, b4⟩
          have hA_4 := hA_3.below b4
          have bb4 := bb3.trans (b4.mono bb3.size)
          have o6 : OwnI w4 w3.heap.size v4 (spk rs) := o4
          clear o4
          obtain ⟨g, c2, rfl, _, hg2, hc⟩ := own_cells o6 hpos
          have Hc := Lib.hid hc
          clear hc o6
          go_wp2_with fail
          go_loop [8, 42] (fun q i => ∃ k : Nat, k ≤ (spk rs).length ∧ i = .int .i64 (k : Int) ∧ q = .int .i64 ((n - 1) / (whP rs : Int) * ((spk rs).length : Int) + (cntP (spk rs) (rkT rs n) k : Int))) (fun _ i => (spk rs).length - (intOf i).toNat)
          case atStart => exact ⟨0, Nat.zero_le _, rfl, by simp [cntP]⟩
          case round =>
            obtain ⟨k, hk, rfl, rfl⟩ := hrel
            have hcl := cntP_le (spk rs) (rkT rs n) k
            by_cases hlt : k < (spk rs).length
            · have hck := Hc.out k hlt
              have hat := Hat.out k hlt
              by_cases ht : ivL (spk rs) k < n - (n - 1) / (whP rs : Int) * (whP rs : Int)
              · have Hy := Lib.hid (cntP_yes (xs := spk rs) (p := rkT rs n) (k := k) (by rw [HT.out]; exact decide_eq_true ht))
                go_wp2
                go_round
                case rel => exact ⟨k + 1, by omega, by go_num, by rw [Hy.out, Int.natCast_succ, Int.add_assoc]⟩
                case measure => simp [intOf]; omega
              · have Hy := Lib.hid (cntP_no (xs := spk rs) (p := rkT rs n) (k := k) (by rw [HT.out]; exact decide_eq_false ht))
                go_wp2
                go_round
                case rel => exact ⟨k + 1, by omega, by go_num, by rw [Hy.out]⟩
                case measure => simp [intOf]; omega
            · have Hk2 := Lib.hid (show k = (spk rs).length by omega)
              go_wp2
              go_ret2
              exact ⟨by rw [← Hk2.out]; rfl, bb4⟩

set_option maxRecDepth 100000 in
set_option maxHeartbeats 1000000 in
theorem spec_SpokeNear_c (w : World) (A : Option Addr) (m c : Nat) (rs : List (Int × Int)) (hA : Rl w A rs) (hm : m = rs.length) (hn : m ≤ 1048576) (n : Int) :
    Calls Try.prog 52 #[.slice A m c, .int .i64 n] w fun en w' => en = .returned (.tuple #[.int .i64 (snV rs n), .bool (isO rs n)]) ∧ Below w.heap.size w w' := by
  have Hm := Lib.hid hm
  clear hm
  cases hg : whB rs with
  | false =>
    have ho : isO rs n = false := by simp [isO, *]
    rw [snV_no ho, ho]
    clear ho
    first | (have hp0 := whP_no hg) | (have hp1 : (((whP rs : Nat) : Int) == 0) = false := by have := (whB_parts hg).2.2.2.2.1; exact beq_eq_false_iff_ne.2 (by omega))
    go_enter Try.func52, Try.ntmps52
    go_wp2_with fail
    refine (whPeriod_c _ _ _ rs _ hA Hm.out hn).mono ?_
    rintro e w1 ⟨rfl, b1⟩
    have hA_1 := hA.below b1
    go_wp2
    go_ret2
    exact ⟨rfl, b1⟩
  | true =>
    cases hk : inB n 0 1000000000 with
    | false =>
      have ho : isO rs n = false := by simp [isO, *]
      rw [snV_no ho, ho]
      clear ho
      first | (have hp0 := whP_no hg) | (have hp1 : (((whP rs : Nat) : Int) == 0) = false := by have := (whB_parts hg).2.2.2.2.1; exact beq_eq_false_iff_ne.2 (by omega))
      go_enter Try.func52, Try.ntmps52
      go_wp2_with fail
      refine (whPeriod_c _ _ _ rs _ hA Hm.out hn).mono ?_
      rintro e w1 ⟨rfl, b1⟩
      have hA_1 := hA.below b1
      go_wp2_with fail
      refine (whFar_c _ _).mono ?_
      rintro e w2 ⟨rfl, rfl⟩
      go_wp2
      go_ret2
      exact ⟨rfl, b1⟩
    | true =>
      have ho : isO rs n = true := by simp [isO, *]
      rw [snV_yes ho, ho]
      clear ho
      obtain ⟨n1, n2⟩ := inB_true.1 hk
      have hp1 : (((whP rs : Nat) : Int) == 0) = false := by have := (whB_parts hg).2.2.2.2.1; exact beq_eq_false_iff_ne.2 (by omega)
      have hp5 := (whB_parts hg).2.2.2.2.2.1
      have hgl := (whB_parts hg).1
      have Hgl := Lib.hid hgl
      have hnx := wh_next hg n
      have hP1 := (whB_parts hg).2.2.2.2.1
      obtain ⟨T, hT⟩ : ∃ T, nearD rs n 0 = T := ⟨_, rfl⟩
      rw [hT]
      have HT := Lib.hid hT
      clear hT
      have Hg := Lib.hid hg
      have Hk := Lib.hid hk
      go_enter Try.func52, Try.ntmps52
      go_wp2_with fail
      refine (whPeriod_c _ _ _ rs _ hA Hm.out hn).mono ?_
      rintro e w1 ⟨rfl, b1⟩
      have hA_1 := hA.below b1
      go_wp2_with fail
      refine (whFar_c _ _).mono ?_
      rintro e w2 ⟨rfl, rfl⟩
      obtain ⟨d0, hd0, hl0⟩ := hnx
      have Hl0 := Lib.hid hl0
      clear hl0
      go_wp2
      go_loopw [6] (fun i wr => ∃ d : Nat, i = .int .i64 (d : Int) ∧ d ≤ d0 ∧ nearD rs n d = T ∧ Below w1.heap.size w1 wr) (fun i _ => d0 + 1 - (intOf i).toNat)
      case atStart => exact ⟨0, rfl, Nat.zero_le _, HT.out, Below.refl _ _⟩
      case round =>
        obtain ⟨d, rfl, hd, hT2, hbel⟩ := hrel
        have HT2 := Lib.hid hT2
        clear hT2
        have R2 := (hA_1).below hbel
        cases h1 : leftF rs (n - (d : Int)) with
        | true =>
          have Hv := Lib.hid (HT2.out.symm.trans (nearD_lo (by omega) h1))
          go_wp2_with fail
          refine (siLeft_c _ _ _ rs _ _ R2 Hm.out Hgl.out (by omega) (by omega)).mono ?_
          rw [h1]
          rintro e w3 ⟨rfl, b3⟩
          go_wp2
          go_ret2
          exact ⟨by rw [Hv.out]; rfl, (b1).trans ((hbel.trans (b3.mono hbel.size)).mono (b1).size)⟩
        | false =>
          cases h2 : leftF rs (n + (d : Int)) with
          | true =>
            have Hv := Lib.hid (HT2.out.symm.trans (nearD_hi (by omega) h1 h2))
            go_wp2_with fail
            refine (siLeft_c _ _ _ rs _ _ R2 Hm.out Hgl.out (by omega) (by omega)).mono ?_
            rw [h1]
            rintro e w3 ⟨rfl, b3⟩
            have R3 := R2.below b3
            have bb3 := hbel.trans (b3.mono hbel.size)
            go_wp2_with fail
            refine (siLeft_c _ _ _ rs _ _ R3 Hm.out Hgl.out (by omega) (by omega)).mono ?_
            rw [h2]
            rintro e w4 ⟨rfl, b4⟩
            go_wp2
            go_ret2
            exact ⟨by rw [Hv.out]; rfl, (b1).trans ((bb3.trans (b4.mono bb3.size)).mono (b1).size)⟩
          | false =>
            have Hv := Lib.hid ((nearD_go (by omega) h1 h2).symm.trans HT2.out)
            have hne : d ≠ d0 := fun e => by rw [e, Hl0.out] at h2; cases h2
            have hd2 : d + 1 ≤ d0 := by omega
            clear hne
            go_wp2_with fail
            refine (siLeft_c _ _ _ rs _ _ R2 Hm.out Hgl.out (by omega) (by omega)).mono ?_
            rw [h1]
            rintro e w3 ⟨rfl, b3⟩
            have R3 := R2.below b3
            have bb3 := hbel.trans (b3.mono hbel.size)
            go_wp2_with fail
            refine (siLeft_c _ _ _ rs _ _ R3 Hm.out Hgl.out (by omega) (by omega)).mono ?_
            rw [h2]
            rintro e w4 ⟨rfl, b4⟩
            go_wp2
            go_roundw
            case rel => exact ⟨d + 1, by go_num, hd2, Hv.out, bb3.trans (b4.mono bb3.size)⟩
            case measure => simp [intOf]; omega

set_option maxRecDepth 100000 in
set_option maxHeartbeats 1000000 in
theorem spec_IsSymmetric_c (w : World) (A : Option Addr) (m c : Nat) (rs : List (Int × Int)) (hA : Rl w A rs) (hm : m = rs.length) (hn : m ≤ 1048576) :
    Calls Try.prog 99 #[.slice A m c] w fun en w' => en = .returned (.tuple #[.bool (syV rs), .bool (whB rs)]) ∧ Below w.heap.size w w' := by
  have Hm := Lib.hid hm
  clear hm
  cases hg : whB rs with
  | false =>
    rw [syV_no hg]
    have hp0 := whP_no hg
    go_enter Try.func99, Try.ntmps99
    go_wp2_with fail
    refine (whPeriod_c _ _ _ rs _ hA Hm.out hn).mono ?_
    rintro e w1 ⟨rfl, b1⟩
    have hA_1 := hA.below b1
    go_wp2
    go_ret2
    exact ⟨rfl, b1⟩
  | true =>
    rw [syV_yes hg]
    have hp1 : (((whP rs : Nat) : Int) == 0) = false := by have := (whB_parts hg).2.2.2.2.1; exact beq_eq_false_iff_ne.2 (by omega)
    have hp5 := (whB_parts hg).2.2.2.2.2.1
    have hgl := (whB_parts hg).1
    have Hgl := Lib.hid hgl
    have Hg := Lib.hid hg
    go_enter Try.func99, Try.ntmps99
    go_wp2_with fail
    refine (whPeriod_c _ _ _ rs _ hA Hm.out hn).mono ?_
    rintro e w1 ⟨rfl, b1⟩
    have hA_1 := hA.below b1
    go_wp2
    go_loopw [5] (fun i wr => ∃ k : Nat, k ≤ whP rs ∧ i = .int .i64 (k : Int) ∧ (∀ j, j < k → (leftF rs ((j : Nat) : Int) == leftF rs ((whP rs : Int) - ((j : Nat) : Int))) = true) ∧ Below w1.heap.size w1 wr) (fun i _ => whP rs - (intOf i).toNat)
    case atStart => exact ⟨0, Nat.zero_le _, rfl, fun j hj => by omega, Below.refl _ _⟩
    case round =>
      obtain ⟨k, hk, rfl, hall, hbel⟩ := hrel
      have Hall := Lib.hid hall
      clear hall
      have R2 := (hA_1).below hbel
      by_cases hlt : k < whP rs
      · obtain ⟨x, hx⟩ : ∃ x, leftF rs (k : Int) = x := ⟨_, rfl⟩
        obtain ⟨y, hy⟩ : ∃ y, leftF rs ((whP rs : Int) - (k : Int)) = y := ⟨_, rfl⟩
        by_cases hxy : x = y
        · have Hall2 := Lib.hid (fun j (hj : j < k + 1) => show (leftF rs ((j : Nat) : Int) == leftF rs ((whP rs : Int) - ((j : Nat) : Int))) = true by
            rcases Nat.lt_succ_iff_lt_or_eq.1 hj with h | h
            · exact Hall.out j h
            · rw [h, hx, hy, hxy]; simp)
          subst hxy
          have hne : (x != x) = false := by simp
          go_wp2_with fail
          refine (siLeft_c _ _ _ rs _ _ R2 Hm.out Hgl.out (by omega) (by omega)).mono ?_
          rw [hx]
          rintro e w3 ⟨rfl, b3⟩
          have R3 := R2.below b3
          have bb3 := hbel.trans (b3.mono hbel.size)
          go_wp2_with fail
          refine (siLeft_c _ _ _ rs _ _ R3 Hm.out Hgl.out (by omega) (by omega)).mono ?_
          rw [hy]
          rintro e w4 ⟨rfl, b4⟩
          clear hx hy
          go_wp2
          go_roundw
          case rel => exact ⟨k + 1, by omega, by go_num, Hall2.out, bb3.trans (b4.mono bb3.size)⟩
          case measure => simp [intOf]; omega
        · have Hno := Lib.hid (symB_no hlt (by rw [hx, hy]; exact beq_eq_false_iff_ne.2 hxy))
          have hne : (x != y) = true := by simpa using hxy
          have hne2 : (!(x == y)) = true := by simpa using hxy
          go_wp2_with fail
          refine (siLeft_c _ _ _ rs _ _ R2 Hm.out Hgl.out (by omega) (by omega)).mono ?_
          rw [hx]
          rintro e w3 ⟨rfl, b3⟩
          have R3 := R2.below b3
          have bb3 := hbel.trans (b3.mono hbel.size)
          go_wp2_with fail
          refine (siLeft_c _ _ _ rs _ _ R3 Hm.out Hgl.out (by omega) (by omega)).mono ?_
          rw [hy]
          rintro e w4 ⟨rfl, b4⟩
          clear hx hy
          go_wp2
          go_ret2
          exact ⟨by rw [Hno.out]; rfl, (b1).trans ((bb3.trans (b4.mono bb3.size)).mono (b1).size)⟩
      · have Hyes := Lib.hid (symB_yes fun j hj => Hall.out j (by omega))
        go_wp2
        go_ret2
        exact ⟨by rw [Hyes.out]; rfl, (b1).trans (hbel.mono (b1).size)⟩

set_option maxRecDepth 100000 in
set_option maxHeartbeats 800000 in
theorem spec_CountStep_c (w : World) (A : Option Addr) (m c : Nat) (rs : List (Int × Int)) (hA : Rl w A rs) (hm : m = rs.length) (hn : m ≤ 1048576) (s : Int) :
    Calls Try.prog 109 #[.slice A m c, .int .i64 s] w fun en w' => en = .returned (.tuple #[.int .i64 (cstV rs s), .bool (csO rs s)]) ∧ Below w.heap.size w w' := by
  have Hm := Lib.hid hm
  clear hm
  cases hg : whB rs with
  | false =>
    have ho : csO rs s = false := by simp [csO, *]
    rw [cstV_no ho, ho]
    clear ho
    first | (have hp0 := whP_no hg) | (have hp1 : (((whP rs : Nat) : Int) == 0) = false := by have := (whB_parts hg).2.2.2.2.1; exact beq_eq_false_iff_ne.2 (by omega))
    go_enter Try.func109, Try.ntmps109
    go_wp2_with fail
    refine (whPeriod_c _ _ _ rs _ hA Hm.out hn).mono ?_
    rintro e w1 ⟨rfl, b1⟩
    have hA_1 := hA.below b1
    go_wp2
    go_ret2
    exact ⟨rfl, b1⟩
  | true =>
    by_cases hk : 1 ≤ s
    rotate_left
    · skip
      have ho : csO rs s = false := by simp [csO, *]
      rw [cstV_no ho, ho]
      clear ho
      first | (have hp0 := whP_no hg) | (have hp1 : (((whP rs : Nat) : Int) == 0) = false := by have := (whB_parts hg).2.2.2.2.1; exact beq_eq_false_iff_ne.2 (by omega))
      go_enter Try.func109, Try.ntmps109
      go_wp2_with fail
      refine (whPeriod_c _ _ _ rs _ hA Hm.out hn).mono ?_
      rintro e w1 ⟨rfl, b1⟩
      have hA_1 := hA.below b1
      go_wp2
      go_ret2
      exact ⟨rfl, b1⟩
    · skip
      have ho : csO rs s = true := by simp [csO, *]
      rw [cstV_yes ho, ho]
      clear ho
      have hp1 : (((whP rs : Nat) : Int) == 0) = false := by have := (whB_parts hg).2.2.2.2.1; exact beq_eq_false_iff_ne.2 (by omega)
      have hp5 := (whB_parts hg).2.2.2.2.2.1
      have hgl := (whB_parts hg).1
      have Hgl := Lib.hid hgl
      have hpos := spk_pos hg
      have hsl := spk_len rs
      rw [← stA_len] at hpos hsl
      have Hg := Lib.hid hg
      go_enter Try.func109, Try.ntmps109
      go_wp2_with fail
      refine (whPeriod_c _ _ _ rs _ hA Hm.out hn).mono ?_
      rintro e w1 ⟨rfl, b1⟩
      have hA_1 := hA.below b1
      go_wp2_with fail
      refine (whSteps_c _ _ _ _ rs hA_1 Hm.out Hg.out).mono ?_
      rintro e w2 ⟨⟨v2, rfl, o2⟩, b2⟩
      have hA_2 := hA_1.below b2
      have bb2 := b1.trans (b2.mono b1.size)
      obtain ⟨g, c2, rfl, _, hg2, hc⟩ := own_cells o2 hpos
      have Hc := Lib.hid hc
      clear hc o2
      go_wp2_with fail
      go_loop [7, 22] (fun q i => ∃ k : Nat, k ≤ (stA rs).length ∧ i = .int .i64 (k : Int) ∧ q = .int .i64 (cntP (stA rs) (fun x => x == s) k : Int)) (fun _ i => (stA rs).length - (intOf i).toNat)
      case atStart => exact ⟨0, Nat.zero_le _, rfl, rfl⟩
      case round =>
        obtain ⟨k, hk, rfl, rfl⟩ := hrel
        have hcl := cntP_le (stA rs) (fun x => x == s) k
        by_cases hlt : k < (stA rs).length
        · have hck := Hc.out k hlt
          cases ht : (ivL (stA rs) k == s) with
          | true =>
            have Hy := Lib.hid (cntP_yes (xs := stA rs) (p := fun x => x == s) (k := k) ht)
            go_wp2
            go_round
            case rel => exact ⟨k + 1, by omega, by go_num, by rw [Hy.out]; go_num⟩
            case measure => simp [intOf]; omega
          | false =>
            have Hy := Lib.hid (cntP_no (xs := stA rs) (p := fun x => x == s) (k := k) ht)
            go_wp2
            go_round
            case rel => exact ⟨k + 1, by omega, by go_num, by rw [Hy.out]⟩
            case measure => simp [intOf]; omega
        · have Hk2 := Lib.hid (show k = (stA rs).length by omega)
          go_wp2
          go_ret2
          exact ⟨by rw [← Hk2.out]; rfl, bb2⟩

set_option maxRecDepth 100000 in
set_option maxHeartbeats 800000 in
theorem spec_LongestStep_c (w : World) (A : Option Addr) (m c : Nat) (rs : List (Int × Int)) (hA : Rl w A rs) (hm : m = rs.length) (hn : m ≤ 1048576) :
    Calls Try.prog 93 #[.slice A m c] w fun en w' => en = .returned (.tuple #[.int .i64 (lsA rs).1, .int .i64 (lsA rs).2, .bool (whB rs)]) ∧ Below w.heap.size w w' := by
  have Hm := Lib.hid hm
  clear hm
  cases hg : whB rs with
  | false =>
    rw [lsA_no hg]
    have hp0 := whP_no hg
    go_enter Try.func93, Try.ntmps93
    go_wp2_with fail
    refine (whPeriod_c _ _ _ rs _ hA Hm.out hn).mono ?_
    rintro e w1 ⟨rfl, b1⟩
    have hA_1 := hA.below b1
    go_wp2
    go_ret3
    exact ⟨rfl, b1⟩
  | true =>
    rw [lsA_yes hg]
    have hp1 : (((whP rs : Nat) : Int) == 0) = false := by have := (whB_parts hg).2.2.2.2.1; exact beq_eq_false_iff_ne.2 (by omega)
    have hp5 := (whB_parts hg).2.2.2.2.2.1
    have hgl := (whB_parts hg).1
    have Hgl := Lib.hid hgl
    have hpos := spk_pos hg
    have hsl := spk_len rs
    have hpos2 := hpos
    have hlen := stA_len rs
    rw [← stA_len] at hpos2
    have Hlen := Lib.hid hlen
    clear hlen
    have Hg := Lib.hid hg
    go_enter Try.func93, Try.ntmps93
    go_wp2_with fail
    refine (whPeriod_c _ _ _ rs _ hA Hm.out hn).mono ?_
    rintro e w1 ⟨rfl, b1⟩
    have hA_1 := hA.below b1
    go_wp2_with fail
    refine (whSpokes_c _ _ _ _ rs hA_1 Hm.out Hgl.out (whP rs) (by omega)).mono ?_
    rintro e w2 ⟨⟨v2, rfl, o2⟩, b2⟩
    have hA_2 := hA_1.below b2
    have bb2 := b1.trans (b2.mono b1.size)
    have o9 : OwnI w2 w1.heap.size v2 (spk rs) := o2
    clear o2
    obtain ⟨g, c2, rfl, _, hg2, hc⟩ := own_cells o9 hpos
    clear o9
    go_wp2_with fail
    refine (whSteps_c _ _ _ _ rs hA_2 Hm.out Hg.out).mono ?_
    rintro e w3 ⟨⟨v3, rfl, o3⟩, b3⟩
    have bb3 := (bb2).trans (b3.mono (bb2).size)
    obtain ⟨g3, c3, rfl, _, hg3, hc3⟩ := own_cells o3 hpos2
    have Hc := Lib.hid (fun k hk => (b3.cell (p := ⟨g, k, none⟩) hg2).trans (hc k hk))
    have Hc3 := Lib.hid hc3
    clear hc hc3 o3
    rw [Hlen.out]
    go_wp2_with fail
    go_loop [7, 8, 22] (fun q r i => ∃ k : Nat, k ≤ (spk rs).length ∧ i = .int .i64 (k : Int) ∧ q = .int .i64 (lsF rs k).1 ∧ r = .int .i64 (lsF rs k).2) (fun _ _ i => (spk rs).length - (intOf i).toNat)
    case atStart => exact ⟨0, Nat.zero_le _, rfl, rfl, rfl⟩
    case round =>
      obtain ⟨k, hk, rfl, rfl, rfl⟩ := hrel
      by_cases hlt : k < (spk rs).length
      · have hck := Hc.out k hlt
        have hck3 := Hc3.out k (by have := Hlen.out; omega)
        have hki : (k : Int) < ((spk rs).length : Int) := by omega
        by_cases ht : (lsF rs k).1 < ivL (stA rs) k
        · have Hy := Lib.hid (lsF_yes ht)
          go_wp2
          go_round
          case rel => exact ⟨k + 1, by omega, by go_num, by rw [Hy.out], by rw [Hy.out]⟩
          case measure => simp [intOf]; omega
        · have Hy := Lib.hid (lsF_no ht)
          go_wp2
          go_round
          case rel => exact ⟨k + 1, by omega, by go_num, by rw [Hy.out], by rw [Hy.out]⟩
          case measure => simp [intOf]; omega
      · have Hk2 := Lib.hid (show k = (spk rs).length by omega)
        go_wp2
        go_ret3
        exact ⟨by rw [← Hk2.out]; rfl, bb3⟩

end Go.Proofs.Ytaapfapejekkfaa
