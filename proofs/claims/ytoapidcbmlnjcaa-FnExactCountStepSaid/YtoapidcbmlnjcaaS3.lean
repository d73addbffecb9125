import Derived.Test.YtoapidcbmlnjcaaS2
namespace Go.Proofs.Ytoapidcbmlnjcaa
open Go.RowKit
set_option linter.unusedVariables false
set_option linter.unusedSimpArgs false

def rkO (rs : List (Int × Int)) (n : Int) : Bool := isO rs n && decide (1 ≤ n) && leftF rs n
def rkR (rs : List (Int × Int)) (n : Int) : Int := n - (n - 1) / (whP rs : Int) * (whP rs : Int)
def rkT (rs : List (Int × Int)) (n x : Int) : Bool := decide (x < rkR rs n)
def rkV (rs : List (Int × Int)) (n : Int) : Int := if rkO rs n then (n - 1) / (whP rs : Int) * ((spk rs).length : Int) + (cntP (spk rs) (rkT rs n) (spk rs).length : Int) else 0
theorem rkV_no {rs : List (Int × Int)} {n : Int} (h : rkO rs n = false) : rkV rs n = 0 := by rw [rkV, h]; rfl
theorem rkV_yes {rs : List (Int × Int)} {n : Int} (h : rkO rs n = true) : rkV rs n = (n - 1) / (whP rs : Int) * ((spk rs).length : Int) + (cntP (spk rs) (rkT rs n) (spk rs).length : Int) := by rw [rkV, h]; rfl

/-- The left number nearest to n, from the distance d on. -/
def nearGo (rs : List (Int × Int)) (n : Int) : Nat → Nat → Int
  | 0, _ => n
  | f + 1, d => if leftF rs (n - (d : Int)) then n - (d : Int) else if leftF rs (n + (d : Int)) then n + (d : Int) else nearGo rs n f (d + 1)
def nearD (rs : List (Int × Int)) (n : Int) (d : Nat) : Int := nearGo rs n (whP rs - d) d
theorem nearD_lo {rs : List (Int × Int)} {n : Int} {d : Nat} (hd : d < whP rs) (h : leftF rs (n - (d : Int)) = true) : nearD rs n d = n - (d : Int) := by
  rw [nearD, show whP rs - d = (whP rs - d - 1) + 1 by omega, nearGo, if_pos h]
theorem nearD_hi {rs : List (Int × Int)} {n : Int} {d : Nat} (hd : d < whP rs) (h : leftF rs (n - (d : Int)) = false) (h2 : leftF rs (n + (d : Int)) = true) : nearD rs n d = n + (d : Int) := by
  rw [nearD, show whP rs - d = (whP rs - d - 1) + 1 by omega, nearGo, if_neg (by rw [h]; exact Bool.false_ne_true), if_pos h2]
theorem nearD_go {rs : List (Int × Int)} {n : Int} {d : Nat} (hd : d < whP rs) (h : leftF rs (n - (d : Int)) = false) (h2 : leftF rs (n + (d : Int)) = false) : nearD rs n d = nearD rs n (d + 1) := by
  rw [nearD, show whP rs - d = (whP rs - (d + 1)) + 1 by omega, nearGo, if_neg (by rw [h]; exact Bool.false_ne_true), if_neg (by rw [h2]; exact Bool.false_ne_true), nearD]
def snV (rs : List (Int × Int)) (n : Int) : Int := if isO rs n then nearD rs n 0 else 0
theorem snV_no {rs : List (Int × Int)} {n : Int} (h : isO rs n = false) : snV rs n = 0 := by rw [snV, h]; rfl
theorem snV_yes {rs : List (Int × Int)} {n : Int} (h : isO rs n = true) : snV rs n = nearD rs n 0 := by rw [snV, h]; rfl

/-- Whether n is left exactly if the period less n is. -/
def symB (rs : List (Int × Int)) : Bool := (List.range (whP rs)).all fun k => leftF rs (k : Int) == leftF rs ((whP rs : Int) - (k : Int))
theorem symB_no {rs : List (Int × Int)} {k : Nat} (hk : k < whP rs) (h : (leftF rs (k : Int) == leftF rs ((whP rs : Int) - (k : Int))) = false) : symB rs = false := by
  rw [Bool.eq_false_iff]
  intro hh
  rw [symB, List.all_eq_true] at hh
  rw [hh k (List.mem_range.2 hk)] at h
  cases h
theorem symB_yes {rs : List (Int × Int)} (h : ∀ k, k < whP rs → (leftF rs ((k : Nat) : Int) == leftF rs ((whP rs : Int) - ((k : Nat) : Int))) = true) : symB rs = true := by
  rw [symB, List.all_eq_true]
  exact fun k hk => h k (List.mem_range.1 hk)
def syV (rs : List (Int × Int)) : Bool := whB rs && symB rs
theorem syV_no {rs : List (Int × Int)} (h : whB rs = false) : syV rs = false := by rw [syV, h]; rfl
theorem syV_yes {rs : List (Int × Int)} (h : whB rs = true) : syV rs = symB rs := by rw [syV, h]; rfl

def csO (rs : List (Int × Int)) (s : Int) : Bool := whB rs && decide (1 ≤ s)
def cstV (rs : List (Int × Int)) (s : Int) : Int := if csO rs s then (cntP (stA rs) (fun x => x == s) (stA rs).length : Int) else 0
theorem cstV_no {rs : List (Int × Int)} {s : Int} (h : csO rs s = false) : cstV rs s = 0 := by rw [cstV, h]; rfl
theorem cstV_yes {rs : List (Int × Int)} {s : Int} (h : csO rs s = true) : cstV rs s = (cntP (stA rs) (fun x => x == s) (stA rs).length : Int) := by rw [cstV, h]; rfl
theorem stA_len (rs : List (Int × Int)) : (stA rs).length = (spk rs).length := stL_len _ _
theorem stA_at {rs : List (Int × Int)} (h : whB rs = true) {k : Nat} (hk : k < (stA rs).length) : -5000 ≤ ivL (stA rs) k ∧ ivL (stA rs) k ≤ 10000 := by
  rw [stA_len] at hk
  rw [stA, stL_at hk]
  exact stI_bound h hk

/-- The longest one of the first k steps, and the spoke from which it leads. -/
def lsF (rs : List (Int × Int)) : Nat → Int × Int
  | 0 => (0, 0)
  | k + 1 => if (lsF rs k).1 < ivL (stA rs) k then (ivL (stA rs) k, ivL (spk rs) k) else lsF rs k
theorem lsF_yes {rs : List (Int × Int)} {k : Nat} (h : (lsF rs k).1 < ivL (stA rs) k) : lsF rs (k + 1) = (ivL (stA rs) k, ivL (spk rs) k) := by rw [lsF, if_pos h]
theorem lsF_no {rs : List (Int × Int)} {k : Nat} (h : ¬ (lsF rs k).1 < ivL (stA rs) k) : lsF rs (k + 1) = lsF rs k := by rw [lsF, if_neg h]
def lsA (rs : List (Int × Int)) : Int × Int := if whB rs then lsF rs (spk rs).length else (0, 0)
theorem lsA_no {rs : List (Int × Int)} (h : whB rs = false) : lsA rs = (0, 0) := by rw [lsA, h]; rfl
theorem lsA_yes {rs : List (Int × Int)} (h : whB rs = true) : lsA rs = lsF rs (spk rs).length := by rw [lsA, h]; rfl

def ttO (rs : List (Int × Int)) (s : Int) : Bool := whB rs && inB s 1 5000
def ttV (rs : List (Int × Int)) (s : Int) : Int := if ttO rs s then (cntP (spk rs) (fun x => leftF rs (x + s)) (spk rs).length : Int) else 0
theorem ttV_no {rs : List (Int × Int)} {s : Int} (h : ttO rs s = false) : ttV rs s = 0 := by rw [ttV, h]; rfl
theorem ttV_yes {rs : List (Int × Int)} {s : Int} (h : ttO rs s = true) : ttV rs s = (cntP (spk rs) (fun x => leftF rs (x + s)) (spk rs).length : Int) := by rw [ttV, h]; rfl




set_option maxRecDepth 100000 in
set_option maxHeartbeats 800000 in
theorem spec_CountStep_c (w : World) (A : Option Addr) (m c : Nat) (rs : List (Int × Int)) (hA : Rl w A rs) (hm : m = rs.length) (hn : m ≤ 1048576) (s : Int) :
    Calls Try.prog 20 #[.slice A m c, .int .i64 s] w fun en w' => en = .returned (.tuple #[.int .i64 (cstV rs s), .bool (csO rs s)]) ∧ Below w.heap.size w w' := by
  have Hm := Lib.hid hm
  clear hm
  cases hg : whB rs with
  | false =>
    have ho : csO rs s = false := by simp [csO, *]
    rw [cstV_no ho, ho]
    clear ho
    first | (have hp0 := whP_no hg) | (have hp1 : (((whP rs : Nat) : Int) == 0) = false := by have := (whB_parts hg).2.2.2.2.1; exact beq_eq_false_iff_ne.2 (by omega))
    go_enter Try.func20, Try.ntmps20
    go_wp2_with fail
    refine (whPeriod_c _ _ _ rs _ hA Hm.out hn).mono ?_
    rintro e w1 ⟨rfl, b1⟩
    have hA_1 := hA.below b1
    go_wp2
    go_ret2
    exact ⟨rfl, b1⟩
  | true =>
    by_cases hk : 1 ≤ s
    rotate_left
    · skip
      have ho : csO rs s = false := by simp [csO, *]
      rw [cstV_no ho, ho]
      clear ho
      first | (have hp0 := whP_no hg) | (have hp1 : (((whP rs : Nat) : Int) == 0) = false := by have := (whB_parts hg).2.2.2.2.1; exact beq_eq_false_iff_ne.2 (by omega))
      go_enter Try.func20, Try.ntmps20
      go_wp2_with fail
      refine (whPeriod_c _ _ _ rs _ hA Hm.out hn).mono ?_
      rintro e w1 ⟨rfl, b1⟩
      have hA_1 := hA.below b1
      go_wp2
      go_ret2
      exact ⟨rfl, b1⟩
    · skip
      have ho : csO rs s = true := by simp [csO, *]
      rw [cstV_yes ho, ho]
      clear ho
      have hp1 : (((whP rs : Nat) : Int) == 0) = false := by have := (whB_parts hg).2.2.2.2.1; exact beq_eq_false_iff_ne.2 (by omega)
      have hp5 := (whB_parts hg).2.2.2.2.2.1
      have hgl := (whB_parts hg).1
      have Hgl := Lib.hid hgl
      have hpos := spk_pos hg
      have hsl := spk_len rs
      rw [← stA_len] at hpos hsl
      have Hg := Lib.hid hg
      go_enter Try.func20, Try.ntmps20
      go_wp2_with fail
      refine (whPeriod_c _ _ _ rs _ hA Hm.out hn).mono ?_
      rintro e w1 ⟨rfl, b1⟩
      have hA_1 := hA.below b1
      go_wp2_with fail
      refine (whSteps_c _ _ _ _ rs hA_1 Hm.out Hg.out).mono ?_
      rintro e w2 ⟨⟨v2, rfl, o2⟩, b2⟩
      have hA_2 := hA_1.below b2
      have bb2 := b1.trans (b2.mono b1.size)
      obtain ⟨g, c2, rfl, _, hg2, hc⟩ := own_cells o2 hpos
      have Hc := Lib.hid hc
      clear hc o2
      go_wp2_with fail
      go_loop [7, 22] (fun q i => ∃ k : Nat, k ≤ (stA rs).length ∧ i = .int .i64 (k : Int) ∧ q = .int .i64 (cntP (stA rs) (fun x => x == s) k : Int)) (fun _ i => (stA rs).length - (intOf i).toNat)
      case atStart => exact ⟨0, Nat.zero_le _, rfl, rfl⟩
      case round =>
        obtain ⟨k, hk, rfl, rfl⟩ := hrel
        have hcl := cntP_le (stA rs) (fun x => x == s) k
        by_cases hlt : k < (stA rs).length
        · have hck := Hc.out k hlt
          cases ht : (ivL (stA rs) k == s) with
          | true =>
            have Hy := Lib.hid (cntP_yes (xs := stA rs) (p := fun x => x == s) (k := k) ht)
            go_wp2
            go_round
            case rel => exact ⟨k + 1, by omega, by go_num, by rw [Hy.out]; go_num⟩
            case measure => simp [intOf]; omega
          | false =>
            have Hy := Lib.hid (cntP_no (xs := stA rs) (p := fun x => x == s) (k := k) ht)
            go_wp2
            go_round
            case rel => exact ⟨k + 1, by omega, by go_num, by rw [Hy.out]⟩
            case measure => simp [intOf]; omega
        · have Hk2 := Lib.hid (show k = (stA rs).length by omega)
          go_wp2
          go_ret2
          exact ⟨by rw [← Hk2.out]; rfl, bb2⟩


end Go.Proofs.Ytoapidcbmlnjcaa
