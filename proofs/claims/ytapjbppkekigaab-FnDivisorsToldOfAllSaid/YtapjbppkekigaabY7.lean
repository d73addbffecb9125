import Derived.Test.YtapjbppkekigaabY6
namespace Go.Proofs.Ytapjbppkekigaab
open Go.RowKit
set_option linter.unusedVariables false
set_option linter.unusedSimpArgs false

def tbOk (k m : Int) : Bool := inB k 0 6 && inB m 1 200
def tbA (k m : Int) : List Int := if tbOk k m then tbL k.toNat m.toNat else []
theorem tbA_no {k m : Int} (h : tbOk k m = false) : tbA k m = [] := by rw [tbA, h]; rfl
theorem tbA_yes {k m : Nat} (h : tbOk (k : Int) (m : Int) = true) : tbA (k : Int) (m : Int) = tbL k m := by rw [tbA, h, Int.toNat_natCast, Int.toNat_natCast]; rfl
theorem tbA_len (k m : Int) : (tbA k m).length ≤ 1048576 := by
  cases h : tbOk k m with
  | false => rw [tbA_no h]; exact Nat.zero_le _
  | true =>
    rw [tbA, h, if_pos rfl, tbL_len]
    rw [tbOk, Bool.and_eq_true] at h
    have := inB_true.1 h.2
    omega


theorem fold_nonneg : ∀ (l : List Int) (a : Int), 0 ≤ a → (∀ x ∈ l, 0 ≤ x) → 0 ≤ l.foldl (· + ·) a
  | [], a, h, _ => h
  | x :: l, a, h, hx => fold_nonneg l (a + x) (by have := hx x (List.mem_cons_self ..); omega) fun y hy => hx y (List.mem_cons_of_mem _ hy)
theorem dvS_ge {n : Nat} (hn : 1 ≤ n) : (n : Int) ≤ dvS n := by
  have e : dvD n = flF (dvP n) 1 (n - 1) ++ [(n : Int)] := by
    have h := flF_yes (p := dvP n) (a := 1) (k := n - 1) (by rw [show 1 + (n - 1) = n by omega, dvP, decide_eq_true_eq]; exact Nat.mod_self n)
    rw [show n - 1 + 1 = n by omega, show 1 + (n - 1) = n by omega] at h
    exact h
  have h2 : 0 ≤ (flF (dvP n) 1 (n - 1)).foldl (· + ·) (0 : Int) := fold_nonneg _ 0 (Int.le_refl _) fun x hx => by
    obtain ⟨i, _, _, rfl⟩ := mem_flF.1 hx
    omega
  rw [dvS, suK, List.take_length, e, List.foldl_append]
  show (n : Int) ≤ (flF (dvP n) 1 (n - 1)).foldl (· + ·) (0 : Int) + (n : Int)
  omega
/-- The sum step of a number, as a number. -/
def stN (n : Nat) : Nat := (dvS n - n).toNat
theorem stN_is {n : Nat} (hn : 1 ≤ n) : dvS n - (n : Int) = (stN n : Int) := by
  have := dvS_ge hn
  rw [stN]
  omega
def amB (n : Nat) : Bool := decide (stN n ≠ n ∧ stN n ≠ 0 ∧ stN (stN n) = n)
def amOk (n : Int) : Bool := dvOk n && amB n.toNat
def amV (n : Int) : Int := if amOk n then (stN n.toNat : Int) else 0
theorem amOk_no {n : Int} (h : dvOk n = false) : amOk n = false := by rw [amOk, h]; rfl
theorem amV_no {n : Int} (h : amOk n = false) : amV n = 0 := by rw [amV, h]; rfl
theorem amOk_yes {n : Nat} (h : dvOk (n : Int) = true) : amOk (n : Int) = amB n := by rw [amOk, h, Int.toNat_natCast]; rfl
theorem amV_yes {n : Nat} (h : amOk (n : Int) = true) : amV (n : Int) = (stN n : Int) := by rw [amV, h, Int.toNat_natCast]; rfl

set_option maxRecDepth 100000 in
set_option maxHeartbeats 1200000 in
theorem spec_AmicableOf_c (w : World) (n : Int) :
    Calls Try.prog 27 #[.int .i64 n] w fun en w' => en = .returned (.tuple #[.int .i64 (amV n), .bool (amOk n)]) ∧ Below w.heap.size w w' := by
  cases hg : inB n 1 1000000 with
  | false =>
    have ho : amOk n = false := amOk_no hg
    rw [amV_no ho, ho]
    clear ho
    go_enter Try.func27, Try.ntmps27
    go_wp2_with fail
    refine (dvGood_c _ _).mono ?_
    rintro e w1 ⟨rfl, rfl⟩
    go_wp2
    go_ret2
    exact ⟨rfl, (Below.refl _ _)⟩
  | true =>
    obtain ⟨n1, n2⟩ := inB_true.1 hg
    have ho : dvOk n = true := hg
    obtain ⟨N, rfl⟩ := Int.eq_ofNat_of_zero_le (Int.le_trans (by omega) n1)
    have N1 : 1 ≤ N := by omega
    have N9 : N ≤ 1000000 := by omega
    have HA := Lib.hid (amOk_yes ho)
    have hsm := dvS_small N1 N9
    have hst := stN_is N1
    have HV := Lib.hid (amV_yes (n := N))
    have HVn := Lib.hid (amV_no (n := (N : Int)))
    have HB : Hid (amB N = decide (stN N ≠ N ∧ stN N ≠ 0 ∧ stN (stN N) = N)) := Lib.hid rfl
    have Hc := Lib.hid (fun W => dvSum_c W N N1 (by omega))
    obtain ⟨S, hS⟩ : ∃ S, dvS N = S := ⟨_, rfl⟩
    rw [hS] at hsm hst Hc
    obtain ⟨m, hm⟩ : ∃ m, stN N = m := ⟨_, rfl⟩
    rw [hm] at hst HV HB
    obtain ⟨ok, hok⟩ : ∃ ok, amOk (N : Int) = ok := ⟨_, rfl⟩
    obtain ⟨vv, hvv⟩ : ∃ vv, amV (N : Int) = vv := ⟨_, rfl⟩
    rw [hok, hvv]
    rw [hvv] at HV HVn
    rw [hok] at HA HV HVn
    clear n1 n2 ho hS hm hok hvv
    have Hg := Lib.hid hg
    go_enter Try.func27, Try.ntmps27
    go_wp2_with fail
    refine (dvGood_c _ _).mono ?_
    rintro e w1 ⟨rfl, rfl⟩
    go_wp2_with fail
    refine (Hc.out _).mono ?_
    rintro e w5 ⟨rfl, b5⟩
    by_cases c1 : m = N
    · have e1 : ((m : Int) == (N : Int)) = true := by rw [beq_iff_eq]; omega
      have HO : Hid (ok = false) := by show _ = _; rw [HA.out, HB.out]; simp [c1]
      have HW := Lib.hid (HVn.out HO.out)
      clear c1
      go_wp2
      go_ret2
      exact ⟨by rw [HO.out, HW.out]; rfl, b5⟩
    · have e1 : ((m : Int) == (N : Int)) = false := beq_eq_false_iff_ne.2 (by omega)
      by_cases c2 : m = 0
      · have e2 : ((m : Int) == 0) = true := by rw [beq_iff_eq]; omega
        have HO : Hid (ok = false) := by show _ = _; rw [HA.out, HB.out]; simp [c2]
        have HW := Lib.hid (HVn.out HO.out)
        clear c1 c2
        go_wp2
        go_ret2
        exact ⟨by rw [HO.out, HW.out]; rfl, b5⟩
      · have e2 : ((m : Int) == 0) = false := beq_eq_false_iff_ne.2 (by omega)
        have m1 : 1 ≤ m := by omega
        have m9 : m ≤ 2000000000 := by omega
        have hst2 := stN_is m1
        have Hc2 := Lib.hid (fun W => dvSum_c W m m1 (by omega))
        have hsb : 0 ≤ dvS m ∧ dvS m ≤ 400000000000000 := by
          have hsl := dvS_le m1
          have hrt9 := sq_lt_of (rtF_parts m).1 (show m < 44722 * 44722 by omega)
          have hmm := Nat.mul_le_mul (show rtF m ≤ 44722 by omega) m9
          omega
        obtain ⟨S2, hS2⟩ : ∃ S2, dvS m = S2 := ⟨_, rfl⟩
        rw [hS2] at hst2 Hc2 hsb
        obtain ⟨m2, hm2⟩ : ∃ m2, stN m = m2 := ⟨_, rfl⟩
        rw [hm2] at hst2 HB
        clear hS2 hm2
        by_cases c3 : m2 = N
        · have e3 : ((m2 : Int) == (N : Int)) = true := by rw [beq_iff_eq]; omega
          have HO : Hid (ok = true) := by show _ = _; rw [HA.out, HB.out]; simp [c1, c2, c3]
          have HW := Lib.hid (HV.out HO.out)
          clear c1 c2 c3
          go_wp2_with fail
          refine (Hc2.out _).mono ?_
          rintro e w6 ⟨rfl, b6⟩
          go_wp2
          go_ret2
          exact ⟨by rw [HO.out, HW.out]; rfl, b5.trans (b6.mono b5.size)⟩
        · have e3 : ((m2 : Int) == (N : Int)) = false := beq_eq_false_iff_ne.2 (by omega)
          have HO : Hid (ok = false) := by show _ = _; rw [HA.out, HB.out]; simp [c3]
          have HW := Lib.hid (HVn.out HO.out)
          clear c1 c2 c3
          go_wp2_with fail
          refine (Hc2.out _).mono ?_
          rintro e w6 ⟨rfl, b6⟩
          go_wp2
          go_ret2
          exact ⟨by rw [HO.out, HW.out]; rfl, b5.trans (b6.mono b5.size)⟩

end Go.Proofs.Ytapjbppkekigaab
