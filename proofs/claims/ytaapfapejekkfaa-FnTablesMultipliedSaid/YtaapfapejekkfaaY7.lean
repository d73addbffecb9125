import Derived.Test.YtaapfapejekkfaaY6
namespace Go.Proofs.Ytaapfapejekkfaa
open Go.RowKit
set_option linter.unusedVariables false
set_option linter.unusedSimpArgs false

def tbOk (k m : Int) : Bool := inB k 0 6 && inB m 1 200
def tbA (k m : Int) : List Int := if tbOk k m then tbL k.toNat m.toNat else []
theorem tbA_no {k m : Int} (h : tbOk k m = false) : tbA k m = [] := by rw [tbA, h]; rfl
theorem tbA_yes {k m : Nat} (h : tbOk (k : Int) (m : Int) = true) : tbA (k : Int) (m : Int) = tbL k m := by rw [tbA, h, Int.toNat_natCast, Int.toNat_natCast]; rfl
theorem tbA_len (k m : Int) : (tbA k m).length ≤ 1048576 := by
  cases h : tbOk k m with
  | false => rw [tbA_no h]; exact Nat.zero_le _
  | true =>
    rw [tbA, h, if_pos rfl, tbL_len]
    rw [tbOk, Bool.and_eq_true] at h
    have := inB_true.1 h.2
    omega

set_option maxRecDepth 100000 in
set_option maxHeartbeats 800000 in
theorem spec_TableOf_c (w : World) (k m : Int) :
    Calls Try.prog 125 #[.int .i64 k, .int .i64 m] w fun en w' => (∃ v, en = .returned (.tuple #[v, .bool (tbOk k m)]) ∧ OwnI w' w.heap.size v (tbA k m)) ∧ Below w.heap.size w w' := by
  cases hg : inB k 0 6 with
  | false =>
    have ho : tbOk k m = false := by first | (simp [tbOk, *]; done) | (simp [tbOk, inB]; omega)
    rw [tbA_no ho, ho]
    clear ho
    go_enter Try.func125, Try.ntmps125
    go_wp2_with fail
    refine (l1In_c _ _ _ _).mono ?_
    rintro e w1 ⟨rfl, rfl⟩
    go_wp2
    go_ret2
    exact ⟨⟨_, rfl, OwnI.nil _ _⟩, (Below.refl _ _)⟩
  | true =>
    cases hh : inB m 1 200 with
    | false =>
      have ho : tbOk k m = false := by first | (simp [tbOk, *]; done) | (simp [tbOk, inB]; omega)
      rw [tbA_no ho, ho]
      clear ho
      go_enter Try.func125, Try.ntmps125
      go_wp2_with fail
      refine (l1In_c _ _ _ _).mono ?_
      rintro e w1 ⟨rfl, rfl⟩
      go_wp2_with fail
      refine (l1In_c _ _ _ _).mono ?_
      rintro e w2 ⟨rfl, rfl⟩
      go_wp2
      go_ret2
      exact ⟨⟨_, rfl, OwnI.nil _ _⟩, (Below.refl _ _)⟩
    | true =>
      have ho : tbOk k m = true := by rw [tbOk, hg, hh]; rfl
      obtain ⟨k1, k2⟩ := inB_true.1 hg
      obtain ⟨m1, m2⟩ := inB_true.1 hh
      obtain ⟨K, rfl⟩ := Int.eq_ofNat_of_zero_le k1
      obtain ⟨M, rfl⟩ := Int.eq_ofNat_of_zero_le (Int.le_trans (by omega) m1)
      rw [tbA_yes ho, ho]
      clear ho
      have Hg := Lib.hid hg
      have Hh := Lib.hid hh
      go_enter Try.func125, Try.ntmps125
      go_wp2_with fail
      refine (l1In_c _ _ _ _).mono ?_
      rintro e w1 ⟨rfl, rfl⟩
      go_wp2_with fail
      refine (l1In_c _ _ _ _).mono ?_
      rintro e w2 ⟨rfl, rfl⟩
      go_wp2_with fail
      refine (dvTable_c _ K M (by omega) (by omega)).mono ?_
      rintro e w3 ⟨⟨v3, rfl, o3⟩, b3⟩
      go_wp2
      go_ret2
      exact ⟨⟨_, rfl, o3⟩, b3⟩

theorem fold_nonneg : ∀ (l : List Int) (a : Int), 0 ≤ a → (∀ x ∈ l, 0 ≤ x) → 0 ≤ l.foldl (· + ·) a
  | [], a, h, _ => h
  | x :: l, a, h, hx => fold_nonneg l (a + x) (by have := hx x (List.mem_cons_self ..); omega) fun y hy => hx y (List.mem_cons_of_mem _ hy)
theorem dvS_ge {n : Nat} (hn : 1 ≤ n) : (n : Int) ≤ dvS n := by
  have e : dvD n = flF (dvP n) 1 (n - 1) ++ [(n : Int)] := by
    have h := flF_yes (p := dvP n) (a := 1) (k := n - 1) (by rw [show 1 + (n - 1) = n by omega, dvP, decide_eq_true_eq]; exact Nat.mod_self n)
    rw [show n - 1 + 1 = n by omega, show 1 + (n - 1) = n by omega] at h
    exact h
  have h2 : 0 ≤ (flF (dvP n) 1 (n - 1)).foldl (· + ·) (0 : Int) := fold_nonneg _ 0 (Int.le_refl _) fun x hx => by
    obtain ⟨i, _, _, rfl⟩ := mem_flF.1 hx
    omega
  rw [dvS, suK, List.take_length, e, List.foldl_append]
  show (n : Int) ≤ (flF (dvP n) 1 (n - 1)).foldl (· + ·) (0 : Int) + (n : Int)
  omega
/-- The sum step of a number, as a number. -/
def stN (n : Nat) : Nat := (dvS n - n).toNat
theorem stN_is {n : Nat} (hn : 1 ≤ n) : dvS n - (n : Int) = (stN n : Int) := by
  have := dvS_ge hn
  rw [stN]
  omega
def amB (n : Nat) : Bool := decide (stN n ≠ n ∧ stN n ≠ 0 ∧ stN (stN n) = n)
def amOk (n : Int) : Bool := dvOk n && amB n.toNat
def amV (n : Int) : Int := if amOk n then (stN n.toNat : Int) else 0
theorem amOk_no {n : Int} (h : dvOk n = false) : amOk n = false := by rw [amOk, h]; rfl
theorem amV_no {n : Int} (h : amOk n = false) : amV n = 0 := by rw [amV, h]; rfl
theorem amOk_yes {n : Nat} (h : dvOk (n : Int) = true) : amOk (n : Int) = amB n := by rw [amOk, h, Int.toNat_natCast]; rfl
theorem amV_yes {n : Nat} (h : amOk (n : Int) = true) : amV (n : Int) = (stN n : Int) := by rw [amV, h, Int.toNat_natCast]; rfl


end Go.Proofs.Ytaapfapejekkfaa
