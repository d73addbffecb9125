import Derived.Test.YtaapfapejekkfaaB4
import Derived.Maps.Own
import Derived.Maps.OwnSet
namespace Go.Proofs.Ytaapfapejekkfaa
open Go.RowKit Go.Maps
set_option linter.unusedVariables false
set_option linter.unusedSimpArgs false

/-- The set of the first k numbers for which p holds, as a map's datum. -/
def Rs (p : Int → Bool) : Nat → DataW Unit
  | 0 => .map []
  | k + 1 => if p (k : Int) then (Rs p k).put (.int .i64 (k : Int)) (.lit (.bool true)) else Rs p k
theorem Rs_yes {p : Int → Bool} {k : Nat} (h : p (k : Int) = true) : Rs p (k + 1) = (Rs p k).put (.int .i64 (k : Int)) (.lit (.bool true)) := by rw [Rs, if_pos h]
theorem Rs_no {p : Int → Bool} {k : Nat} (h : p (k : Int) = false) : Rs p (k + 1) = Rs p k := by rw [Rs, if_neg (by rw [h]; exact Bool.false_ne_true)]
theorem tidy_Rs (p : Int → Bool) (k : Nat) : Tidy (Rs p k) := by
  induction k with
  | zero => exact tidy_empty
  | succ k ih =>
    cases h : p (k : Int) with
    | true => rw [Rs_yes h]; exact ih.put (by trivial) _
    | false => rw [Rs_no h]; exact ih
/-- Whose keys they are. -/
def inB2 (p : Int → Bool) (k : Nat) (j : Int) : Bool := decide (0 ≤ j ∧ j < (k : Int)) && p j
theorem has_Rs (p : Int → Bool) (k : Nat) (j : Int) : has (Rs p k) (.int .i64 j) = inB2 p k j := by
  induction k with
  | zero => 
    have : ¬ (0 ≤ j ∧ j < ((0 : Nat) : Int)) := by omega
    simp only [inB2, this, decide_false, Bool.false_and]; rfl
  | succ k ih =>
    by_cases hj : j = (k : Int)
    · subst hj
      cases h : p (k : Int) with
      | true => rw [Rs_yes h, has_put_same (tidy_Rs p k).isMap (by trivial)]; simp [inB2, h]; omega
      | false => rw [Rs_no h, ih]; simp [inB2, h]
    · have hd : decide (0 ≤ j ∧ j < ((k + 1 : Nat) : Int)) = decide (0 ≤ j ∧ j < (k : Int)) := by apply decide_eq_decide.2; omega
      have hi : inB2 p (k + 1) j = inB2 p k j := by simp only [inB2, hd]
      rw [hi, ← ih]
      cases h : p (k : Int) with
      | true => rw [Rs_yes h, has_put_other (fun e => hj (by cases e; rfl))]
      | false => rw [Rs_no h]
theorem size_Rs (p : Int → Bool) (k : Nat) : Maps.size (Rs p k) = cntF p 0 k := by
  induction k with
  | zero => rfl
  | succ k ih =>
    have e : ((0 : Nat) : Int) + (k : Int) = (k : Int) := by omega
    cases h : p (k : Int) with
    | true =>
      rw [Rs_yes h, size_put (tidy_Rs p k), has_Rs, cntF_yes (by rw [e]; exact h), ih]
      have : inB2 p k (k : Int) = false := by simp [inB2]
      rw [this]; rfl
    | false => rw [Rs_no h, cntF_no (by rw [e]; exact h), ih]

theorem keyI : Keyed Try.prog 3 := int_keyed Try.underlying3
theorem map_below {w w' : World} {P : Program} {k : TypeId} {R : Value → Option (DataW Unit × List MemPlace)} {b n B : Nat} {D : DataW Unit} (h : w.ownsMap P k R b n D) (hb : Below B w w') (hB : w.heap.size ≤ B) : w'.ownsMap P k R b n D := by
  have hlt := h.lt
  obtain ⟨es, clock, hb0, F, hs, hD⟩ := h
  exact ⟨es, clock, (hb.block b (by omega)).trans hb0, F, hs, hD⟩
theorem wfN {k n : Nat} (h : k ≤ n) (hn : n ≤ 100000) : (Lit.int .i64 (k : Int)).wf = true := by
  have h2 : (k : Int) ≤ 100000 := by omega
  have h1 : IntKind.i64.min = -9223372036854775808 := by decide
  have h3 : IntKind.i64.max = 9223372036854775807 := by decide
  simp only [Lit.wf, Bool.and_eq_true, decide_eq_true_eq, h1, h3]
  omega

set_option maxRecDepth 100000 in
set_option maxHeartbeats 800000 in
theorem leftRests_c (A : Option Addr) (c m n : Nat) (rs : List (Int × Int)) (w : World) (hA : Rl w A rs) (hm : m = rs.length) (hg : goodL rs = true) (hn : n ≤ 100000) :
    Calls Try.prog 210 #[.slice A m c, .int .i64 (n : Int)] w fun en w' => en = .returned (.map (some w.heap.size)) ∧ w'.ownsMap Try.prog 3 (plainElem Try.prog 4) w.heap.size n (Rs (leftF rs) n) ∧ Below w.heap.size w w' := by
  have hmm := @run_makeMap Try.prog
  have Hm := Lib.hid hm
  have Hg := Lib.hid hg
  clear hm hg
  go_enter Try.func210, Try.ntmps210
  go_wp2
  go_loopw [9] (fun i wr => ∃ k : Nat, k ≤ n ∧ i = .int .i64 (k : Int) ∧ wr.ownsMap Try.prog 3 (plainElem Try.prog 4) w.heap.size k (Rs (leftF rs) k) ∧ Below w.heap.size w wr)
    (fun i _ => n - (intOf i).toNat)
  case atStart => exact ⟨0, Nat.zero_le _, rfl, World.ownsMap_made _ _ _ _, (Below.refl _ _).alloc (Nat.le_refl _) _⟩
  case round =>
    obtain ⟨k, hk, rfl, hown, hbel⟩ := hrel
    have hs := hbel.size
    have hR := hA.below hbel
    have hkey : keyOf Try.prog 3 (.int .i64 (k : Int)) = some (.int .i64 (k : Int)) := keyOf_int_mk Try.underlying3 (wfN hk hn)
    by_cases hlt : (k : Int) < (n : Int)
    · have hlt0 : k < n := by omega
      cases hl : leftF rs (k : Int) with
      | true =>
        have Hy := Lib.hid (Rs_yes hl)
        go_wp2_with fail
        refine (isLeft_c _ _ _ rs _ _ hR Hm.out Hg.out (by omega) (by omega)).mono ?_
        rintro e w1 ⟨rfl, b1⟩
        rw [hl]
        have hown0 := map_below hown b1 (Nat.le_refl _)
        go_wp2_with (first
          | (at_mapUpdate; refine wpList_mapUpdate_own _ rfl _ _ _ 136 rfl 3 4 keyI Try.underlying136 _ w.heap.size k _ rfl hown0 (by unfold maxLen; omega) _ _ _ rfl rfl hkey _ [] (plainElem_bool Try.underlying4 true) ?_; intro w2 hown2 hgrow2)
          | go_in)
        have hb2 : Below w.heap.size w w2 := (hbel.trans (b1.mono hs)).grown hgrow2 (Nat.le_trans hs b1.size) (fun j hj => by cases hj; exact Nat.le_refl _)
        go_roundw
        case rel => exact ⟨k + 1, by omega, by go_num, Hy.out.symm ▸ hown2, hb2⟩
        case measure => simp [intOf]; omega
      | false =>
        have Hy := Lib.hid (Rs_no hl)
        go_wp2_with fail
        refine (isLeft_c _ _ _ rs _ _ hR Hm.out Hg.out (by omega) (by omega)).mono ?_
        rintro e w1 ⟨rfl, b1⟩
        rw [hl]
        have hown0 := map_below hown b1 (Nat.le_refl _)
        go_wp2
        go_roundw
        case rel => exact ⟨k + 1, by omega, by go_num, Hy.out.symm ▸ (hown0.mono (Nat.le_succ _)), hbel.trans (b1.mono hs)⟩
        case measure => simp [intOf]; omega
    · have : k = n := by omega
      subst this
      go_wp2
      go_ret
      exact ⟨rfl, hown, hbel⟩

set_option maxRecDepth 100000 in
set_option maxHeartbeats 1000000 in
theorem impl_LeftInPeriod_c (w : World) (A : Option Addr) (m c : Nat) (rs : List (Int × Int)) (hA : Rl w A rs) (hm : m = rs.length) (hn : m ≤ 1048576) :
    Calls Try.prog 61 #[.slice A m c] w fun en w' => en = .returned (.tuple #[.int .i64 (lipV rs), .bool (perOk rs)]) ∧ Below w.heap.size w w' := by
  have Hm := Lib.hid hm
  clear hm
  cases hp : perOk rs with
  | false =>
    rw [lip_no hp]
    go_enter Try.func61, Try.ntmps61
    go_wp2_with fail
    refine (impl_PeriodOfRules_c _ _ _ _ rs hA Hm.out hn).mono ?_
    rintro e w1 ⟨rfl, b1⟩
    have hA_1 := hA.below b1
    go_wp2
    go_ret2
    exact ⟨rfl, b1⟩
  | true =>
    obtain ⟨hg, _, pl1, pl2⟩ := perOk_parts hp
    obtain ⟨P, hP⟩ : ∃ P : Nat, perF rs = (P : Int) := ⟨(perF rs).toNat, by omega⟩
    have hv : perV rs = (P : Int) := by rw [perV, hg, ← hP]; rfl
    have hl : lipV rs = (cntF (leftF rs) 0 P : Int) := by rw [lip_yes hp, hP]; rfl
    have hsz := size_Rs (leftF rs) P
    rw [hl]
    have Hg := Lib.hid hg
    have Hv := Lib.hid hv
    have Hs := Lib.hid hsz
    clear hsz
    have hP5 : P ≤ 100000 := by omega
    clear hg hv hl hP pl1 pl2
    have Hp := Lib.hid hp
    go_enter Try.func61, Try.ntmps61
    go_wp2_with fail
    refine (impl_PeriodOfRules_c _ _ _ _ rs hA Hm.out hn).mono ?_
    rintro e w1 ⟨rfl, b1⟩
    have hA_1 := hA.below b1
    rw [Hv.out]
    go_wp2_with fail
    refine (leftRests_c _ _ _ P rs _ hA_1 Hm.out Hg.out hP5).mono ?_
    rintro e w2 ⟨rfl, hown, b2⟩
    go_wp2_with (first
      | (at_len; refine wpList_len_own _ rfl _ 136 rfl 3 4 Try.underlying136 _ _ _ _ rfl hown ?_)
      | go_in)
    go_ret2
    exact ⟨by rw [Hs.out]; rfl, b1.trans (b2.mono b1.size)⟩

end Go.Proofs.Ytaapfapejekkfaa
