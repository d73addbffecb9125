import Derived.Test.YtbgoimhgmgldpaaRG
import Derived.Test.YtbgoimhgmgldpaaRH
import Derived.Test.YtbgoimhgmgldpaaR6
import Derived.Laws.Bits64b
namespace Go.Proofs.Ytbgoimhgmgldpaa
open Go.RowKit
set_option linter.unusedVariables false
set_option linter.unusedSimpArgs false

theorem wrap_pow {n : Nat} (hn : n ≤ 48) : IntKind.u64.wrap ((2 : Int) ^ n) = ((2 ^ n : Nat) : Int) := by
  have h : 2 ^ n < 18446744073709551616 := Nat.lt_of_le_of_lt (Nat.pow_le_pow_right (by decide) hn) (by decide)
  have e : ((2 : Int) ^ n) = ((2 ^ n : Nat) : Int) := (Int.natCast_pow 2 n).symm
  rw [e]
  rw [IntKind.wrap_u64]
  exact Int.emod_eq_of_lt (Int.natCast_nonneg _) (Int.ofNat_lt.2 h)
set_option maxRecDepth 100000 in
set_option maxHeartbeats 400000 in
theorem with_c (S n : Nat) (w : World) (hS : S < 18446744073709551616) (hn : n ≤ 48) :
    Calls Try.prog 105 #[.int .u64 (S : Int), .int .i64 (n : Int)] w fun en w' => en = .returned (.int .u64 ((S ||| 2 ^ n : Nat) : Int)) ∧ w = w' := by
  have hn0 : ¬ (n : Int) < 0 := by omega
  have hw := wrap_pow hn
  have h2 : 2 ^ n < 18446744073709551616 := Nat.lt_of_le_of_lt (Nat.pow_le_pow_right (by decide) hn) (by decide)
  have ho := bits_or_u64_nat S (2 ^ n) hS h2
  rw [← ho, ← hw]
  clear ho hw h2
  go_enter Try.func105, Try.ntmps105
  go_wp2
  go_ret
  exact ⟨rfl, rfl⟩
theorem setN_yes {p : Nat → Bool} {k : Nat} (h : p k = true) : setN p (k + 1) = setN p k ||| 2 ^ (k + 1) := by rw [setN, if_pos h]
theorem setN_no {p : Nat → Bool} {k : Nat} (h : p k = false) : setN p (k + 1) = setN p k := by rw [setN, if_neg (by rw [h]; decide)]
set_option maxRecDepth 100000 in
set_option maxHeartbeats 800000 in
theorem setOfSign_c (s : ByteArray) (g : Nat) (w : World) (hs : s.size ≤ 48) :
    Calls Try.prog 92 #[.string s, .int .u8 (g : Int)] w fun en w' => en = .returned (.int .u64 (sgN s g : Int)) ∧ w = w' := by
  go_enter Try.func92, Try.ntmps92
  go_wp2
  go_loop [5, 9] (fun v i => ∃ k : Nat, k ≤ s.size ∧ i = .int .i64 (k : Int) ∧ v = .int .u64 (setN (fun i => byN s i == g) k : Int)) (fun _ i => s.size - (intOf i).toNat)
  case atStart => exact ⟨0, Nat.zero_le _, rfl, rfl⟩
  case round =>
    obtain ⟨k, hk, rfl, rfl⟩ := hrel
    by_cases hlt : k < s.size
    · have hki : (k : Int) < (s.size : Int) := by omega
      have hk0 : (0 : Int) ≤ (k : Int) := Int.natCast_nonneg k
      have hby := byN_at hlt
      have Hk1 := Lib.hid (show (k : Int) + 1 = ((k + 1 : Nat) : Int) by omega)
      have Hw := Lib.hid (fun W => with_c (setN (fun i => byN s i == g) k) (k + 1) W (setN_lt64 _ (by omega)) (by omega))
      have Hy := Lib.hid (fun h => setN_yes (p := fun i => byN s i == g) (k := k) h)
      have Hn := Lib.hid (fun h => setN_no (p := fun i => byN s i == g) (k := k) h)
      obtain ⟨X, hX⟩ : ∃ X, setN (fun i => byN s i == g) k = X := ⟨_, rfl⟩
      rw [hX] at Hw Hy Hn ⊢
      clear hX
      obtain ⟨b, hb⟩ : ∃ b, byN s k = b := ⟨_, rfl⟩
      rw [hb] at hby Hy Hn
      clear hb
      by_cases h1 : b = g
      · subst h1
        have HY := Lib.hid (Hy.out (beq_self_eq_true b))
        clear Hy Hn
        go_wp2_with fail
        rw [Hk1.out]
        refine (Hw.out _).mono ?_
        rintro e w2 ⟨rfl, rfl⟩
        go_wp2
        go_round
        case rel => exact ⟨k + 1, by omega, by go_num, by rw [HY.out]⟩
        case measure => simp [intOf]; omega
      · have hb1 : ((b : Int) == (g : Int)) = false := beq_eq_false_iff_ne.2 (by omega)
        have HN := Lib.hid (Hn.out (beq_eq_false_iff_ne.2 h1))
        clear Hy Hn
        go_wp2
        go_round
        case rel => exact ⟨k + 1, by omega, by go_num, by rw [HN.out]⟩
        case measure => simp [intOf]; omega
    · have Hk := Lib.hid (show k = s.size by omega)
      have hki : ¬ (k : Int) < (s.size : Int) := by omega
      go_wp2
      go_ret
      exact ⟨by rw [Hk.out]; rfl, rfl⟩
set_option maxRecDepth 100000 in
set_option maxHeartbeats 800000 in
theorem setCrossed_c (e r : Int) (m : Nat) (w : World) (hm : m ≤ 48) (h2 : 2 ≤ e) (h60 : e ≤ 60) :
    Calls Try.prog 93 #[.agg #[.int .i64 e, .int .i64 r], .int .i64 (m : Int)] w fun en w' => en = .returned (.int .u64 (crsN e r m : Int)) ∧ Below w.heap.size w w' := by
  have hb0 : Below w.heap.size w (w.alloc (.cells #[.int .i64 e, .int .i64 r] 53)) := (Below.refl _ _).alloc (Nat.le_refl _) _
  have hc0 : (w.alloc (.cells #[.int .i64 e, .int .i64 r] 53)).cell? ⟨w.heap.size, 0, none⟩ = some (.int .i64 e) := by simp
  have hc1 : (w.alloc (.cells #[.int .i64 e, .int .i64 r] 53)).cell? ⟨w.heap.size, 1, none⟩ = some (.int .i64 r) := by simp
  have hsz : w.heap.size < (w.alloc (.cells #[.int .i64 e, .int .i64 r] 53)).heap.size := by simp
  go_enter Try.func93, Try.ntmps93
  go_wp2_with fail
  obtain ⟨W0, hW0⟩ : ∃ W, w.alloc (.cells #[.int .i64 e, .int .i64 r] 53) = W := ⟨_, rfl⟩
  rw [hW0] at hb0 hc0 hc1 hsz ⊢
  clear hW0
  have C0 := Lib.hid hc0
  have C1 := Lib.hid hc1
  have Hsz := Lib.hid hsz
  clear hc0 hc1 hsz
  go_loopw [5, 6] (fun v i wr => ∃ k : Nat, k ≤ m ∧ i = .int .i64 ((k : Int) + 1) ∧ v = .int .u64 (setN (fun i : Nat => decide (restF ((i : Int) + 1) e = r)) k : Int) ∧ Below W0.heap.size W0 wr) (fun _ i _ => m + 2 - (intOf i).toNat)
  case atStart => exact ⟨0, Nat.zero_le _, rfl, rfl, Below.refl _ _⟩
  case round =>
    obtain ⟨k, hk, rfl, rfl, hbel⟩ := hrel
    have hc0 := (hbel.cell (p := ⟨w.heap.size, 0, none⟩) Hsz.out).trans C0.out
    have hc1 := (hbel.cell (p := ⟨w.heap.size, 1, none⟩) Hsz.out).trans C1.out
    have hs := hbel.size
    by_cases hlt : k < m
    · have hki : (k : Int) + 1 ≤ (m : Int) := by omega
      have Hk1 := Lib.hid (show (k : Int) + 1 = ((k + 1 : Nat) : Int) by omega)
      have Hw := Lib.hid (fun W => with_c (setN (fun i : Nat => decide (restF ((i : Int) + 1) e = r)) k) (k + 1) W (setN_lt64 _ (by omega)) (by omega))
      have Hy := Lib.hid (fun h => setN_yes (p := fun i : Nat => decide (restF ((i : Int) + 1) e = r)) (k := k) h)
      have Hn := Lib.hid (fun h => setN_no (p := fun i : Nat => decide (restF ((i : Int) + 1) e = r)) (k := k) h)
      have Hc := fun W => crosses_c e r ((k : Int) + 1) W (by omega) (by omega) h2 h60
      obtain ⟨X, hX⟩ : ∃ X, setN (fun i : Nat => decide (restF ((i : Int) + 1) e = r)) k = X := ⟨_, rfl⟩
      rw [hX] at Hw Hy Hn ⊢
      clear hX
      cases hq : crossF e r ((k : Int) + 1) with
      | true =>
        rw [hq] at Hc
        have HC := Lib.hid Hc
        have HY := Lib.hid (Hy.out hq)
        clear Hy Hn Hc hq
        go_wp2_with fail
        refine (HC.out _).mono ?_
        rintro e w2 ⟨rfl, b2⟩
        go_wp2_with fail
        rw [Hk1.out]
        refine (Hw.out _).mono ?_
        rintro e w3 ⟨rfl, rfl⟩
        go_wp2
        go_roundw
        case rel => exact ⟨k + 1, by omega, by go_num, by rw [HY.out], hbel.trans (b2.mono hs)⟩
        case measure => simp [intOf]; omega
      | false =>
        rw [hq] at Hc
        have HC := Lib.hid Hc
        have HN := Lib.hid (Hn.out hq)
        clear Hy Hn Hc hq
        go_wp2_with fail
        refine (HC.out _).mono ?_
        rintro e w2 ⟨rfl, b2⟩
        go_wp2
        go_roundw
        case rel => exact ⟨k + 1, by omega, by go_num, by rw [HN.out], hbel.trans (b2.mono hs)⟩
        case measure => simp [intOf]; omega
    · have Hk := Lib.hid (show k = m by omega)
      have hki : ¬ (k : Int) + 1 ≤ (m : Int) := by omega
      go_wp2
      go_ret
      exact ⟨by rw [Hk.out]; rfl, hb0.trans (hbel.mono hb0.size)⟩
theorem fit_bits {s : ByteArray} {e r : Int} (hs : s.size ≤ 48) (h : fitB s e r = true) : bits .and .u64 (crsN e r s.size : Int) (sgN s 111 : Int) = 0 := by
  rw [bits_and_u64_nat _ _ (crsN_lt hs) (sgN_lt hs), fit_iff.2 h]; rfl
theorem unfit_bits {s : ByteArray} {e r : Int} (hs : s.size ≤ 48) (h : fitB s e r = false) : ∃ V : Nat, bits .and .u64 (crsN e r s.size : Int) (sgN s 111 : Int) = (V : Int) ∧ V ≠ 0 := by
  refine ⟨_, bits_and_u64_nat _ _ (crsN_lt hs) (sgN_lt hs), fun h0 => ?_⟩
  rw [fit_iff.1 h0] at h
  exact Bool.noConfusion h
set_option maxRecDepth 100000 in
set_option maxHeartbeats 1200000 in
theorem rulesThatFit_c (w : World) (s : ByteArray) (hp : patB s = true) :
    Calls Try.prog 68 #[.string s] w fun en w' => (∃ v, en = .returned v ∧ OwnR w' w.heap.size v (fitL s)) ∧ Below w.heap.size w w' := by
  have h48 := (patB_parts hp).2.1
  have H48 := Lib.hid h48
  clear hp h48
  go_enter Try.func68, Try.ntmps68
  go_wp2_with fail
  refine (setOfSign_c s 111 _ H48.out).mono ?_
  rintro e w0 ⟨rfl, rfl⟩
  go_wp2
  go_loopw [4, 5] (fun v i wr => ∃ n : Nat, n ≤ 9 ∧ i = .int .i64 ((n : Int) + 2) ∧ OwnR wr w.heap.size v (ftA s n) ∧ Below w.heap.size w wr) (fun _ i _ => 14 - (intOf i).toNat)
  case atStart => exact ⟨0, Nat.zero_le _, rfl, World.ownsRow_nil _ _ _ _, Below.refl _ _⟩
  case round =>
    obtain ⟨n, hn, rfl, hown, hbel⟩ := hrel
    have Hown := Lib.hid hown
    have Hbel := Lib.hid hbel
    have hal := ftA_len s n hn
    clear hown hbel
    by_cases hlt : n < 9
    · have hn10 : (n : Int) + 2 ≤ 10 := by omega
      go_wp2_with fail
      go_loopw [4, 15] (fun v i wr => ∃ k : Nat, k ≤ n + 2 ∧ i = .int .i64 (k : Int) ∧ OwnR wr w.heap.size v (ftA s n ++ ftE s (n + 2) k) ∧ Below w.heap.size w wr) (fun _ i _ => n + 3 - (intOf i).toNat)
      case atStart => exact ⟨0, Nat.zero_le _, rfl, by rw [show ftE s (n + 2) 0 = [] from rfl, List.append_nil]; exact Hown.out, Hbel.out⟩
      case round =>
        clear Hown Hbel
        obtain ⟨k, hk, rfl, hown, hbel⟩ := hrel
        have Hown := Lib.hid hown
        have hs := hbel.size
        have hel := ftE_len s (n + 2) k
        clear hown
        by_cases hin : k < n + 2
        · have hkn : (k : Int) < (n : Int) + 2 := by omega
          have Hl := Lib.hid (show (ftA s n ++ ftE s (n + 2) k).length ≤ 1000 by rw [List.length_append]; omega)
          have Hc := Lib.hid (fun W => setCrossed_c ((n : Int) + 2) (k : Int) s.size W H48.out (by omega) (by omega))
          have hd0 : ∀ o : Obj, Below w.heap.size w (wr.alloc o) := fun o => hbel.alloc hs o
          have Hd0 := Lib.hid hd0
          have Ho : Hid (∀ o : Obj, OwnR (wr.alloc o) w.heap.size _ (ftA s n ++ ftE s (n + 2) k)) := fun o => World.ownsRow.alloc Hown.out o
          have hcx0 : ((wr.alloc (.cells #[.int .i64 ((n : Int) + 2), .int .i64 (k : Int)] 53)).cell? ⟨wr.heap.size, 0, none⟩) = some (.int .i64 ((n : Int) + 2)) := by simp
          have hcx1 : ((wr.alloc (.cells #[.int .i64 ((n : Int) + 2), .int .i64 (k : Int)] 53)).cell? ⟨wr.heap.size, 1, none⟩) = some (.int .i64 (k : Int)) := by simp
          have Hcx0 := Lib.hid hcx0
          have Hcx1 := Lib.hid hcx1
          have Hszn : Hid (wr.heap.size < (wr.alloc (.cells #[.int .i64 ((n : Int) + 2), .int .i64 (k : Int)] 53)).heap.size) := by show _ < _; simp
          have hec : (((n + 2 : Nat)) : Int) = (n : Int) + 2 := by omega
          cases hf : fitB s ((n : Int) + 2) (k : Int) with
          | true =>
            have Hy := Lib.hid (ftE_yes (s := s) (e := n + 2) (k := k) (by rw [hec]; exact hf))
            rw [hec] at Hy
            have hz := fit_bits H48.out hf
            clear hf hcx0 hcx1 hd0
            go_wp2_with fail
            refine (Hc.out _).mono ?_
            rintro e w1 ⟨rfl, b1⟩
            have hc0 := (b1.cell (p := ⟨wr.heap.size, 0, none⟩) Hszn.out).trans Hcx0.out
            have hc1 := (b1.cell (p := ⟨wr.heap.size, 1, none⟩) Hszn.out).trans Hcx1.out
            have hb1 := (Hd0.out _).trans (b1.mono (Hd0.out _).size)
            have Ho1 := Lib.hid (show OwnR w1 w.heap.size _ (ftA s n ++ ftE s (n + 2) k) from own_below (Ho.out _) b1)
            have hs1 := hb1.size
            go_wp2_with (at_builtin; refine wp_app_rule _ rfl _ _ rfl w.heap.size _ _ rfl Ho1.out _ _ rfl (by have := Hl.out; omega) hs1 ?_; intro v' w2 hown2 b2)
            go_roundw
            case rel => exact ⟨k + 1, by omega, by go_num, by rw [Hy.out, ← List.append_assoc]; exact hown2, hb1.trans b2⟩
            case measure => simp [intOf]; omega
          | false =>
            have Hy := Lib.hid (ftE_no (s := s) (e := n + 2) (k := k) (by rw [hec]; exact hf))
            obtain ⟨V, hz, hV⟩ := unfit_bits H48.out hf
            have hVi : ((V : Int) == 0) = false := beq_eq_false_iff_ne.2 (by omega)
            clear hf hcx0 hcx1 hd0 hV
            go_wp2_with fail
            refine (Hc.out _).mono ?_
            rintro e w1 ⟨rfl, b1⟩
            have hb1 := (Hd0.out _).trans (b1.mono (Hd0.out _).size)
            have Ho1 := Lib.hid (show OwnR w1 w.heap.size _ (ftA s n ++ ftE s (n + 2) k) from own_below (Ho.out _) b1)
            go_wp2
            go_roundw
            case rel => exact ⟨k + 1, by omega, by go_num, by rw [Hy.out]; exact Ho1.out, hb1⟩
            case measure => simp [intOf]; omega
        · have Hk := Lib.hid (show k = n + 2 by omega)
          go_wp2
          go_roundw
          case rel => exact ⟨n + 1, by omega, by go_num, by have h := Hown.out; rw [Hk.out] at h; rw [ftA]; exact h, hbel⟩
          case measure => simp [intOf]; omega
    · have Hn := Lib.hid (show n = 9 by omega)
      go_wp2
      go_ret
      exact ⟨⟨_, rfl, by rw [fitL, ← Hn.out]; exact Hown.out⟩, Hbel.out⟩
set_option maxRecDepth 100000 in
set_option maxHeartbeats 400000 in
theorem impl_RulesThatFit_c (w : World) (s : ByteArray) (n : Int) (hs : (s.size : Int) ≤ 1000000000) :
    Calls Try.prog 27 #[.agg #[.string s, .int .i64 n]] w fun en w' => (∃ v, en = .returned (.tuple #[v, .bool (pzB s n)]) ∧ OwnR w' w.heap.size v (rtV s n)) ∧ Below w.heap.size w w' := by
  have Hg := Lib.hid (fun W => impl_IsPuzzle_c W s n hs)
  have b0 : ∀ o : Obj, Below w.heap.size w (w.alloc o) := fun o => (Below.refl _ _).alloc (Nat.le_refl _) o
  have hc0 : (w.alloc (.cells #[.string s, .int .i64 n] 26)).cell? ⟨w.heap.size, 0, none⟩ = some (.string s) := by simp
  have hsz : w.heap.size < (w.alloc (.cells #[.string s, .int .i64 n] 26)).heap.size := by simp
  have B0 := Lib.hid b0
  have Hc0 := Lib.hid hc0
  have Hsz := Lib.hid hsz
  clear b0 hc0 hsz
  cases hg : pzB s n with
  | false =>
    rw [rtV_no hg]
    rw [hg] at Hg
    clear hg
    go_enter Try.func27, Try.ntmps27
    go_wp2_with fail
    refine (Hg.out _).mono ?_
    rintro e w2 ⟨rfl, b2⟩
    have hb2 := (B0.out _).trans (b2.mono (B0.out _).size)
    go_wp2
    go_ret2
    exact ⟨⟨_, rfl, World.ownsRow_nil _ _ _ _⟩, hb2⟩
  | true =>
    have Hf := Lib.hid (fun W => rulesThatFit_c W s (pzB_pat hg))
    rw [rtV_yes hg]
    rw [hg] at Hg
    clear hg
    go_enter Try.func27, Try.ntmps27
    go_wp2_with fail
    refine (Hg.out _).mono ?_
    rintro e w2 ⟨rfl, b2⟩
    have hb2 := (B0.out _).trans (b2.mono (B0.out _).size)
    have hc2 := (b2.cell (p := ⟨w.heap.size, 0, none⟩) Hsz.out).trans Hc0.out
    go_wp2_with fail
    refine (Hf.out _).mono ?_
    rintro e w3 ⟨⟨v, rfl, o3⟩, b3⟩
    have O3 : Hid (OwnR w3 w.heap.size v (fitL s)) := OwnR.mono o3 hb2.size
    clear o3
    go_wp2
    go_ret2
    exact ⟨⟨_, rfl, O3.out⟩, hb2.trans (b3.mono hb2.size)⟩

end Go.Proofs.Ytbgoimhgmgldpaa
