import Derived.Test.YtapjbppkekigaabGA
import Derived.Test.YtapjbppkekigaabK1
namespace Go.Proofs.Ytapjbppkekigaab
open Go.RowKit
set_option linter.unusedVariables false
set_option linter.unusedSimpArgs false

/-- The factors as lists of two numbers. -/
def flL (n : Nat) : List (List Int) := (facs n).map fun x => [(x.1 : Int), (x.2 : Int)]
theorem flL_yes {n : Nat} (h : 2 ≤ n) : flL n = [(leastF n : Int), (strK (leastF n) n : Int)] :: flL (strR (leastF n) n) := by rw [flL, facs_yes h]; rfl
theorem flL_no {n : Nat} (h : ¬ 2 ≤ n) : flL n = [] := by rw [flL, facs_no h]; rfl
theorem facs_len : ∀ (n : Nat), 1 ≤ n → 2 ^ (facs n).length ≤ n := by
  intro n
  induction n using Nat.strongRecOn with
  | ind n ih =>
    intro h1
    by_cases hn : 2 ≤ n
    · have hp := leastF_ge hn
      have hd := leastF_dvd n
      obtain ⟨f1, f2, f3, f4⟩ := str_facts hp n (by omega)
      have hk := str_pos hp (by omega) hd
      have h2 := ih _ (str_lt hp (by omega) hd) f1
      rw [facs_yes hn, List.length_cons, Nat.pow_succ]
      have h3 : 2 ≤ leastF n ^ strK (leastF n) n := by
        have := Nat.pow_le_pow_right (show 0 < leastF n by omega) hk
        rw [Nat.pow_one] at this
        omega
      have h4 := Nat.mul_le_mul h3 h2
      rw [← f4] at h4
      omega
    · rw [facs_no hn]
      exact h1
theorem facs_len30 {n : Nat} (h1 : 1 ≤ n) (h : n ≤ 1000000000) : (facs n).length ≤ 29 := by
  have h2 := facs_len n h1
  rcases Nat.lt_or_ge (facs n).length 30 with h3 | h3
  · omega
  · have := Nat.pow_le_pow_right (show 0 < 2 by omega) h3
    omega
theorem flL_len {n : Nat} (h1 : 1 ≤ n) (h : n ≤ 1000000000) : (flL n).length ≤ 29 := by rw [flL, List.length_map]; exact facs_len30 h1 h
theorem flL_get {n i : Nat} (h : i < (facs n).length) : psL (flL n) i = [((facs n)[i].1 : Int), ((facs n)[i].2 : Int)] := by
  simp [psL, flL, h]
theorem flL_sum (n : Nat) : ∀ i, i ≤ (flL n).length → sumL (flL n) i = 2 * i
  | 0, _ => rfl
  | i + 1, h => by
    rw [sumL_succ (by omega), flL_sum n i (by omega), flL_get (by rw [flL, List.length_map] at h; omega)]
    rfl

/-- A literal of two ints. -/
theorem own_two (w : World) (B : Nat) (hB : B ≤ w.heap.size) (x y : Int) : OwnI (w.alloc (.cells #[.int .i64 x, .int .i64 y] 3)) B (.slice (some ⟨w.heap.size, 0, none⟩) 2 2) [x, y] :=
  OwnI.mono (World.ownsRow_lit w #[.int .i64 x, .int .i64 y] 2 (Nat.le_refl _) (by unfold maxLen; omega) rfl : (w.alloc (.cells #[.int .i64 x, .int .i64 y] 3)).ownsRow w.heap.size 3 1 _ 2 _) hB

set_option maxRecDepth 100000 in
set_option maxHeartbeats 1000000 in
theorem prFactors_c (w : World) (N : Nat) (h1 : 1 ≤ N) (h9 : N ≤ 1000000000) :
    Calls Try.prog 50 #[.int .i64 (N : Int)] w fun en w' => (∃ v, en = .returned v ∧ OwnLL w' w.heap.size v (flL N)) ∧ Below w.heap.size w w' := by
  obtain ⟨T, hT⟩ : ∃ T, flL N = T := ⟨_, rfl⟩
  have hTl := flL_len h1 h9
  rw [hT] at hTl ⊢
  have HT := Lib.hid hT
  clear hT
  go_enter Try.func50, Try.ntmps50
  go_wp2
  go_loopw [0, 3] (fun i v wr => ∃ (m : Nat) (L : List (List Int)), i = .int .i64 (m : Int) ∧ 1 ≤ m ∧ m ≤ N ∧ T = L ++ flL m ∧ OwnLL wr w.heap.size v L ∧ Below w.heap.size w wr) (fun i _ _ => (intOf i).toNat)
  case atStart => exact ⟨N, [], rfl, h1, Nat.le_refl _, by rw [← HT.out]; rfl, OwnLL.nil _ _, Below.refl _ _⟩
  case round =>
    rename_i v
    obtain ⟨m, L, rfl, m1, m2, hTL, hown, hbel⟩ := hrel
    have HTL := Lib.hid hTL
    have Hown := Lib.hid hown
    have hLl : L.length ≤ 29 := by rw [hTL, List.length_append] at hTl; omega
    clear hTL hown
    have hs := hbel.size
    by_cases hm : 2 ≤ m
    · have hp := leastF_ge hm
      have hd := leastF_dvd m
      have hle := leastF_le m
      have hRl := str_lt hp (by omega) hd
      obtain ⟨f1, f2, f3, -⟩ := str_facts hp m (by omega)
      have hKl : strK (leastF m) m ≤ m := (facs_lt m m1 _ (by rw [facs_yes hm]; exact List.mem_cons_self ..)).2.2.2.2
      have Hy := Lib.hid (flL_yes hm)
      obtain ⟨p, hp0⟩ : ∃ p, leastF m = p := ⟨_, rfl⟩
      obtain ⟨K, hK0⟩ : ∃ K, strK (leastF m) m = K := ⟨_, rfl⟩
      obtain ⟨R, hR0⟩ : ∃ R, strR (leastF m) m = R := ⟨_, rfl⟩
      have Hy2 : Hid (flL m = [(p : Int), (K : Int)] :: flL R) := by show _ = _; rw [Hy.out, hK0, hR0, hp0]
      rw [hK0] at hKl
      rw [hR0] at hRl f1 f2 f3
      rw [hp0] at hp hd hle f3 hK0 hR0
      have HK := Lib.hid hK0
      have HR := Lib.hid hR0
      have HP : Hid ((leastF (m : Int).toNat : Int) = (p : Int)) := by show _ = _; rw [Int.toNat_natCast, hp0]
      have Hf3 := Lib.hid f3
      have hm1 : (1 : Int) < (m : Int) := by omega
      have Hm := Lib.hid hm
      have HKl := Lib.hid hKl
      have HRl := Lib.hid hRl
      clear Hy hp0 hK0 hR0 hd f3 hm hKl hRl
      go_wp2_with fail
      refine (prLeast_c _ _ (by omega) (by omega)).mono ?_
      rw [HP.out]
      rintro e w1 ⟨rfl, rfl⟩
      have hz : ((p : Int) == 0) = false := beq_eq_false_iff_ne.2 (by omega)
      go_wp2_with fail
      go_loop [0, 5] (fun i q => ∃ (x j : Nat), i = .int .i64 (x : Int) ∧ q = .int .i64 (j : Int) ∧ 1 ≤ x ∧ x ≤ m ∧ strK p x + j = K ∧ strR p x = R) (fun i _ => (intOf i).toNat)
      case atStart => exact ⟨m, 0, rfl, rfl, m1, Nat.le_refl _, HK.out, HR.out⟩
      case round =>
        obtain ⟨x, j, rfl, rfl, x1, x2, hk, hr⟩ := hrel
        by_cases hx : x % p = 0
        · obtain ⟨e1, e2⟩ := str_yes hp x1 hx
          have hlt := div_lt_of hp x1
          have hps := div_pos_of hp x1 hx
          have hjK : j + 1 ≤ K := by omega
          have hj9 : (j : Int) ≤ 1000000000 := by have := HKl.out; omega
          have Hk := Lib.hid (show strK p (x / p) + (j + 1) = K by omega)
          have Hr := Lib.hid (e2.symm.trans hr)
          have hm2 : ((x : Int) % (p : Int) == 0) = true := by rw [← Int.natCast_emod, hx]; rfl
          have hq0 : 0 ≤ (x : Int) / (p : Int) := Int.ediv_nonneg (by omega) (by omega)
          have hq1 : (x : Int) / (p : Int) ≤ (x : Int) := Int.ediv_le_self _ (by omega)
          have Hq : Hid ((x : Int) / (p : Int) = ((x / p : Nat) : Int)) := Int.natCast_ediv _ _ |>.symm
          have Hlt := Lib.hid hlt
          have Hps := Lib.hid hps
          clear hk hr hx e1 e2 hlt hps
          go_wp2_with fail
          go_round
          case rel => exact ⟨x / p, j + 1, by rw [Hq.out], by go_num, Hps.out, Nat.le_trans (Nat.le_of_lt Hlt.out) x2, Hk.out, Hr.out⟩
          case measure =>
            have := Hlt.out
            have := Hq.out
            simp only [intOf]
            simp
            omega
        · obtain ⟨e1, e2⟩ := str_no x1 hx
          have hjK : j = K := by omega
          have hxR : x = R := by omega
          subst hjK
          subst hxR
          have hm2 : ((x : Int) % (p : Int) == 0) = false := by rw [← Int.natCast_emod]; exact beq_eq_false_iff_ne.2 (by omega)
          clear hk hr hx e1 e2
          have ho2 := own_two wr w.heap.size hs (p : Int) (j : Int)
          have Ho2 := Lib.hid ho2
          clear ho2
          go_wp2_with (at_builtin; (refine wp_app_ll _ _ rfl _ _ rfl w.heap.size _ _ rfl wr Hown.out ((Below.refl _ _).alloc (Nat.le_refl _) _) _ Ho2.out (fun q hq => by simp [Value.ownBlock] at hq; omega) _ rfl (by simp) (by omega) (by simp; omega) ?_); intro v' w4 hown4 b4)
          go_roundw
          case rel => exact ⟨x, L ++ [[(p : Int), (j : Int)]], rfl, f1, by omega, by rw [HTL.out, Hy2.out, List.append_assoc]; rfl, hown4, (hbel.alloc hs _).trans b4⟩
          case measure => have := HRl.out; simp [intOf]; omega
    · have HTe : Hid (T = L) := by show _ = _; rw [HTL.out, flL_no hm, List.append_nil]
      go_wp2
      go_ret
      exact ⟨⟨_, rfl, by rw [HTe.out]; exact Hown.out⟩, hbel⟩

end Go.Proofs.Ytapjbppkekigaab
