import Derived.Test.YtkpililllihgcabZ3
import Derived.Test.YtkpililllihgcabU4
namespace Go.Proofs.Ytkpililllihgcab
open Go.RowKit
set_option linter.unusedVariables false
set_option linter.unusedSimpArgs false

theorem rtF_self (n : Nat) : rtF n ≤ n := by
  have h := (rtF_parts n).1
  rcases Nat.eq_zero_or_pos (rtF n) with e | e
  · omega
  · have := Nat.mul_le_mul e (Nat.le_refl (rtF n)); omega
set_option maxRecDepth 100000 in
set_option maxHeartbeats 400000 in
theorem rootOf1_c (W : World) (bp : Nat) (r n D : Nat) (hc : W.cell? ⟨bp, 0, none⟩ = some (.int .i64 (n : Int))) (hr : r ≤ 200000) (hD : (r + 1) * (r + 1) = D) :
    Calls Try.prog 78 #[.int .i64 (r : Int), .pointer (some ⟨bp, 0, none⟩)] W fun e w' => e = .returned (.bool (decide (n < D))) ∧ W = w' := by
  have hDi : ((r : Int) + 1) * ((r : Int) + 1) = (D : Int) := cast_sq hD
  have hD9 : D ≤ 40000400001 := by have := Nat.mul_le_mul (show r + 1 ≤ 200001 by omega) (show r + 1 ≤ 200001 by omega); omega
  clear hD
  go_enter Try.func78, Try.ntmps78
  go_wp2
  go_ret
  exact ⟨rfl, rfl⟩
set_option maxRecDepth 100000 in
set_option maxHeartbeats 800000 in
theorem searchRoot_c (w : World) (bp n : Nat) (h9 : n ≤ 200000) (hc : w.cell? ⟨bp, 0, none⟩ = some (.int .i64 (n : Int))) :
    Calls Try.prog 77 #[.int .i64 (n : Int), .func (.func 78) #[] #[.pointer (some ⟨bp, 0, none⟩)]] w fun e w' => e = .returned (.int .i64 (rtF n : Int)) ∧ w = w' := by
  have Hpt := Lib.hid (rtF_parts n)
  have Hmore := Lib.hid (fun k => rtF_more (n := n) (k := k))
  have hle := rtF_self n
  obtain ⟨R, hR⟩ : ∃ R, rtF n = R := ⟨_, rfl⟩
  rw [hR] at Hpt Hmore hle ⊢
  clear hR
  go_enter Try.func77, Try.ntmps77
  go_wp2
  go_loop [5, 6, 7] (fun i j _ => ∃ lo hi : Nat, i = .int .i64 (lo : Int) ∧ j = .int .i64 (hi : Int) ∧ lo ≤ R ∧ R ≤ hi ∧ hi ≤ n) (fun i j _ => (intOf j - intOf i).toNat)
  case atStart => exact ⟨0, n, rfl, rfl, Nat.zero_le _, hle, Nat.le_refl _⟩
  case round =>
    obtain ⟨lo, hi, rfl, rfl, h1, h2, h3⟩ := hrel
    by_cases hlt : lo < hi
    · obtain ⟨m, hm⟩ : ∃ m, (lo + hi) / 2 = m := ⟨_, rfl⟩
      have hmi : ((lo : Int) + (hi : Int)) / 2 = (m : Int) := by omega
      have hm1 : lo ≤ m := by omega
      have hm2 : m < hi := by omega
      obtain ⟨D, hD⟩ : ∃ D, (m + 1) * (m + 1) = D := ⟨_, rfl⟩
      have Hc := Lib.hid (fun W hc => rootOf1_c W bp m n D hc (by omega) hD)
      by_cases hn : n < D
      · have hRm : R ≤ m := by
          rcases Nat.lt_or_ge m R with h5 | h5
          · have h6 := Nat.mul_le_mul (show m + 1 ≤ R by omega) (show m + 1 ≤ R by omega)
            have := Hpt.out.1
            omega
          · exact h5
        have hd : (decide (n < D)) = true := decide_eq_true hn
        rw [hd] at Hc
        clear hd hn hm hD
        go_wp2_with fail
        refine (Hc.out _ hc).mono ?_
        rintro e w1 ⟨rfl, rfl⟩
        go_wp2
        go_round
        case rel => exact ⟨lo, m, rfl, rfl, h1, hRm, by omega⟩
        case measure => simp [intOf]; omega
      · have hRm : m + 1 ≤ R := Hmore.out m (by omega)
        have hd : (decide (n < D)) = false := decide_eq_false hn
        rw [hd] at Hc
        clear hd hn hm hD
        go_wp2_with fail
        refine (Hc.out _ hc).mono ?_
        rintro e w1 ⟨rfl, rfl⟩
        go_wp2
        go_round
        case rel => exact ⟨m + 1, hi, by go_num, rfl, hRm, h2, h3⟩
        case measure => simp [intOf]; omega
    · have Hk := Lib.hid (show lo = R by omega)
      go_wp2
      go_ret
      exact ⟨by rw [← Hk.out]; rfl, rfl⟩
set_option maxRecDepth 100000 in
set_option maxHeartbeats 400000 in
theorem rootOf_c (w : World) (n : Nat) (h9 : n ≤ 200000) :
    Calls Try.prog 75 #[.int .i64 (n : Int)] w fun e w' => e = .returned (.int .i64 (rtF n : Int)) ∧ Below w.heap.size w w' := by
  have hmf : ∀ (fn : Fn) (first cap : Array Value) (w : World), (Instr.makeFunc fn first cap).run Try.prog w = .ok (.func fn first cap) w := fun _ _ _ _ => rfl
  have B0 := Lib.hid (show Below w.heap.size w (w.alloc (.cells #[.int .i64 (n : Int)] 3)) from (Below.refl _ _).alloc (Nat.le_refl _) _)
  have Hc := Lib.hid (searchRoot_c (w.alloc (.cells #[.int .i64 (n : Int)] 3)) w.heap.size n h9 (by simp))
  obtain ⟨R, hR⟩ : ∃ R, rtF n = R := ⟨_, rfl⟩
  rw [hR] at Hc ⊢
  clear hR
  go_enter Try.func75, Try.ntmps75
  go_wp2_with fail
  refine Hc.out.mono ?_
  rintro e w1 ⟨rfl, rfl⟩
  go_wp2
  go_ret
  exact ⟨rfl, B0.out⟩

def chF (x : Int) : Int := if x % 4 = 1 then 1 else if x % 4 = 3 then -1 else 0
def foF (x : Int) : Int := if x % 4 = 0 then 0 else x
theorem ca2_su (n : Nat) : ∀ k, ca2 n k = 4 * suF chF (flF (dvP n) 1 k)
  | 0 => rfl
  | k + 1 => by
    rw [ca2, ca2_su n k]
    by_cases h : n % (k + 1) = 0
    · have hp : dvP n (1 + k) = true := by rw [Nat.add_comm, dvP, decide_eq_true_eq]; exact h
      rw [if_pos h, flF_yes hp, suF_snoc, Nat.add_comm 1 k, chF]
      split <;> split <;> (try split) <;> omega
    · have hp : dvP n (1 + k) = false := by rw [Nat.add_comm, dvP, decide_eq_false_iff_not]; exact h
      rw [if_neg h, flF_no hp]
      omega
theorem ca4_su (n : Nat) : ∀ k, (ca4 n k : Int) = 8 * suF foF (flF (dvP n) 1 k)
  | 0 => rfl
  | k + 1 => by
    have ih := ca4_su n k
    rw [ca4]
    by_cases h : n % (k + 1) = 0
    · have hp : dvP n (1 + k) = true := by rw [Nat.add_comm, dvP, decide_eq_true_eq]; exact h
      rw [flF_yes hp, suF_snoc, Nat.add_comm 1 k, foF]
      split <;> split <;> omega
    · have hp : dvP n (1 + k) = false := by rw [Nat.add_comm, dvP, decide_eq_false_iff_not]; exact h
      rw [if_neg (fun hh => h hh.1), flF_no hp]
      omega
theorem ca2_dvI {n : Nat} (hn : 1 ≤ n) : ca2 n n = 4 * suF chF (dvI n (rtF n)) := by rw [ca2_su, dvI_all hn]; rfl
theorem ca4_dvI {n : Nat} (hn : 1 ≤ n) : (ca4 n n : Int) = 8 * suF foF (dvI n (rtF n)) := by rw [ca4_su, dvI_all hn]; rfl
theorem chF_bound (x : Int) : -((1 : Nat) : Int) ≤ chF x ∧ chF x ≤ ((1 : Nat) : Int) := by rw [chF]; split <;> (try split) <;> omega
theorem foF_bound {x : Int} {n : Nat} (h : 1 ≤ x ∧ x ≤ (n : Int)) : -(n : Int) ≤ foF x ∧ foF x ≤ (n : Int) := by rw [foF]; split <;> omega

set_option maxRecDepth 100000 in
set_option maxHeartbeats 800000 in
theorem divisors_c (w : World) (N : Nat) (h1 : 1 ≤ N) (h9 : N ≤ 200000) :
    Calls Try.prog 74 #[.int .i64 (N : Int)] w fun en w' => (∃ v, en = .returned v ∧ OwnI w' w.heap.size v (dvI N (rtF N))) ∧ Below w.heap.size w w' := by
  have hrt := rtF_lt (n := N) (by omega)
  have Hm := Lib.hid (fun k => rtF_more (n := N) (k := k))
  have Hst := Lib.hid (fun k => rtF_stop (n := N) (k := k))
  obtain ⟨T, hT⟩ : ∃ T, rtF N = T := ⟨_, rfl⟩
  rw [hT] at hrt Hm Hst ⊢
  clear hT
  go_enter Try.func74, Try.ntmps74
  go_wp2
  go_loopw [3, 4] (fun v i wr => ∃ k : Nat, k ≤ T ∧ i = .int .i64 ((k : Int) + 1) ∧ OwnI wr w.heap.size v (dvI N k) ∧ Below w.heap.size w wr) (fun _ i _ => T + 2 - (intOf i).toNat)
  case atStart => exact ⟨0, Nat.zero_le _, rfl, OwnI.nil _ _, Below.refl _ _⟩
  case round =>
    obtain ⟨k, hk, rfl, hown, hbel⟩ := hrel
    have Hown := Lib.hid hown
    clear hown
    have hs := hbel.size
    have Hl := Lib.hid (show (dvI N k).length ≤ 1000 by have := dvI_len N k; omega)
    obtain ⟨D, hD⟩ : ∃ D, (k + 1) * (k + 1) = D := ⟨_, rfl⟩
    have hDi : ((k : Int) + 1) * ((k : Int) + 1) = (D : Int) := cast_sq hD
    have hD9 : D ≤ 200704 := by have := Nat.mul_le_mul (show k + 1 ≤ 448 by omega) (show k + 1 ≤ 448 by omega); omega
    have HD := Lib.hid hD
    clear hD
    have hz : (((k : Int) + 1) == 0) = false := beq_eq_false_iff_ne.2 (by omega)
    by_cases hlt : D ≤ N
    · have hk2 : k + 1 ≤ T := Hm.out k (by rw [HD.out]; exact hlt)
      by_cases hm : N % (k + 1) = 0
      · have hm2 : ((N : Int) % ((k : Int) + 1) != 0) = false := by rw [show (k : Int) + 1 = ((k + 1 : Nat) : Int) by omega, ← Int.natCast_emod, hm]; rfl
        by_cases hd : D = N
        · have hd2 : ((D : Int) != (N : Int)) = false := by rw [hd]; simp
          have Hy := Lib.hid (dvI_one (n := N) (k := k) hm (by rw [HD.out]; exact hd))
          clear hm hd
          go_wp2_with (at_builtin; refine wp_app_int _ rfl _ _ rfl w.heap.size _ _ rfl Hown.out _ rfl (by have := Hl.out; omega) hs ?_; intro v' w6 hown6 b6)
          go_roundw
          case rel => exact ⟨k + 1, hk2, by go_num, by rw [Hy.out]; exact hown6, hbel.trans b6⟩
          case measure => simp [intOf]; omega
        · have hd2 : ((D : Int) != (N : Int)) = true := bne_iff_ne.2 (by omega)
          have Hy := Lib.hid (dvI_two (n := N) (k := k) hm (by rw [HD.out]; exact hd))
          have hq := Nat.div_le_self N (k + 1)
          obtain ⟨Q, hQ⟩ : ∃ Q, N / (k + 1) = Q := ⟨_, rfl⟩
          have hQi : (N : Int) / ((k : Int) + 1) = (Q : Int) := by rw [← hQ, show (k : Int) + 1 = ((k + 1 : Nat) : Int) by omega, Int.natCast_ediv]
          rw [hQ] at hq Hy
          clear hm hd hQ
          have Hl6 : Hid ((dvI N k ++ [(k : Int) + 1]).length ≤ 1001) := by show _ ≤ _; rw [List.length_append, List.length_singleton]; have := Hl.out; omega
          go_wp2_with (at_builtin; first
            | (refine wp_app_int _ rfl _ _ rfl w.heap.size _ _ rfl Hown.out _ rfl (by have := Hl.out; omega) hs ?_; intro v' w6 hown6 b6; have Hown6 := Lib.hid hown6; have hs6 := Nat.le_trans hs b6.size; clear hown6)
            | (refine wp_app_int _ rfl _ _ rfl w.heap.size _ _ rfl Hown6.out _ rfl (by have := Hl6.out; omega) hs6 ?_; intro v7 w7 hown7 b7))
          go_roundw
          case rel => exact ⟨k + 1, hk2, by go_num, by rw [Hy.out]; exact hown7, (hbel.trans b6).trans b7⟩
          case measure => simp [intOf]; omega
      · have hm2 : ((N : Int) % ((k : Int) + 1) != 0) = true := by rw [show (k : Int) + 1 = ((k + 1 : Nat) : Int) by omega, ← Int.natCast_emod]; exact bne_iff_ne.2 (by omega)
        have Hy := Lib.hid (dvI_no (n := N) (k := k) hm)
        clear hm
        go_wp2_with fail
        go_roundw
        case rel => exact ⟨k + 1, hk2, by go_num, by rw [Hy.out]; exact Hown.out, hbel⟩
        case measure => simp [intOf]; omega
    · have Hk := Lib.hid (Hst.out k hk (by rw [HD.out]; omega))
      go_wp2
      go_ret
      exact ⟨⟨_, rfl, by rw [← Hk.out]; exact Hown.out⟩, hbel⟩

set_option maxRecDepth 100000 in
set_option maxHeartbeats 800000 in
theorem waysAsTwo_c (w : World) (N : Nat) (h1 : 1 ≤ N) (h9 : N ≤ 200000) :
    Calls Try.prog 60 #[.int .i64 (N : Int)] w fun en w' => en = .returned (.int .i64 (ca2 N N)) ∧ Below w.heap.size w w' := by
  have HC := Lib.hid (ca2_dvI h1)
  have Hd := Lib.hid (fun W => divisors_c W N h1 h9)
  have Hmem := Lib.hid (dvI_mem h1 (rtF N))
  have hlen := dvI_len N (rtF N)
  have hrt := rtF_lt (n := N) (by omega)
  obtain ⟨L, hL⟩ : ∃ L, dvI N (rtF N) = L := ⟨_, rfl⟩
  rw [hL] at HC Hd Hmem hlen
  clear hL
  have Hb := Lib.hid (fun k hk => suT_bound (f := chF) (l := L) (b := 1) (fun x _ => chF_bound x) k hk)
  have Ha := Lib.hid (suT_all (f := chF) (l := L))
  go_enter Try.func60, Try.ntmps60
  go_wp2_with fail
  refine (Hd.out _).mono ?_
  rintro e w2 ⟨⟨v, rfl, o2⟩, b2⟩
  obtain ⟨A, c, rfl⟩ := o2.shape
  have HI := Lib.hid (Il_of_own o2)
  clear o2
  go_wp2
  go_loop [3, 5, 9] (fun a _ i => ∃ k : Nat, k ≤ L.length ∧ i = .int .i64 (k : Int) ∧ a = .int .i64 (suT chF L k)) (fun _ _ i => L.length - (intOf i).toNat)
  case atStart => exact ⟨0, Nat.zero_le _, rfl, rfl⟩
  case round =>
    obtain ⟨k, hk, rfl, rfl⟩ := hrel
    have hb := Hb.out k hk
    by_cases hlt : k < L.length
    · obtain ⟨b, off, rfl, hbb, hr⟩ := HI.out (by omega)
      have hck := hr k hlt
      have hx := Hmem.out (ivL L k) (by simp [ivL, hlt])
      have Hst := Lib.hid (suT_succ (f := chF) hlt)
      obtain ⟨x, hx0⟩ : ∃ x, ivL L k = x := ⟨_, rfl⟩
      obtain ⟨S, hS⟩ : ∃ S, suT chF L k = S := ⟨_, rfl⟩
      rw [hx0] at hck hx Hst
      rw [hS] at hb Hst ⊢
      clear hx0 hS hr
      have hb9 : -1000 ≤ S ∧ S ≤ 1000 := by omega
      clear hb
      by_cases e1 : x % 4 = 1
      · have e1b : (x % 4 == 1) = true := by rw [beq_iff_eq]; exact e1
        have He : Hid (suT chF L (k + 1) = S + 1) := by show _ = _; rw [Hst.out, chF, if_pos e1]
        clear e1 Hst
        go_wp2
        go_round
        case rel => exact ⟨k + 1, by omega, by go_num, by rw [He.out]⟩
        case measure => simp [intOf]; omega
      · have e1b : (x % 4 == 1) = false := beq_eq_false_iff_ne.2 e1
        by_cases e3 : x % 4 = 3
        · have e3b : (x % 4 == 3) = true := by rw [beq_iff_eq]; exact e3
          have He : Hid (suT chF L (k + 1) = S - 1) := by show _ = _; rw [Hst.out, chF, if_neg e1, if_pos e3]; rfl
          clear e1 e3 Hst
          go_wp2
          go_round
          case rel => exact ⟨k + 1, by omega, by go_num, by rw [He.out]⟩
          case measure => simp [intOf]; omega
        · have e3b : (x % 4 == 3) = false := beq_eq_false_iff_ne.2 e3
          have He : Hid (suT chF L (k + 1) = S) := by show _ = _; rw [Hst.out, chF, if_neg e1, if_neg e3, Int.add_zero]
          clear e1 e3 Hst
          go_wp2
          go_round
          case rel => exact ⟨k + 1, by omega, by go_num, by rw [He.out]⟩
          case measure => simp [intOf]; omega
    · have Hk := Lib.hid (show k = L.length by omega)
      have He : Hid (ca2 N N = 4 * suT chF L k) := by show _ = _; rw [HC.out, Hk.out, Ha.out]
      obtain ⟨S, hS⟩ : ∃ S, suT chF L k = S := ⟨_, rfl⟩
      rw [hS] at hb He ⊢
      clear hS
      have hb9 : -1000 ≤ S ∧ S ≤ 1000 := by omega
      clear hb
      go_wp2
      go_ret
      exact ⟨by rw [He.out]; rfl, b2⟩

set_option maxRecDepth 100000 in
set_option maxHeartbeats 800000 in
theorem waysAsFour_c (w : World) (N : Nat) (h1 : 1 ≤ N) (h9 : N ≤ 200000) :
    Calls Try.prog 64 #[.int .i64 (N : Int)] w fun en w' => en = .returned (.int .i64 (ca4 N N : Int)) ∧ Below w.heap.size w w' := by
  have HC := Lib.hid (ca4_dvI h1)
  have Hd := Lib.hid (fun W => divisors_c W N h1 h9)
  have Hmem := Lib.hid (dvI_mem h1 (rtF N))
  have hlen := dvI_len N (rtF N)
  have hrt := rtF_lt (n := N) (by omega)
  obtain ⟨L, hL⟩ : ∃ L, dvI N (rtF N) = L := ⟨_, rfl⟩
  rw [hL] at HC Hd Hmem hlen
  clear hL
  have Hb := Lib.hid (fun k hk => suT_bound (f := foF) (l := L) (b := N) (fun x hx => foF_bound (Hmem.out x hx)) k hk)
  have Ha := Lib.hid (suT_all (f := foF) (l := L))
  go_enter Try.func64, Try.ntmps64
  go_wp2_with fail
  refine (Hd.out _).mono ?_
  rintro e w2 ⟨⟨v, rfl, o2⟩, b2⟩
  obtain ⟨A, c, rfl⟩ := o2.shape
  have HI := Lib.hid (Il_of_own o2)
  clear o2
  go_wp2
  go_loop [3, 5, 9] (fun a _ i => ∃ k : Nat, k ≤ L.length ∧ i = .int .i64 (k : Int) ∧ a = .int .i64 (suT foF L k)) (fun _ _ i => L.length - (intOf i).toNat)
  case atStart => exact ⟨0, Nat.zero_le _, rfl, rfl⟩
  case round =>
    obtain ⟨k, hk, rfl, rfl⟩ := hrel
    have hb := Hb.out k hk
    have hkn : k * N ≤ 200000000 := by have := Nat.mul_le_mul (show k ≤ 1000 by omega) h9; omega
    by_cases hlt : k < L.length
    · obtain ⟨b, off, rfl, hbb, hr⟩ := HI.out (by omega)
      have hck := hr k hlt
      have hx := Hmem.out (ivL L k) (by simp [ivL, hlt])
      have Hst := Lib.hid (suT_succ (f := foF) hlt)
      obtain ⟨x, hx0⟩ : ∃ x, ivL L k = x := ⟨_, rfl⟩
      obtain ⟨S, hS⟩ : ∃ S, suT foF L k = S := ⟨_, rfl⟩
      rw [hx0] at hck hx Hst
      rw [hS] at hb Hst ⊢
      clear hx0 hS hr
      have hb9 : -200000000 ≤ S ∧ S ≤ 200000000 := by omega
      clear hb hkn
      by_cases e1 : x % 4 = 0
      · have e1b : (x % 4 != 0) = false := by rw [e1]; rfl
        have He : Hid (suT foF L (k + 1) = S) := by show _ = _; rw [Hst.out, foF, if_pos e1, Int.add_zero]
        clear e1 Hst
        go_wp2
        go_round
        case rel => exact ⟨k + 1, by omega, by go_num, by rw [He.out]⟩
        case measure => simp [intOf]; omega
      · have e1b : (x % 4 != 0) = true := bne_iff_ne.2 e1
        have He : Hid (suT foF L (k + 1) = S + x) := by show _ = _; rw [Hst.out, foF, if_neg e1]
        clear e1 Hst
        go_wp2
        go_round
        case rel => exact ⟨k + 1, by omega, by go_num, by rw [He.out]⟩
        case measure => simp [intOf]; omega
    · have Hk := Lib.hid (show k = L.length by omega)
      have He : Hid ((ca4 N N : Int) = 8 * suT foF L k) := by show _ = _; rw [HC.out, Hk.out, Ha.out]
      obtain ⟨S, hS⟩ : ∃ S, suT foF L k = S := ⟨_, rfl⟩
      rw [hS] at hb He ⊢
      clear hS
      have hb9 : -200000000 ≤ S ∧ S ≤ 200000000 := by omega
      clear hb hkn
      go_wp2
      go_ret
      exact ⟨by rw [He.out]; rfl, b2⟩

set_option maxRecDepth 100000 in
set_option maxHeartbeats 800000 in
theorem pairsInCircle_c (w : World) (N : Nat) (h1 : 1 ≤ N) (h9 : N ≤ 200000) :
    Calls Try.prog 65 #[.int .i64 (N : Int)] w fun en w' => en = .returned (.int .i64 (ccS N (rtF N) (2 * rtF N + 1) : Int)) ∧ Below w.heap.size w w' := by
  have Hpt := Lib.hid (rtF_parts N)
  have hrt := rtF_lt (n := N) (by omega)
  have Hl := Lib.hid (fun k => ccS_le N (rtF N) (by omega) k)
  have Hr := Lib.hid (fun W => rootOf_c W N (by omega))
  obtain ⟨T, hT⟩ : ∃ T, rtF N = T := ⟨_, rfl⟩
  rw [hT] at hrt Hpt Hl Hr ⊢
  clear hT
  go_enter Try.func65, Try.ntmps65
  go_wp2_with fail
  refine (Hr.out _).mono ?_
  rintro e w5 ⟨rfl, b5⟩
  go_wp2
  go_loopw [4, 5] (fun c x wr => ∃ k : Nat, k ≤ 2 * T + 1 ∧ x = .int .i64 ((k : Int) - T) ∧ c = .int .i64 (ccS N T k : Int) ∧ Below w.heap.size w wr) (fun _ x _ => (449 - intOf x).toNat)
  case atStart => exact ⟨0, Nat.zero_le _, by go_num, rfl, b5⟩
  case round =>
    obtain ⟨k, hk, rfl, rfl, hbel⟩ := hrel
    have hs := hbel.size
    have hl := Hl.out k
    have HS := Lib.hid (show ccS N T (k + 1) = _ from rfl)
    obtain ⟨S, hS⟩ : ∃ S, ccS N T k = S := ⟨_, rfl⟩
    rw [hS] at hl ⊢
    by_cases hlt : k ≤ 2 * T
    · obtain ⟨X, hX⟩ : ∃ X : Nat, ((k : Int) - T).natAbs = X := ⟨_, rfl⟩
      have hXT : X ≤ T := by omega
      have hXX : X * X ≤ N := Nat.le_trans (Nat.mul_le_mul hXT hXT) Hpt.out.1
      obtain ⟨D, hD⟩ : ∃ D, X * X = D := ⟨_, rfl⟩
      have hDi : ((k : Int) - T) * ((k : Int) - T) = (D : Int) := by rw [abs_sq, hX, hD]
      rw [hD] at hXX
      have Hst := Lib.hid (show ccS N T (k + 1) = S + (2 * rtF (N - D) + 1) by rw [ccS, hS, hX, hD])
      have hrl := rtF_lt (n := N - D) (by omega)
      have Hc := Lib.hid (fun W => rootOf_c W (N - D) (by omega))
      rw [show ((N - D : Nat) : Int) = (N : Int) - (D : Int) by omega] at Hc
      obtain ⟨R, hR⟩ : ∃ R, rtF (N - D) = R := ⟨_, rfl⟩
      rw [hR] at hrl Hst Hc
      clear hS hX hD hR HS
      go_wp2_with fail
      refine (Hc.out _).mono ?_
      rintro e w1 ⟨rfl, b1⟩
      go_wp2
      go_roundw
      case rel => exact ⟨k + 1, by omega, by go_num, by rw [Hst.out]; go_num, hbel.trans (b1.mono hs)⟩
      case measure => simp [intOf]; omega
    · have Hk := Lib.hid (show k = 2 * T + 1 by omega)
      have HSS := Lib.hid hS
      clear hS HS
      go_wp2
      go_ret
      exact ⟨by rw [← Hk.out, HSS.out]; rfl, hbel⟩

set_option maxRecDepth 100000 in
set_option maxHeartbeats 400000 in
theorem told_CountAsTwo_c (w : World) (n : Int) :
    Calls Try.prog 46 #[.int .i64 n, .func (.func 60) #[] #[]] w fun en w' => en = .returned (.tuple #[.int .i64 (c2V n), .bool (sqOk n)]) ∧ Below w.heap.size w w' := by
  have Hc := Lib.hid (fun W => toldI_c W n 100000 (by omega) 60 (fun N => ca2 N N) (fun _ _ => rfl) fun W N a b => waysAsTwo_c W N a (by omega))
  go_enter Try.func46, Try.ntmps46
  go_wp2_with fail
  refine (Hc.out _).mono ?_
  rintro e w2 ⟨rfl, b2⟩
  go_wp2
  go_ret2
  exact ⟨rfl, b2⟩
theorem impl_CountAsTwo_c (w : World) (n : Int) :
    Calls Try.prog 31 #[.int .i64 n] w fun en w' => en = .returned (.tuple #[.int .i64 (c2V n), .bool (sqOk n)]) ∧ Below w.heap.size w w' := by
  go_enter Try.func31, Try.ntmps31
  go_wp2_with fail
  refine (told_CountAsTwo_c _ _).mono ?_
  rintro e w2 ⟨rfl, b2⟩
  go_wp2
  go_ret2
  exact ⟨rfl, b2⟩

set_option maxRecDepth 100000 in
set_option maxHeartbeats 400000 in
theorem told_CountAsFour_c (w : World) (n : Int) :
    Calls Try.prog 46 #[.int .i64 n, .func (.func 64) #[] #[]] w fun en w' => en = .returned (.tuple #[.int .i64 (c4V n), .bool (sqOk n)]) ∧ Below w.heap.size w w' := by
  have Hc := Lib.hid (fun W => toldI_c W n 100000 (by omega) 64 (fun N => (ca4 N N : Int)) (fun _ _ => rfl) fun W N a b => waysAsFour_c W N a (by omega))
  go_enter Try.func46, Try.ntmps46
  go_wp2_with fail
  refine (Hc.out _).mono ?_
  rintro e w2 ⟨rfl, b2⟩
  go_wp2
  go_ret2
  exact ⟨rfl, b2⟩
theorem impl_CountAsFour_c (w : World) (n : Int) :
    Calls Try.prog 37 #[.int .i64 n] w fun en w' => en = .returned (.tuple #[.int .i64 (c4V n), .bool (sqOk n)]) ∧ Below w.heap.size w w' := by
  go_enter Try.func37, Try.ntmps37
  go_wp2_with fail
  refine (told_CountAsFour_c _ _).mono ?_
  rintro e w2 ⟨rfl, b2⟩
  go_wp2
  go_ret2
  exact ⟨rfl, b2⟩

set_option maxRecDepth 100000 in
set_option maxHeartbeats 400000 in
theorem told_CountInCircle_c (w : World) (n : Int) :
    Calls Try.prog 46 #[.int .i64 n, .func (.func 65) #[] #[]] w fun en w' => en = .returned (.tuple #[.int .i64 (ccV n), .bool (sqOk n)]) ∧ Below w.heap.size w w' := by
  have Hc := Lib.hid (fun W => toldI_c W n 100000 (by omega) 65 (fun N => (ccS N (rtF N) (2 * rtF N + 1) : Int)) (fun _ _ => rfl) fun W N a b => pairsInCircle_c W N a (by omega))
  go_enter Try.func46, Try.ntmps46
  go_wp2_with fail
  refine (Hc.out _).mono ?_
  rintro e w2 ⟨rfl, b2⟩
  go_wp2
  go_ret2
  exact ⟨rfl, b2⟩
theorem impl_CountInCircle_c (w : World) (n : Int) :
    Calls Try.prog 39 #[.int .i64 n] w fun en w' => en = .returned (.tuple #[.int .i64 (ccV n), .bool (sqOk n)]) ∧ Below w.heap.size w w' := by
  go_enter Try.func39, Try.ntmps39
  go_wp2_with fail
  refine (told_CountInCircle_c _ _).mono ?_
  rintro e w2 ⟨rfl, b2⟩
  go_wp2
  go_ret2
  exact ⟨rfl, b2⟩

end Go.Proofs.Ytkpililllihgcab
