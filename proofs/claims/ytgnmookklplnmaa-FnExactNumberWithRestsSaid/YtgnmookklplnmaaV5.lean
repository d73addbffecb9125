import Derived.Test.YtgnmookklplnmaaV4
import Derived.Test.YtgnmookklplnmaaTB
namespace Go.Proofs.Ytgnmookklplnmaa
open Go.RowKit
set_option linter.unusedVariables false
set_option linter.unusedSimpArgs false

theorem nodup_le : ∀ (ys zs : List Int), ys.Nodup → (∀ y, y ∈ ys → y ∈ zs) → ys.length ≤ zs.length
  | [], _, _, _ => Nat.zero_le _
  | y :: ys, zs, h, hm => by
    rw [List.nodup_cons] at h
    have hz := hm y (List.mem_cons_self ..)
    have ih := nodup_le ys (zs.erase y) h.2 fun x hx => (List.mem_erase_of_ne (fun e => h.1 (by rw [← e]; exact hx))).2 (hm x (List.mem_cons_of_mem _ hx))
    rw [List.length_erase_of_mem hz] at ih
    have := List.length_pos_of_mem hz
    rw [List.length_cons]
    omega
/-- Different ones of the first six primes are at most six. -/
theorem dp_six {xs : List Int} (h : ∀ i, i < xs.length → dfB xs i = true) : xs.length ≤ 6 := by
  refine nodup_le xs [2, 3, 5, 7, 11, 13] ?_ ?_
  · rw [List.nodup_iff_pairwise_ne, List.pairwise_iff_getElem]
    intro i j hi hj hij he
    have h2 := h j hj
    rw [dfB, Bool.and_eq_true, Bool.not_eq_true'] at h2
    have h3 : hasF (xs.take j) (ivL xs j) = true := hasF_mem.2 (by
      rw [List.mem_iff_getElem]
      exact ⟨i, by rw [List.length_take]; omega, by rw [List.getElem_take, he]; simp [ivL, hj]⟩)
    rw [h3] at h2
    exact absurd h2.2 (by simp)
  · intro y hy
    obtain ⟨i, hi, rfl⟩ := List.mem_iff_getElem.1 hy
    have h2 := h i hi
    rw [dfB, Bool.and_eq_true, reB_six, List.contains_iff_mem] at h2
    rw [show xs[i] = ivL xs i by simp [ivL, hi]]
    exact h2.1
theorem dp_all {xs : List Int} (h : ∀ i, i < xs.length → dfB xs i = true) : dpB xs = true := dpB_iff.2 ⟨dp_six h, h⟩
theorem hasF_contains (xs : List Int) (x : Int) : xs.contains x = hasF xs x := by rw [Bool.eq_iff_iff, hasF_mem, List.contains_iff_mem]

set_option maxRecDepth 100000 in
set_option maxHeartbeats 1600000 in
theorem arePrimesTold_c (w : World) (A : Option Addr) (m c : Nat) (xs : List Int) (hA : Il w A xs) (hm : m = xs.length) (hn : m ≤ 1048576) (hmc : m ≤ c) :
    Calls Try.prog 96 #[.slice A m c] w fun en w' => en = .returned (.bool (dpB xs)) ∧ Below w.heap.size w w' := by
  have Hm := Lib.hid hm
  clear hm
  obtain ⟨T, hT⟩ : ∃ T, dpB xs = T := ⟨_, rfl⟩
  rw [hT]
  have HT := Lib.hid hT
  clear hT
  go_enter Try.func96, Try.ntmps96
  go_wp2
  go_loopw [7] (fun i wr => ∃ k : Nat, k ≤ m ∧ i = .int .i64 (k : Int) ∧ (∀ j, j < k → dfB xs j = true) ∧ Below w.heap.size w wr) (fun i _ => m - (intOf i).toNat)
  case atStart => exact ⟨0, Nat.zero_le _, rfl, fun j hj => by omega, Below.refl _ _⟩
  case round =>
    obtain ⟨k, hk, rfl, hall, hbel⟩ := hrel
    have Hall := Lib.hid hall
    clear hall
    have hs := hbel.size
    by_cases hlt : k < m
    · obtain ⟨b, off, rfl, hb, hr⟩ := hA (by have := Hm.out; omega)
      have hck := (hbel.cell (p := ⟨b, off + k, none⟩) hb).trans (hr k (by have := Hm.out; omega))
      have hcw : ∀ j, j < xs.length → wr.cell? ⟨b, off + j, none⟩ = some (.int .i64 (xs.getD j 0)) := fun j hj => (hbel.cell (p := ⟨b, off + j, none⟩) hb).trans (hr j hj)
      obtain ⟨x, hx⟩ : ∃ x, ivL xs k = x := ⟨_, rfl⟩
      rw [hx] at hck
      have Hd : Hid (dfB xs k = (reB x && !hasF (xs.take k) x)) := by show _ = _; rw [dfB, hx]
      have Hcw := Lib.hid hcw
      clear hx hr hcw
      cases hre : reB x with
      | false =>
        have Hy : Hid (T = false) := by show _ = _; rw [← HT.out]; exact dpB_no (i := k) (by have := Hm.out; omega) (by rw [Hd.out, hre]; rfl)
        have Hre := Lib.hid hre
        clear hre
        go_wp2_with fail
        refine (isPrimeTold_c _ _).mono ?_
        rw [Hre.out]
        rintro e w1 ⟨rfl, b1⟩
        go_wp2
        go_ret
        exact ⟨by rw [Hy.out]; rfl, hbel.trans (b1.mono hs)⟩
      | true =>
        have Hre := Lib.hid hre
        have hkc : (k : Int) ≤ (c : Int) := by omega
        have Hct : Hid (∀ W : World, (∀ j, j < xs.length → W.cell? ⟨b, off + j, none⟩ = some (.int .i64 (xs.getD j 0))) → Calls Try.prog 104 #[.slice (some ⟨b, off, none⟩) k c, .int .i64 x] W fun e w' => e = .returned (.bool (hasF (xs.take k) x)) ∧ w' = W) := fun W hc => by
          have h := Try.slices_Contains_int b off k c xs x W (by have := Hm.out; omega) (by omega) hc
          rwa [hasF_contains] at h
        cases hh : hasF (xs.take k) x with
        | true =>
          have Hy : Hid (T = false) := by show _ = _; rw [← HT.out]; exact dpB_no (i := k) (by have := Hm.out; omega) (by rw [Hd.out, hre, hh]; rfl)
          have Hh := Lib.hid hh
          clear hre hh
          go_wp2_with fail
          refine (isPrimeTold_c _ _).mono ?_
          rw [Hre.out]
          rintro e w1 ⟨rfl, b1⟩
          have Hcw1 := Lib.hid (fun j (hj : j < xs.length) => (b1.cell (p := ⟨b, off + j, none⟩) (Nat.lt_of_lt_of_le hb hs)).trans (Hcw.out j hj))
          go_wp2_with fail
          refine (Hct.out _ Hcw1.out).mono ?_
          rw [Hh.out]
          rintro e w2 ⟨rfl, rfl⟩
          go_wp2
          go_ret
          exact ⟨by rw [Hy.out]; rfl, hbel.trans (b1.mono hs)⟩
        | false =>
          have Hall2 := Lib.hid (fun j (hj : j < k + 1) => show dfB xs j = true by
            rcases Nat.lt_succ_iff_lt_or_eq.1 hj with h | h
            · exact Hall.out j h
            · rw [h, Hd.out, hre, hh]; rfl)
          have Hh := Lib.hid hh
          clear hre hh
          go_wp2_with fail
          refine (isPrimeTold_c _ _).mono ?_
          rw [Hre.out]
          rintro e w1 ⟨rfl, b1⟩
          have Hcw1 := Lib.hid (fun j (hj : j < xs.length) => (b1.cell (p := ⟨b, off + j, none⟩) (Nat.lt_of_lt_of_le hb hs)).trans (Hcw.out j hj))
          go_wp2_with fail
          refine (Hct.out _ Hcw1.out).mono ?_
          rw [Hh.out]
          rintro e w2 ⟨rfl, rfl⟩
          go_wp2
          go_roundw
          case rel => exact ⟨k + 1, by omega, by go_num, Hall2.out, hbel.trans (b1.mono hs)⟩
          case measure => simp [intOf]; omega
    · have Hy : Hid (T = true) := by show _ = _; rw [← HT.out]; exact dp_all fun j hj => Hall.out j (by have := Hm.out; omega)
      go_wp2
      go_ret
      exact ⟨by rw [Hy.out]; rfl, hbel⟩

set_option maxRecDepth 100000 in
set_option maxHeartbeats 800000 in
theorem areRests_c (w : World) (A : Option Addr) (m c : Nat) (ps : List Int) (hA : Il w A ps) (hm : m = ps.length) (hn : m ≤ 1048576) (A2 : Option Addr) (m2 c2 : Nat) (rs : List Int) (hB : Il w A2 rs) (hm2 : m2 = rs.length) (hn2 : m2 ≤ 1048576) (hp : ∀ i, i < ps.length → 2 ≤ ivL ps i ∧ ivL ps i ≤ 13) :
    Calls Try.prog 97 #[.slice A2 m2 c2, .slice A m c] w fun en w' => en = .returned (.bool (rtB ps rs)) ∧ w = w' := by
  have Hm := Lib.hid hm
  have Hm2 := Lib.hid hm2
  have Hp := Lib.hid hp
  clear hm hm2 hp
  obtain ⟨T, hT⟩ : ∃ T, rtB ps rs = T := ⟨_, rfl⟩
  rw [hT]
  have HT := Lib.hid hT
  clear hT
  by_cases hmm : m2 = m
  rotate_left
  · have Hy : Hid (T = false) := by show _ = _; rw [← HT.out, rtB, decide_eq_false (by have := Hm.out; have := Hm2.out; omega), Bool.false_and]
    have hne : ((m2 : Int) != (m : Int)) = true := by rw [bne, beq_eq_false_iff_ne.2 (by omega)]; rfl
    go_enter Try.func97, Try.ntmps97
    go_wp2
    go_ret
    exact ⟨by rw [Hy.out]; rfl, rfl⟩
  subst hmm
  have hne : ((m2 : Int) != (m2 : Int)) = false := by simp
  go_enter Try.func97, Try.ntmps97
  go_wp2
  go_loop [14] (fun i => ∃ k : Nat, k ≤ m2 ∧ i = .int .i64 (k : Int) ∧ (∀ j, j < k → inB (ivL rs j) 0 (ivL ps j - 1) = true)) (fun i => m2 - (intOf i).toNat)
  case atStart => exact ⟨0, Nat.zero_le _, rfl, fun j hj => by omega⟩
  case round =>
    obtain ⟨k, hk, rfl, hall⟩ := hrel
    have Hall := Lib.hid hall
    clear hall
    by_cases hlt : k < m2
    · obtain ⟨b, off, rfl, hb, hr⟩ := hA (by have := Hm.out; omega)
      obtain ⟨b2, off2, rfl, hb2, hr2⟩ := hB (by have := Hm2.out; omega)
      have hck := hr k (by have := Hm.out; omega)
      have hck2 := hr2 k (by have := Hm2.out; omega)
      have hpk := Hp.out k (by have := Hm.out; omega)
      have hki : (k : Int) < (m2 : Int) := by omega
      clear hr hr2
      obtain ⟨x, hx⟩ : ∃ x, ivL rs k = x := ⟨_, rfl⟩
      obtain ⟨y, hy⟩ : ∃ y, ivL ps k = y := ⟨_, rfl⟩
      rw [hx] at hck2
      rw [hy] at hck hpk
      by_cases hx0 : x < 0
      · have Hy : Hid (T = false) := by show _ = _; rw [← HT.out]; exact rtB_no (i := k) (by have := Hm2.out; omega) (by rw [hx, hy]; exact inB_false.2 (by omega))
        clear hx hy
        go_wp2
        go_ret
        exact ⟨by rw [Hy.out]; rfl, rfl⟩
      · by_cases hxy : y ≤ x
        · have Hy : Hid (T = false) := by show _ = _; rw [← HT.out]; exact rtB_no (i := k) (by have := Hm2.out; omega) (by rw [hx, hy]; exact inB_false.2 (by omega))
          clear hx hy
          go_wp2
          go_ret
          exact ⟨by rw [Hy.out]; rfl, rfl⟩
        · have Hall2 := Lib.hid (fun j (hj : j < k + 1) => show inB (ivL rs j) 0 (ivL ps j - 1) = true by
            rcases Nat.lt_succ_iff_lt_or_eq.1 hj with h | h
            · exact Hall.out j h
            · rw [h, hx, hy]; exact inB_true.2 (by omega))
          clear hx hy
          go_wp2
          go_round
          case rel => exact ⟨k + 1, by omega, by go_num, Hall2.out⟩
          case measure => simp [intOf]; omega
    · have Hy : Hid (T = true) := by show _ = _; rw [← HT.out]; exact rtB_iff.2 ⟨by have := Hm.out; have := Hm2.out; omega, fun j hj => Hall.out j (by have := Hm2.out; omega)⟩
      go_wp2
      go_ret
      exact ⟨by rw [Hy.out]; rfl, rfl⟩

set_option maxRecDepth 100000 in
set_option maxHeartbeats 3200000 in
theorem impl_NumberWithRests_c (w : World) (A : Option Addr) (m c : Nat) (ps : List Int) (hA : Il w A ps) (hm : m = ps.length) (hn : m ≤ 1048576) (hmc : m ≤ c) (A2 : Option Addr) (m2 c2 : Nat) (rs : List Int) (hB : Il w A2 rs) (hm2 : m2 = rs.length) (hn2 : m2 ≤ 1048576) :
    Calls Try.prog 54 #[.slice A m c, .slice A2 m2 c2] w fun en w' => en = .returned (.tuple #[.int .i64 (nwV ps rs), .bool (nwO ps rs)]) ∧ Below w.heap.size w w' := by
  have Hm := Lib.hid hm
  have Hm2 := Lib.hid hm2
  clear hm hm2
  have hpr := arePrimesTold_c w A m c ps hA Hm.out hn hmc
  cases hd : dpB ps with
  | false =>
    have ho : nwO ps rs = false := by rw [nwO, hd]; rfl
    rw [nwV_no ho, ho]
    rw [hd] at hpr
    have Hpr := Lib.hid hpr
    clear ho hpr
    go_enter Try.func54, Try.ntmps54
    go_wp2_with fail
    refine Hpr.out.mono ?_
    rintro e w1 ⟨rfl, b1⟩
    go_wp2
    go_ret2
    exact ⟨rfl, b1⟩
  | true =>
    rw [hd] at hpr
    have Hpr := Lib.hid hpr
    have hpa := Lib.hid (fun i (hi : i < ps.length) => dpB_at hd hi)
    clear hpr
    cases hrt : rtB ps rs with
    | false =>
      have ho : nwO ps rs = false := by rw [nwO, hrt, Bool.and_false]
      rw [nwV_no ho, ho]
      have Hrt := Lib.hid hrt
      clear ho hrt hd
      go_enter Try.func54, Try.ntmps54
      go_wp2_with fail
      refine Hpr.out.mono ?_
      rintro e w1 ⟨rfl, b1⟩
      go_wp2_with fail
      refine (areRests_c _ _ _ _ ps (hA.below b1) Hm.out hn _ _ _ rs (hB.below b1) Hm2.out hn2 hpa.out).mono ?_
      rw [Hrt.out]
      rintro e w2 ⟨rfl, rfl⟩
      go_wp2
      go_ret2
      exact ⟨rfl, b1⟩
    | true =>
      have hmm : m2 = m := by have := (rtB_iff.1 hrt).1; have := Hm.out; have := Hm2.out; omega
      subst hmm
      have h6 : m2 ≤ 6 := by have := Hm.out; have := (dpB_iff.1 hd).1; omega
      have ho : nwO ps rs = true := by rw [nwO, hd, hrt]; rfl
      obtain ⟨T, hT⟩ : ∃ T, (nwV ps rs, nwO ps rs) = T := ⟨_, rfl⟩
      have hT1 : nwV ps rs = T.1 := by rw [← hT]
      have hT2 : nwO ps rs = T.2 := by rw [← hT]
      have H1 : Hid (T.1 = ((nrG ps rs m2).1 : Int)) := by show _ = _; rw [← hT1, nwV_yes ho, Hm.out]
      have H2 : Hid (T.2 = true) := by show _ = _; rw [← hT2, ho]
      rw [hT1, hT2]
      have Hrt := Lib.hid hrt
      have Hd := Lib.hid hd
      have Hat := Lib.hid (fun i (hi : i < m2) => dpB_idx hd (i := i) (by have := Hm.out; omega))
      have Hr := Lib.hid (fun i (hi : i < m2) => inB_true.1 ((rtB_iff.1 hrt).2 i (by have := Hm2.out; omega)))
      have Hsm := Lib.hid (fun i (hi : i ≤ m2) => nrG_small hd hrt (i := i) (by have := Hm.out; omega))
      have Hst := Lib.hid (fun i (hi : i < m2) (h : (ivL rs i).toNat < (ivL ps i).toNat) => nrG_hit (rs := rs) hd (i := i) (by have := Hm.out; omega) (nrG ps rs i).1 (ivL rs i).toNat h)
      clear hT hT1 hT2 hd hrt ho
      go_enter Try.func54, Try.ntmps54
      go_wp2_with fail
      refine Hpr.out.mono ?_
      rintro e w1 ⟨rfl, b1⟩
      have hA1 := hA.below b1
      have hB1 := hB.below b1
      have HA := Lib.hid (fun k (hk : k < m2) => show ∃ b off, A = some ⟨b, off, none⟩ ∧ w1.cell? ⟨b, off + k, none⟩ = some (.int .i64 (ivL ps k)) by
        obtain ⟨b, off, e, _, h⟩ := hA1 (by have := Hm.out; omega)
        exact ⟨b, off, e, h k (by have := Hm.out; omega)⟩)
      have HB := Lib.hid (fun k (hk : k < m2) => show ∃ b off, A2 = some ⟨b, off, none⟩ ∧ w1.cell? ⟨b, off + k, none⟩ = some (.int .i64 (ivL rs k)) by
        obtain ⟨b, off, e, _, h⟩ := hB1 (by have := Hm2.out; omega)
        exact ⟨b, off, e, h k (by have := Hm2.out; omega)⟩)
      go_wp2_with fail
      refine (areRests_c _ _ _ _ ps hA1 Hm.out hn _ _ _ rs hB1 Hm2.out hn2 hpa.out).mono ?_
      rw [Hrt.out]
      rintro e w2 ⟨rfl, rfl⟩
      clear hA1 hB1
      go_wp2_with fail
      go_loopw [6, 7, 21] (fun n P i wr => ∃ k : Nat, k ≤ m2 ∧ i = .int .i64 (k : Int) ∧ n = .int .i64 ((nrG ps rs k).1 : Int) ∧ P = .int .i64 ((nrG ps rs k).2 : Int) ∧ ∃ d, wr = w1.drewN d) (fun _ _ i _ => m2 - (intOf i).toNat)
      case atStart => exact ⟨0, Nat.zero_le _, rfl, rfl, rfl, 0, rfl⟩
      case round =>
        obtain ⟨k, hk, rfl, rfl, rfl, d, rfl⟩ := hrel
        by_cases hlt : k < m2
        · obtain ⟨b, off, rfl, hck⟩ := HA.out k hlt
          obtain ⟨b2, off2, rfl, hck2⟩ := HB.out k hlt
          obtain ⟨q, hq, hqe, hqi⟩ := Hat.out k hlt
          obtain ⟨p2, p13⟩ := rpF_all q hq
          have hrk := Hr.out k hlt
          have hki : (k : Int) < (m2 : Int) := by omega
          obtain ⟨p, hp⟩ : ∃ p, rpF q = p := ⟨_, rfl⟩
          rw [hp] at p2 p13 hqe hqi
          rw [hqi] at hck hrk
          obtain ⟨r, hr⟩ := Int.eq_ofNat_of_zero_le hrk.1
          rw [hr] at hck2 hrk
          have hrn : (ivL rs k).toNat = r := by rw [hr]; rfl
          have hz : ((p : Int) == 0) = false := beq_eq_false_iff_ne.2 (by omega)
          have hit := Hst.out k hlt (by rw [hrn, hqe]; omega)
          rw [hrn, hqe] at hit
          have hst1 : (nrG ps rs (k + 1)).1 = nrS p r (nrG ps rs k).2 p (nrG ps rs k).1 := by show nrS _ _ _ _ _ = _; rw [hrn, hqe]
          have hst2 : (nrG ps rs (k + 1)).2 = (nrG ps rs k).2 * p := by show (nrG ps rs k).2 * _ = _; rw [hqe]
          have hs1 := Hsm.out k (by omega)
          have hs2 := Hsm.out (k + 1) (by omega)
          obtain ⟨N, hN⟩ : ∃ N, (nrG ps rs (k + 1)).1 = N := ⟨_, rfl⟩
          obtain ⟨P, hP⟩ : ∃ P, (nrG ps rs k).2 = P := ⟨_, rfl⟩
          rw [hN] at hst1 hs2
          rw [hP] at hst1 hst2 hs1 hit ⊢
          have HN := Lib.hid hN
          have Hst2 : Hid ((((nrG ps rs (k + 1)).2 : Nat) : Int) = (P : Int) * (p : Int)) := by show _ = _; rw [hst2, Int.natCast_mul]
          have hPp : (P : Int) * (p : Int) ≤ 4826809 := by rw [← Int.natCast_mul, ← hst2]; omega
          have hPp0 : 0 ≤ (P : Int) * (p : Int) := Int.mul_nonneg (by omega) (by omega)
          have Hst1 := Lib.hid hst1.symm
          have Hit := Lib.hid hit
          have hN9 : N ≤ 4826809 := hs2.1
          have hP1 : 1 ≤ P := hs1.2.2
          have hP9 : P ≤ 4826809 := hs1.2.1
          have hG9 := hs1.1
          clear hqe hqi hr hrn hp hN hP hst1 hst2 hit hs1 hs2
          have hckd : (w1.drewN d).cell? ⟨b, off + k, none⟩ = some (.int .i64 (p : Int)) := hck
          go_wp2_with fail
          have hckw := fun d : Nat => show (w1.drewN d).cell? ⟨b, off + k, none⟩ = some (.int .i64 (p : Int)) from hck
          have hckw2 := fun d : Nat => show (w1.drewN d).cell? ⟨b2, off2 + k, none⟩ = some (.int .i64 (r : Int)) from hck2
          go_loopw [6] (fun u wr => ∃ n f : Nat, u = .int .i64 (n : Int) ∧ n ≤ 4826809 ∧ Hid (nrS p r P f n = N) ∧ Hid (∃ j, j < f ∧ (n + j * P) % p = r) ∧ ∃ d, wr = w1.drewN d) (fun u _ => N + 1 - (intOf u).toNat)
          case atStart => exact ⟨_, p, rfl, hG9, Hst1, Hit, d, rfl⟩
          case round =>
            obtain ⟨n, f, rfl, hn9, hS, hJ, d2, rfl⟩ := hrel
            obtain ⟨y, hy⟩ : ∃ y, (n : Int) % (p : Int) = y := ⟨_, rfl⟩
            by_cases hyr : y = (r : Int)
            · have hnr : n % p = r := by have h3 : ((n % p : Nat) : Int) = (r : Int) := by rw [Int.natCast_emod, hy, hyr]
                                         omega
              have Hn : Hid (n = N) := by show _ = _; rw [← hS.out, nrS_hit hnr]
              have hyb : (y != (r : Int)) = false := by rw [bne, beq_iff_eq.2 hyr]; rfl
              clear hnr hyr
              go_wp2_with fail
              go_quiet (fail)
              go_wp2
              go_roundw
              case rel => exact ⟨k + 1, by omega, by go_num, by rw [HN.out, ← Hn.out], by rw [Hst2.out], d2 + nq, rfl⟩
              case measure => simp [intOf]; omega
            · have hnr : ¬ n % p = r := fun h => hyr (by rw [← hy, ← Int.natCast_emod, h])
              obtain ⟨j, hj, e1, e2⟩ := nrS_found f n hJ.out
              rw [hS.out] at e1
              have hj0 : j ≠ 0 := fun e => hnr (by rw [e] at e2; simpa using e2)
              obtain ⟨j, rfl⟩ := Nat.exists_eq_succ_of_ne_zero hj0
              obtain ⟨f, rfl⟩ : ∃ f', f = f' + 1 := ⟨f - 1, by omega⟩
              have hle : n + P ≤ N := by rw [e1, Nat.succ_mul]; omega
              have Hn : Hid (nrS p r P f (n + P) = N) := by show _ = _; rw [← hS.out, nrS_miss hnr]
              have HJ : Hid (∃ j, j < f ∧ (n + P + j * P) % p = r) := ⟨j, by omega, by rw [show n + P + j * P = n + (j + 1) * P by rw [Nat.succ_mul]; omega]; exact e2⟩
              have hyb : (y != (r : Int)) = true := by rw [bne, beq_eq_false_iff_ne.2 hyr]; rfl
              clear hnr hyr e1 e2 hj0 hj
              go_wp2_with fail
              go_quiet (fail)
              go_wp2
              go_roundw
              case rel => exact ⟨n + P, f, by go_num, by omega, Hn, HJ, d2 + nq, rfl⟩
              case measure => simp [intOf]; omega
        · have Hk2 := Lib.hid (show k = m2 by omega)
          go_wp2
          go_ret2
          exact ⟨by rw [H1.out, H2.out, ← Hk2.out]; rfl, below_drewN b1 _⟩

set_option maxRecDepth 100000 in
set_option maxHeartbeats 800000 in
theorem impl_RestsOfNumber_c (w : World) (A : Option Addr) (m c : Nat) (xs : List Int) (hA : Il w A xs) (hm : m = xs.length) (hn : m ≤ 1048576) (hmc : m ≤ c) (n : Int) :
    Calls Try.prog 56 #[.slice A m c, .int .i64 n] w fun en w' => (∃ v, en = .returned (.tuple #[v, .bool (rnO xs n)]) ∧ OwnI w' w.heap.size v (rnV xs n)) ∧ Below w.heap.size w w' := by
  have Hm := Lib.hid hm
  clear hm
  cases hg : dpB xs with
  | false =>
    have ho : rnO xs n = false := by first | (rw [rnO, hg]; rfl) | (rw [rnO, inB_false.2 (by omega), Bool.and_false])
    rw [rnV_no ho, ho]
    clear ho
    go_enter Try.func56, Try.ntmps56
    go_wp2_with fail
    refine (arePrimesTold_c _ _ _ _ xs hA Hm.out hn hmc).mono ?_
    rintro e w1 ⟨rfl, b1⟩
    have hA_1 := hA.below b1
    go_wp2
    go_ret2
    exact ⟨⟨_, rfl, OwnI.nil _ _⟩, b1⟩
  | true =>
    by_cases ha : 0 ≤ n
    rotate_left
    · skip
      have ho : rnO xs n = false := by first | (rw [rnO, hg]; rfl) | (rw [rnO, inB_false.2 (by omega), Bool.and_false])
      rw [rnV_no ho, ho]
      clear ho
      go_enter Try.func56, Try.ntmps56
      go_wp2_with fail
      refine (arePrimesTold_c _ _ _ _ xs hA Hm.out hn hmc).mono ?_
      rintro e w1 ⟨rfl, b1⟩
      have hA_1 := hA.below b1
      go_wp2
      go_ret2
      exact ⟨⟨_, rfl, OwnI.nil _ _⟩, b1⟩
    · skip
      by_cases hb : n ≤ 1000000000
      rotate_left
      · skip
        have ho : rnO xs n = false := by first | (rw [rnO, hg]; rfl) | (rw [rnO, inB_false.2 (by omega), Bool.and_false])
        rw [rnV_no ho, ho]
        clear ho
        go_enter Try.func56, Try.ntmps56
        go_wp2_with fail
        refine (arePrimesTold_c _ _ _ _ xs hA Hm.out hn hmc).mono ?_
        rintro e w1 ⟨rfl, b1⟩
        have hA_1 := hA.below b1
        go_wp2
        go_ret2
        exact ⟨⟨_, rfl, OwnI.nil _ _⟩, b1⟩
      · skip
        have ho : rnO xs n = true := by rw [rnO, hg, inB_true.2 ⟨ha, hb⟩]; rfl
        rw [rnV_yes ho, ho]
        clear ho
        have h6 : m ≤ 6 := by have := Hm.out; have := (dpB_iff.1 hg).1; omega
        have hmk := fun W => mk_full Try.underlying22 info_I m (by omega) (by omega) W
        have Hg := Lib.hid hg
        go_enter Try.func56, Try.ntmps56
        go_wp2_with fail
        refine (arePrimesTold_c _ _ _ _ xs hA Hm.out hn hmc).mono ?_
        rintro e w1 ⟨rfl, b1⟩
        have hA_1 := hA.below b1
        have hml := mk_owns (e := 3) #[.int .i64 0] 1 m (by unfold maxLen; omega) w1
        rw [Nat.mul_one] at hml
        go_wp2_with fail
        clear hmk
        go_loopw [25] (fun i wr => ∃ k : Nat, k ≤ m ∧ i = .int .i64 (k : Int) ∧ (∃ ys, wr.ownsRow w1.heap.size 3 1 (.slice (some ⟨w1.heap.size, 0, none⟩) m m) m ys ∧ ∀ j, j < k → ys[j]? = some (.int .i64 (n % ivL xs j))) ∧ Below w1.heap.size w1 wr) (fun i _ => m - (intOf i).toNat)
        case atStart => exact ⟨0, Nat.zero_le _, rfl, ⟨_, hml, by omega⟩, (Below.refl _ _).alloc (Nat.le_refl _) _⟩
        case round =>
          clear hml
          obtain ⟨k, hk, rfl, ⟨ys, hown, hxs⟩, hbel⟩ := hrel
          have Hxs := Lib.hid hxs
          have Hown := Lib.hid hown
          clear hxs hown
          have hs := hbel.size
          by_cases hlt : k < m
          · obtain ⟨b, off, rfl, hb, hr⟩ := (hA_1) (by have := Hm.out; omega)
            have hck := (hbel.cell (p := ⟨b, off + k, none⟩) hb).trans (hr k (by have := Hm.out; omega))
            have hd := dpB_at Hg.out (i := k) (by have := Hm.out; omega)
            clear hr
            obtain ⟨p, hp⟩ : ∃ p, ivL xs k = p := ⟨_, rfl⟩
            rw [hp] at hck hd
            have Hp := Lib.hid hp
            clear hp
            have hz : (p == 0) = false := beq_eq_false_iff_ne.2 (by omega)
            obtain ⟨x0, hx0, hf0⟩ := own_get Hown.out k (by omega)
            go_wp2
            go_roundw
            case rel =>
              have h2 := (Hown.out.stored k (.int .i64 (n % p))).1
              refine ⟨k + 1, by omega, by go_num, ⟨_, h2, fun j hj => ?_⟩, hbel.setCell (Nat.le_refl _) _⟩
              have hxl : ys.length = m * 1 := Hown.out.1
              rcases Nat.lt_succ_iff_lt_or_eq.1 hj with h | h
              · rw [List.getElem?_set_ne (by omega)]
                exact Hxs.out j h
              · subst h
                rw [List.getElem?_set_self (by omega), Hp.out]
            case measure => simp [intOf]; omega
          · have hkm : k = m := by omega
            have hong : OwnI wr w1.heap.size (.slice (some ⟨w1.heap.size, 0, none⟩) m m) (xs.map (fun p => n % p)) := by
              have h := Hown.out
              have : ys = (xs.map (fun p => n % p)).map (Value.int .i64) := cellsI_of (by rw [h.1, Nat.mul_one, List.length_map]; exact Hm.out) (fun j hj => by
                rw [List.length_map] at hj
                rw [Hxs.out j (by have := Hm.out; omega)]
                simp [ivL, hj])
              subst this
              rw [OwnI, List.length_map, ← Hm.out]
              exact h
            have Hong := Lib.hid hong
            clear hong Hown Hxs
            go_wp2
            go_ret2
            exact ⟨⟨_, rfl, OwnI.mono Hong.out (b1).size⟩, (b1).trans (hbel.mono (b1).size)⟩

end Go.Proofs.Ytgnmookklplnmaa
