import Derived.Test.YtgnmookklplnmaaV4
import Derived.Test.YtgnmookklplnmaaT7
namespace Go.Proofs.Ytgnmookklplnmaa
open Go.RowKit
set_option linter.unusedVariables false
set_option linter.unusedSimpArgs false

set_option maxRecDepth 100000 in
set_option maxHeartbeats 800000 in
theorem takenPlace_c (w : World) (K : Nat) (hK : K ≤ 600) (p : Int → Bool) (bp : Nat)
    (hcl : ∀ n : Nat, 1 ≤ n → n ≤ K → ∀ W, Below w.heap.size w W → Calls Try.prog 114 #[.int .i64 (n : Int), .pointer (some ⟨bp, 0, none⟩)] W fun e W' => e = .returned (.bool (p (n : Int))) ∧ Below W.heap.size W W') :
    Calls Try.prog 90 #[.int .i64 (K : Int), .func (.func 114) #[] #[.pointer (some ⟨bp, 0, none⟩)]] w fun en w' => (∃ v, en = .returned v ∧ OwnI w' w.heap.size v (upF p K)) ∧ Below w.heap.size w w' := by
  have Hcl := Lib.hid hcl
  clear hcl
  go_enter Try.func90, Try.ntmps90
  go_wp2
  go_loopw [5, 6] (fun v i wr => ∃ k : Nat, k ≤ K ∧ i = .int .i64 ((k : Int) + 1) ∧ OwnI wr w.heap.size v (upF p k) ∧ Below w.heap.size w wr) (fun _ i _ => K + 1 - (intOf i).toNat)
  case atStart => exact ⟨0, Nat.zero_le _, rfl, OwnI.nil _ _, Below.refl _ _⟩
  case round =>
    obtain ⟨k, hk, rfl, hown, hbel⟩ := hrel
    have Hown := Lib.hid hown
    clear hown
    have hs := hbel.size
    by_cases hlt : k < K
    · have hul := upF_len p k
      have Hc := Lib.hid (Hcl.out (k + 1) (by omega) (by omega) _ hbel)
      cases hl : p ((k : Int) + 1) with
      | true =>
        have Hy := Lib.hid (upF_yes hl)
        have Hl : Hid (p ((k + 1 : Nat) : Int) = true) := hl
        clear hl
        go_wp2_with fail
        refine Hc.out.mono ?_
        rw [Hl.out]
        rintro e w5 ⟨rfl, b5⟩
        have Hown5 := Lib.hid (OwnI.below Hown.out b5)
        have hb5 := hbel.trans (b5.mono hs)
        have hs5 := hb5.size
        go_wp2_with (at_builtin; refine wp_app_int _ rfl _ _ rfl w.heap.size _ _ rfl Hown5.out _ rfl (by omega) hs5 ?_; intro v' w6 hown6 b6)
        go_roundw
        case rel => exact ⟨k + 1, by omega, by go_num, by rw [Hy.out]; exact hown6, hb5.trans b6⟩
        case measure => simp [intOf]; omega
      | false =>
        have Hy := Lib.hid (upF_no hl)
        have Hl : Hid (p ((k + 1 : Nat) : Int) = false) := hl
        clear hl
        go_wp2_with fail
        refine Hc.out.mono ?_
        rw [Hl.out]
        rintro e w5 ⟨rfl, b5⟩
        have Hown5 := Lib.hid (OwnI.below Hown.out b5)
        go_wp2
        go_roundw
        case rel => exact ⟨k + 1, by omega, by go_num, by rw [Hy.out]; exact Hown5.out, hbel.trans (b5.mono hs)⟩
        case measure => simp [intOf]; omega
    · have hkK : k = K := by omega
      subst hkK
      go_wp2
      go_ret
      exact ⟨⟨_, rfl, Hown.out⟩, hbel⟩

set_option maxRecDepth 100000 in
set_option maxHeartbeats 800000 in
theorem takenPrime_c (w : World) (K : Nat) (hK : K ≤ 600) (p : Int → Bool) (bp : Nat)
    (hcl : ∀ n : Nat, 1 ≤ n → n ≤ K → ∀ W, Below w.heap.size w W → Calls Try.prog 93 #[.int .i64 (n : Int), .pointer (some ⟨bp, 0, none⟩)] W fun e W' => e = .returned (.bool (p (n : Int))) ∧ Below W.heap.size W W') :
    Calls Try.prog 90 #[.int .i64 (K : Int), .func (.func 93) #[] #[.pointer (some ⟨bp, 0, none⟩)]] w fun en w' => (∃ v, en = .returned v ∧ OwnI w' w.heap.size v (upF p K)) ∧ Below w.heap.size w w' := by
  have Hcl := Lib.hid hcl
  clear hcl
  go_enter Try.func90, Try.ntmps90
  go_wp2
  go_loopw [5, 6] (fun v i wr => ∃ k : Nat, k ≤ K ∧ i = .int .i64 ((k : Int) + 1) ∧ OwnI wr w.heap.size v (upF p k) ∧ Below w.heap.size w wr) (fun _ i _ => K + 1 - (intOf i).toNat)
  case atStart => exact ⟨0, Nat.zero_le _, rfl, OwnI.nil _ _, Below.refl _ _⟩
  case round =>
    obtain ⟨k, hk, rfl, hown, hbel⟩ := hrel
    have Hown := Lib.hid hown
    clear hown
    have hs := hbel.size
    by_cases hlt : k < K
    · have hul := upF_len p k
      have Hc := Lib.hid (Hcl.out (k + 1) (by omega) (by omega) _ hbel)
      cases hl : p ((k : Int) + 1) with
      | true =>
        have Hy := Lib.hid (upF_yes hl)
        have Hl : Hid (p ((k + 1 : Nat) : Int) = true) := hl
        clear hl
        go_wp2_with fail
        refine Hc.out.mono ?_
        rw [Hl.out]
        rintro e w5 ⟨rfl, b5⟩
        have Hown5 := Lib.hid (OwnI.below Hown.out b5)
        have hb5 := hbel.trans (b5.mono hs)
        have hs5 := hb5.size
        go_wp2_with (at_builtin; refine wp_app_int _ rfl _ _ rfl w.heap.size _ _ rfl Hown5.out _ rfl (by omega) hs5 ?_; intro v' w6 hown6 b6)
        go_roundw
        case rel => exact ⟨k + 1, by omega, by go_num, by rw [Hy.out]; exact hown6, hb5.trans b6⟩
        case measure => simp [intOf]; omega
      | false =>
        have Hy := Lib.hid (upF_no hl)
        have Hl : Hid (p ((k + 1 : Nat) : Int) = false) := hl
        clear hl
        go_wp2_with fail
        refine Hc.out.mono ?_
        rw [Hl.out]
        rintro e w5 ⟨rfl, b5⟩
        have Hown5 := Lib.hid (OwnI.below Hown.out b5)
        go_wp2
        go_roundw
        case rel => exact ⟨k + 1, by omega, by go_num, by rw [Hy.out]; exact Hown5.out, hbel.trans (b5.mono hs)⟩
        case measure => simp [intOf]; omega
    · have hkK : k = K := by omega
      subst hkK
      go_wp2
      go_ret
      exact ⟨⟨_, rfl, Hown.out⟩, hbel⟩

set_option maxRecDepth 100000 in
set_option maxHeartbeats 800000 in
theorem takenAdd_c (w : World) (K : Nat) (hK : K ≤ 600) (p : Int → Bool) (bp : Nat)
    (hcl : ∀ n : Nat, 1 ≤ n → n ≤ K → ∀ W, Below w.heap.size w W → Calls Try.prog 100 #[.int .i64 (n : Int), .pointer (some ⟨bp, 0, none⟩)] W fun e W' => e = .returned (.bool (p (n : Int))) ∧ Below W.heap.size W W') :
    Calls Try.prog 90 #[.int .i64 (K : Int), .func (.func 100) #[] #[.pointer (some ⟨bp, 0, none⟩)]] w fun en w' => (∃ v, en = .returned v ∧ OwnI w' w.heap.size v (upF p K)) ∧ Below w.heap.size w w' := by
  have Hcl := Lib.hid hcl
  clear hcl
  go_enter Try.func90, Try.ntmps90
  go_wp2
  go_loopw [5, 6] (fun v i wr => ∃ k : Nat, k ≤ K ∧ i = .int .i64 ((k : Int) + 1) ∧ OwnI wr w.heap.size v (upF p k) ∧ Below w.heap.size w wr) (fun _ i _ => K + 1 - (intOf i).toNat)
  case atStart => exact ⟨0, Nat.zero_le _, rfl, OwnI.nil _ _, Below.refl _ _⟩
  case round =>
    obtain ⟨k, hk, rfl, hown, hbel⟩ := hrel
    have Hown := Lib.hid hown
    clear hown
    have hs := hbel.size
    by_cases hlt : k < K
    · have hul := upF_len p k
      have Hc := Lib.hid (Hcl.out (k + 1) (by omega) (by omega) _ hbel)
      cases hl : p ((k : Int) + 1) with
      | true =>
        have Hy := Lib.hid (upF_yes hl)
        have Hl : Hid (p ((k + 1 : Nat) : Int) = true) := hl
        clear hl
        go_wp2_with fail
        refine Hc.out.mono ?_
        rw [Hl.out]
        rintro e w5 ⟨rfl, b5⟩
        have Hown5 := Lib.hid (OwnI.below Hown.out b5)
        have hb5 := hbel.trans (b5.mono hs)
        have hs5 := hb5.size
        go_wp2_with (at_builtin; refine wp_app_int _ rfl _ _ rfl w.heap.size _ _ rfl Hown5.out _ rfl (by omega) hs5 ?_; intro v' w6 hown6 b6)
        go_roundw
        case rel => exact ⟨k + 1, by omega, by go_num, by rw [Hy.out]; exact hown6, hb5.trans b6⟩
        case measure => simp [intOf]; omega
      | false =>
        have Hy := Lib.hid (upF_no hl)
        have Hl : Hid (p ((k + 1 : Nat) : Int) = false) := hl
        clear hl
        go_wp2_with fail
        refine Hc.out.mono ?_
        rw [Hl.out]
        rintro e w5 ⟨rfl, b5⟩
        have Hown5 := Lib.hid (OwnI.below Hown.out b5)
        go_wp2
        go_roundw
        case rel => exact ⟨k + 1, by omega, by go_num, by rw [Hy.out]; exact Hown5.out, hbel.trans (b5.mono hs)⟩
        case measure => simp [intOf]; omega
    · have hkK : k = K := by omega
      subst hkK
      go_wp2
      go_ret
      exact ⟨⟨_, rfl, Hown.out⟩, hbel⟩

theorem leftF_iff2 (rs : List (Int × Int)) (n : Int) : leftF rs n = true ↔ ∀ r ∈ rs, crossF r.1 r.2 n = false := by
  rw [leftF, decide_eq_true_eq, fIdx, List.findIdx_eq_length]
theorem mem_rpL {p : Nat} {rs : List Int} {r : Int × Int} : r ∈ rpL p rs ↔ r.1 = (p : Int) ∧ r.2 ∈ rs := by
  rw [rpL, List.mem_map]
  constructor
  · rintro ⟨x, hx, rfl⟩; exact ⟨rfl, hx⟩
  · rintro ⟨h1, h2⟩; exact ⟨r.2, h2, by rw [← h1]⟩
theorem mem_ruA {xs : List Int} {r : Int × Int} : ∀ N, N ≤ 6 → (r ∈ ruA xs N ↔ ∃ k, k < N ∧ r.1 = (rpF k : Int) ∧ r.2 ∈ rsA (ngL xs) (rpF k))
  | 0, _ => by simp [ruA]
  | N + 1, h => by
    rw [ruA_neg (by omega), List.mem_append, mem_ruA N (by omega), mem_rpL]
    constructor
    · rintro (⟨k, a, b⟩ | b)
      · exact ⟨k, by omega, b⟩
      · exact ⟨N, by omega, b⟩
    · rintro ⟨k, a, b⟩
      by_cases hk : k = N
      · subst hk; exact .inr b
      · exact .inl ⟨k, by omega, b⟩
theorem ruA_ok {xs : List Int} {N : Nat} (h6 : N ≤ 6) {k : Nat} (hk : k < (ruA xs N).length) : 2 ≤ evL (ruA xs N) k ∧ evL (ruA xs N) k ≤ 60 ∧ 0 ≤ reL (ruA xs N) k ∧ reL (ruA xs N) k < evL (ruA xs N) k := by
  obtain ⟨j, hj, e1, e2⟩ := (mem_ruA N h6).1 (List.getElem_mem hk)
  have hp := rpF_all j (by omega)
  obtain ⟨q, hq, _, e3⟩ := (rsF_mem (rpF j)).1 e2
  have h1 : evL (ruA xs N) k = (ruA xs N)[k].1 := by simp [evL, hk]
  have h2 : reL (ruA xs N) k = (ruA xs N)[k].2 := by simp [reL, hk]
  rw [h1, h2, e1, e3]
  omega
theorem ruA_left {xs : List Int} {N : Nat} (h6 : N ≤ 6) (n : Int) : leftF (ruA xs N) n = plcB xs N n := by
  rw [Bool.eq_iff_iff, leftF_iff2, plcB, decide_eq_true_eq]
  constructor
  · intro h k hk q hq h0
    obtain ⟨p2, p13⟩ := rpF_all k (by omega)
    have r0 := Int.emod_nonneg n (b := (rpF k : Int)) (by omega)
    have r1 := Int.emod_lt_of_pos n (b := (rpF k : Int)) (by omega)
    obtain ⟨r, hr⟩ := Int.eq_ofNat_of_zero_le r0
    have hh : (-ivL xs q) % (rpF k : Int) = (r : Int) := by
      rw [← hr]
      refine Int.emod_eq_emod_iff_emod_sub_eq_zero.2 (Int.emod_eq_zero_of_dvd ?_)
      rw [show -ivL xs q - n = -(n + ivL xs q) by omega]
      exact Int.dvd_neg.2 (Int.dvd_of_emod_eq_zero h0)
    have hm : ((rpF k : Int), (r : Int)) ∈ ruA xs N := (mem_ruA N h6).2 ⟨k, hk, rfl, (rsF_mem (rpF k)).2 ⟨r, by omega, hasR_yes (k := q) (by rw [ngL_len]; exact hq) (by rw [ngL_at hq]; exact hh), rfl⟩⟩
    have h2 := h _ hm
    rw [crossF_true.2 hr] at h2
    cases h2
  · intro h r hr
    obtain ⟨k, hk, e1, e2⟩ := (mem_ruA N h6).1 hr
    obtain ⟨j, hj, hh, e3⟩ := (rsF_mem (rpF k)).1 e2
    obtain ⟨q, hq, h4⟩ := hasR_iff.1 hh
    rw [ngL_len] at hq
    rw [ngL_at hq] at h4
    rw [e1, e3]
    refine crossF_false.2 fun h5 => h k hk q hq ?_
    have h6 : n % (rpF k : Int) = (-ivL xs q) % (rpF k : Int) := (show restF n (rpF k : Int) = (j : Int) from h5).trans h4.symm
    have h7 := Int.emod_eq_emod_iff_emod_sub_eq_zero.1 h6
    rwa [show n - -ivL xs q = n + ivL xs q by omega] at h7

set_option maxHeartbeats 800000 in
/-- firstCrosser, however many rules there are. -/
theorem firstCrosserW_c (A : Option Addr) (c m : Nat) (rs : List (Int × Int)) (n : Int) (w : World) (hA : Rl w A rs) (hm : m = rs.length) (h12 : m ≤ 1048576) (hg : ∀ k, k < rs.length → 2 ≤ evL rs k ∧ evL rs k ≤ 60 ∧ 0 ≤ reL rs k ∧ reL rs k < evL rs k) (h1 : -10000000000000 ≤ n) (h2 : n ≤ 10000000000000) :
    Calls Try.prog 121 #[.slice A m c, .int .i64 n] w fun en w' => en = .returned (.tuple #[.int .i64 (firstK rs n), .bool (crossedB rs n)]) ∧ Below w.heap.size w w' := by
  have Hm := Lib.hid hm
  have Hg := Lib.hid hg
  clear hm hg
  go_enter Try.func121, Try.ntmps121
  go_wp2
  go_loopw [10] (fun i wr => ∃ k : Nat, k ≤ m ∧ i = .int .i64 k ∧ (∀ j, j < k → crossAt rs n j = false) ∧ Below w.heap.size w wr) (fun i _ => m - (intOf i).toNat)
  case atStart => exact ⟨0, Nat.zero_le _, rfl, by omega, Below.refl _ _⟩
  case round =>
    obtain ⟨k, hk, rfl, hall, hbel⟩ := hrel
    have Hall := Lib.hid hall
    clear hall
    by_cases hlt : k < m
    · have hlt1 : k < rs.length := by have := Hm.out; omega
      obtain ⟨b, off, rfl, hb, hr⟩ := hA (by omega)
      have hc0 := (hbel.cell (p := ⟨b, off + k * 2, none⟩) hb).trans (hr k hlt1).1
      have hc1 := (hbel.cell (p := ⟨b, off + k * 2 + 1, none⟩) hb).trans (hr k hlt1).2
      obtain ⟨e1, e2, e3, e4⟩ := Hg.out k hlt1
      have hs := hbel.size
      cases hok : crossAt rs n k with
      | true =>
        have hd : crossF (evL rs k) (reL rs k) n = true := hok
        go_wp2_with (go_at_call 125; refine (crosses_c _ _ _ _ h1 h2 e1 e2).mono ?_; rintro e w' ⟨rfl, hb1⟩)
        go_ret2
        exact ⟨by rw [(firstK_of hlt1 Hall.out hok).1, (firstK_of hlt1 Hall.out hok).2]; rfl, (hbel.alloc hs _).trans (hb1.mono (by simp; omega))⟩
      | false =>
        have hd : crossF (evL rs k) (reL rs k) n = false := hok
        go_wp2_with (go_at_call 125; refine (crosses_c _ _ _ _ h1 h2 e1 e2).mono ?_; rintro e w' ⟨rfl, hb1⟩)
        go_roundw
        case rel => exact ⟨k + 1, by omega, by go_num, fun j hj => by rcases Nat.lt_succ_iff_lt_or_eq.1 hj with h | h; exact Hall.out j h; rw [h]; exact hok, (hbel.alloc hs _).trans (hb1.mono (by simp; omega))⟩
        case measure => simp [intOf]; omega
    · go_wp2
      go_ret2
      have hno := firstK_none (rs := rs) (n := n) fun j hj => Hall.out j (by have := Hm.out; omega)
      exact ⟨by rw [hno.1, hno.2]; rfl, hbel⟩
set_option maxHeartbeats 400000 in
theorem isLeftW_c (A : Option Addr) (c m : Nat) (rs : List (Int × Int)) (n : Int) (w : World) (hA : Rl w A rs) (hm : m = rs.length) (h12 : m ≤ 1048576) (hg : ∀ k, k < rs.length → 2 ≤ evL rs k ∧ evL rs k ≤ 60 ∧ 0 ≤ reL rs k ∧ reL rs k < evL rs k) (h1 : -10000000000000 ≤ n) (h2 : n ≤ 10000000000000) :
    Calls Try.prog 115 #[.slice A m c, .int .i64 n] w fun en w' => en = .returned (.bool (leftF rs n)) ∧ Below w.heap.size w w' := by
  have Hm := Lib.hid hm
  have Hg := Lib.hid hg
  clear hm hg
  rw [← leftF_crossed]
  go_enter Try.func115, Try.ntmps115
  go_wp2_with (go_at_call 121; refine (firstCrosserW_c _ _ _ rs _ _ hA Hm.out h12 Hg.out h1 h2).mono ?_; rintro e w' ⟨rfl, hb1⟩)
  go_ret
  exact ⟨rfl, hb1⟩

set_option maxRecDepth 100000 in
set_option maxHeartbeats 400000 in
theorem placeOf1_c (w : World) (bp : Nat) (A : Option Addr) (m c : Nat) (rs : List (Int × Int)) (hc : w.cell? ⟨bp, 0, none⟩ = some (.slice A m c)) (hA : Rl w A rs) (hm : m = rs.length) (h12 : m ≤ 1048576) (hg : ∀ k, k < rs.length → 2 ≤ evL rs k ∧ evL rs k ≤ 60 ∧ 0 ≤ reL rs k ∧ reL rs k < evL rs k) (n : Int) (h1 : -10000000000000 ≤ n) (h2 : n ≤ 10000000000000) :
    Calls Try.prog 114 #[.int .i64 n, .pointer (some ⟨bp, 0, none⟩)] w fun en w' => en = .returned (.bool (leftF rs n)) ∧ Below w.heap.size w w' := by
  have Hc := Lib.hid (isLeftW_c A c m rs n w hA hm h12 hg h1 h2)
  clear hA hm hg
  go_enter Try.func114, Try.ntmps114
  go_wp2_with fail
  refine Hc.out.mono ?_
  rintro e w1 ⟨rfl, b1⟩
  go_wp2
  go_ret
  exact ⟨rfl, b1⟩

set_option maxRecDepth 100000 in
set_option maxHeartbeats 800000 in
theorem placeOf_c (w : World) (A : Option Addr) (m c : Nat) (xs : List Int) (hA : Il w A xs) (hm : m = xs.length) (hn : m ≤ 1048576) (hx : ∀ k, k < xs.length → 0 ≤ ivL xs k ∧ ivL xs k ≤ 1000000) (N : Nat) (h6 : N ≤ 6) :
    Calls Try.prog 91 #[.slice A m c, .int .i64 (N : Int)] w fun en w' => (∃ bp A2 c2, en = .returned (.func (.func 114) #[] #[.pointer (some ⟨bp, 0, none⟩)]) ∧ bp < w'.heap.size ∧ w'.cell? ⟨bp, 0, none⟩ = some (.slice A2 (ruA xs N).length c2) ∧ Rl w' A2 (ruA xs N)) ∧ Below w.heap.size w w' := by
  have Hc := Lib.hid (rulesOfPattern_c w A m c xs hA hm hn hx N h6)
  have hmf : ∀ (fn : Fn) (first cap : Array Value) (w : World), (Instr.makeFunc fn first cap).run Try.prog w = .ok (.func fn first cap) w := fun _ _ _ _ => rfl
  clear hA hm hx
  go_enter Try.func91, Try.ntmps91
  go_wp2_with fail
  refine Hc.out.mono ?_
  rintro e w1 ⟨⟨v1, rfl, o1⟩, b1⟩
  obtain ⟨A2, c2, rfl⟩ := o1.shape
  have R1 := Lib.hid (Rl_of_own o1 rfl)
  clear o1 Hc
  go_wp2
  go_ret
  have b2 : Below w1.heap.size w1 (w1.alloc (.cells #[.slice A2 (ruA xs N).length c2] 44)) := (Below.refl _ _).alloc (Nat.le_refl _) _
  exact ⟨⟨_, A2, c2, rfl, by simp, by simp, Rl.below R1.out b2⟩, b1.trans (b2.mono b1.size)⟩

set_option maxRecDepth 100000 in
set_option maxHeartbeats 800000 in
theorem primePlaces1_c (w : World) (bp : Nat) (A : Option Addr) (m c : Nat) (xs : List Int) (hc : w.cell? ⟨bp, 0, none⟩ = some (.slice A m c)) (hA : Il w A xs) (hm : m = xs.length) (hn : m ≤ 1048576) (hx : ∀ k, k < xs.length → 0 ≤ ivL xs k ∧ ivL xs k ≤ 1000000) (n : Nat) (h1 : n ≤ 600) :
    Calls Try.prog 93 #[.int .i64 (n : Int), .pointer (some ⟨bp, 0, none⟩)] w fun en w' => en = .returned (.bool (pwF xs xs.length (n : Int))) ∧ Below w.heap.size w w' := by
  have Hm := Lib.hid hm
  have Hx := Lib.hid hx
  clear hm hx
  obtain ⟨T, hT⟩ : ∃ T, pwF xs xs.length (n : Int) = T := ⟨_, rfl⟩
  rw [hT]
  have HT := Lib.hid hT
  have Hno : Hid (∀ k, k < m → primeB ((n : Int) + ivL xs k).toNat = false → T = false) := fun k hk hp => by
    rw [← hT, pwF, List.all_eq_false]
    exact ⟨k, List.mem_range.2 (by have := Hm.out; omega), by rw [hp]; exact Bool.false_ne_true⟩
  have Hyes : Hid (pwF xs m (n : Int) = true → T = true) := fun h => by rw [← hT, ← Hm.out]; exact h
  clear hT
  go_enter Try.func93, Try.ntmps93
  go_wp2
  go_loop [8] (fun i => ∃ k : Nat, k ≤ m ∧ i = .int .i64 (k : Int) ∧ Hid (pwF xs k (n : Int) = true)) (fun i => m - (intOf i).toNat)
  case atStart => exact ⟨0, Nat.zero_le _, rfl, by show pwF xs 0 _ = true; rfl⟩
  case round =>
    obtain ⟨k, hk, rfl, hD⟩ := hrel
    by_cases hlt : k < m
    · obtain ⟨b, off, rfl, hb, hr⟩ := hA (by have := Hm.out; omega)
      have hck := hr k (by have := Hm.out; omega)
      have hxk := Hx.out k (by have := Hm.out; omega)
      have Hsu := Lib.hid (pwF_succ xs k (n : Int))
      have Hn := Lib.hid (Hno.out k hlt)
      obtain ⟨x, hx⟩ : ∃ x, ivL xs k = x := ⟨_, rfl⟩
      rw [hx] at hck hxk Hsu Hn
      clear hr hx
      cases hp : primeB ((n : Int) + x).toNat with
      | true =>
        have Hy : Hid (pwF xs (k + 1) (n : Int) = true) := by show _ = _; rw [Hsu.out, hD.out, hp]; rfl
        have Hp := Lib.hid hp
        clear hp
        go_wp2_with fail
        refine (isPrime_c _ _ (by omega)).mono ?_
        rw [Hp.out]
        rintro e w' ⟨rfl, rfl⟩
        go_wp2
        go_round
        case rel => exact ⟨k + 1, by omega, by go_num, Hy⟩
        case measure => simp [intOf]; omega
      | false =>
        have Hy := Lib.hid (Hn.out hp)
        have Hp := Lib.hid hp
        clear hp
        go_wp2_with fail
        refine (isPrime_c _ _ (by omega)).mono ?_
        rw [Hp.out]
        rintro e w' ⟨rfl, rfl⟩
        go_wp2
        go_ret
        exact ⟨by rw [Hy.out]; rfl, Below.refl _ _⟩
    · have Hy : Hid (T = true) := Hyes.out (by rw [show m = k by omega]; exact hD.out)
      go_wp2
      go_ret
      exact ⟨by rw [Hy.out]; rfl, Below.refl _ _⟩

set_option maxRecDepth 100000 in
set_option maxHeartbeats 800000 in
theorem impl_FirstPlaces_c (w : World) (A : Option Addr) (m c : Nat) (xs : List Int) (hA : Il w A xs) (hm : m = xs.length) (hn : m ≤ 1048576) (n M : Int) :
    Calls Try.prog 50 #[.slice A m c, .int .i64 n, .int .i64 M] w fun en w' => (∃ v, en = .returned (.tuple #[v, .bool (fpO xs n M)]) ∧ OwnI w' w.heap.size v (fpV xs n M)) ∧ Below w.heap.size w w' := by
  have Hm := Lib.hid hm
  clear hm
  cases hg : goodP xs with
  | false =>
    have ho : fpO xs n M = false := by first | (simp [fpO, akO, *]; done) | (rw [fpO, show inB M 0 600 = false from hj, Bool.and_false])
    rw [fpV_no ho, ho]
    clear ho
    go_enter Try.func50, Try.ntmps50
    go_wp2_with fail
    refine (implIsPattern_c _ _ _ _ xs hA Hm.out hn).mono ?_
    rintro e w1 ⟨rfl, b1⟩
    have hA_1 := hA.below b1
    go_wp2
    go_ret2
    exact ⟨⟨_, rfl, OwnI.nil _ _⟩, b1⟩
  | true =>
    cases hk : inB n 0 6 with
    | false =>
      have ho : fpO xs n M = false := by first | (simp [fpO, akO, *]; done) | (rw [fpO, show inB M 0 600 = false from hj, Bool.and_false])
      rw [fpV_no ho, ho]
      clear ho
      go_enter Try.func50, Try.ntmps50
      go_wp2_with fail
      refine (implIsPattern_c _ _ _ _ xs hA Hm.out hn).mono ?_
      rintro e w1 ⟨rfl, b1⟩
      have hA_1 := hA.below b1
      go_wp2_with fail
      refine (isCountTold_c _ _).mono ?_
      rintro e w2 ⟨rfl, rfl⟩
      go_wp2
      go_ret2
      exact ⟨⟨_, rfl, OwnI.nil _ _⟩, b1⟩
    | true =>
      cases hj : mostB M with
      | false =>
        have ho : fpO xs n M = false := by first | (simp [fpO, akO, *]; done) | (rw [fpO, show inB M 0 600 = false from hj, Bool.and_false])
        rw [fpV_no ho, ho]
        clear ho
        go_enter Try.func50, Try.ntmps50
        go_wp2_with fail
        refine (implIsPattern_c _ _ _ _ xs hA Hm.out hn).mono ?_
        rintro e w1 ⟨rfl, b1⟩
        have hA_1 := hA.below b1
        go_wp2_with fail
        refine (isCountTold_c _ _).mono ?_
        rintro e w2 ⟨rfl, rfl⟩
        go_wp2_with fail
        refine (isMost_c _ _).mono ?_
        rintro e w3 ⟨rfl, rfl⟩
        go_wp2
        go_ret2
        exact ⟨⟨_, rfl, OwnI.nil _ _⟩, b1⟩
      | true =>
        have hj2 : inB M 0 600 = true := hj
        have ho : fpO xs n M = true := by simp [fpO, akO, *]
        obtain ⟨n0, n6⟩ := inB_true.1 hk
        obtain ⟨m0, m6⟩ := inB_true.1 hj2
        obtain ⟨N, rfl⟩ := Int.eq_ofNat_of_zero_le n0
        obtain ⟨K, rfl⟩ := Int.eq_ofNat_of_zero_le m0
        rw [fpV_yes ho, ho]
        clear ho hj2
        have Hx := Lib.hid (goodP_small hg)
        have hla := ruA_len xs N (by omega)
        have Hok := Lib.hid (fun k (hk : k < (ruA xs N).length) => ruA_ok (xs := xs) (N := N) (by omega) hk)
        have Hle := Lib.hid (fun n => ruA_left (xs := xs) (N := N) (by omega) n)
        have Hg := Lib.hid hg
        have Hk := Lib.hid hk
        have Hj := Lib.hid hj
        go_enter Try.func50, Try.ntmps50
        go_wp2_with fail
        refine (implIsPattern_c _ _ _ _ xs hA Hm.out hn).mono ?_
        rintro e w1 ⟨rfl, b1⟩
        have hA_1 := hA.below b1
        go_wp2_with fail
        refine (isCountTold_c _ _).mono ?_
        rintro e w2 ⟨rfl, rfl⟩
        go_wp2_with fail
        refine (isMost_c _ _).mono ?_
        rintro e w3 ⟨rfl, rfl⟩
        go_wp2_with fail
        refine (placeOf_c _ _ _ _ xs hA_1 Hm.out hn Hx.out N (by omega)).mono ?_
        rintro e w5 ⟨⟨bp, A2, c2, rfl, hbp, hcp, hR⟩, b5⟩
        have Hcp := Lib.hid hcp
        have HR := Lib.hid hR
        clear hcp hR
        go_wp2_with fail
        refine (takenPlace_c w5 K (by omega) (plcB xs N) bp (fun q q1 q2 W hW => by
          have h := placeOf1_c W bp A2 _ c2 (ruA xs N) ((hW.cell (p := ⟨bp, 0, none⟩) hbp).trans Hcp.out) (Rl.below HR.out hW) rfl (by omega) Hok.out (q : Int) (by omega) (by omega)
          rwa [Hle.out] at h)).mono ?_
        rintro e w6 ⟨⟨v6, rfl, o6⟩, b6⟩
        go_wp2
        go_ret2
        exact ⟨⟨_, rfl, OwnI.mono o6 (Nat.le_trans (b1).size b5.size)⟩, (b1).trans ((b5.trans (b6.mono b5.size)).mono (b1).size)⟩

set_option maxRecDepth 100000 in
set_option maxHeartbeats 800000 in
theorem impl_PrimePlaces_c (w : World) (A : Option Addr) (m c : Nat) (xs : List Int) (hA : Il w A xs) (hm : m = xs.length) (hn : m ≤ 1048576) (M : Int) :
    Calls Try.prog 52 #[.slice A m c, .int .i64 M] w fun en w' => (∃ v, en = .returned (.tuple #[v, .bool (pwO xs M)]) ∧ OwnI w' w.heap.size v (pwV xs M)) ∧ Below w.heap.size w w' := by
  have Hm := Lib.hid hm
  clear hm
  have b0 : Below w.heap.size w (w.alloc (.cells #[.slice A m c] 22)) := (Below.refl _ _).alloc (Nat.le_refl _) _
  have hA0 := hA.below b0
  have hc0 : (w.alloc (.cells #[.slice A m c] 22)).cell? ⟨w.heap.size, 0, none⟩ = some (.slice A m c) := by simp
  have hs0 : w.heap.size < (w.alloc (.cells #[.slice A m c] 22)).heap.size := by simp
  have hmf : ∀ (fn : Fn) (first cap : Array Value) (w : World), (Instr.makeFunc fn first cap).run Try.prog w = .ok (.func fn first cap) w := fun _ _ _ _ => rfl
  cases hg : goodP xs with
  | false =>
    have ho : pwO xs M = false := by rw [pwO, hg]; rfl
    rw [pwV_no ho, ho]
    clear ho
    go_enter Try.func52, Try.ntmps52
    go_wp2_with fail
    refine (implIsPattern_c _ _ _ _ xs hA0 Hm.out hn).mono ?_
    rw [hg]
    rintro e w1 ⟨rfl, b1⟩
    go_wp2
    go_ret2
    exact ⟨⟨_, rfl, OwnI.nil _ _⟩, b0.trans (b1.mono b0.size)⟩
  | true =>
    have Hg := Lib.hid hg
    have Hx := Lib.hid (goodP_small hg)
    clear hg
    cases hj : mostB M with
    | false =>
      have ho : pwO xs M = false := by rw [pwO, show inB M 0 600 = false from hj, Bool.and_false]
      rw [pwV_no ho, ho]
      have Hj := Lib.hid hj
      clear ho hj
      go_enter Try.func52, Try.ntmps52
      go_wp2_with fail
      refine (implIsPattern_c _ _ _ _ xs hA0 Hm.out hn).mono ?_
      rw [Hg.out]
      rintro e w1 ⟨rfl, b1⟩
      go_wp2_with fail
      refine (isMost_c _ _).mono ?_
      rw [Hj.out]
      rintro e w2 ⟨rfl, rfl⟩
      go_wp2
      go_ret2
      exact ⟨⟨_, rfl, OwnI.nil _ _⟩, b0.trans (b1.mono b0.size)⟩
    | true =>
      have hj2 : inB M 0 600 = true := hj
      have ho : pwO xs M = true := by rw [pwO, Hg.out, hj2]; rfl
      obtain ⟨m0, m6⟩ := inB_true.1 hj2
      obtain ⟨K, rfl⟩ := Int.eq_ofNat_of_zero_le m0
      rw [pwV_yes ho, ho]
      have Hj := Lib.hid hj
      clear ho hj hj2
      go_enter Try.func52, Try.ntmps52
      go_wp2_with fail
      refine (implIsPattern_c _ _ _ _ xs hA0 Hm.out hn).mono ?_
      rw [Hg.out]
      rintro e w1 ⟨rfl, b1⟩
      have hA1 := Lib.hid (hA0.below b1)
      have hc1 := Lib.hid ((b1.cell (p := ⟨w.heap.size, 0, none⟩) hs0).trans hc0)
      have hs1 : w.heap.size < w1.heap.size := Nat.lt_of_lt_of_le hs0 b1.size
      have hb1 := b0.trans (b1.mono b0.size)
      go_wp2_with fail
      refine (isMost_c _ _).mono ?_
      rw [Hj.out]
      rintro e w2 ⟨rfl, rfl⟩
      clear hc0 hA0
      go_wp2_with fail
      refine (takenPrime_c _ K (by omega) (pwF xs xs.length) w.heap.size (fun q q1 q2 W hW => primePlaces1_c W _ A m c xs ((hW.cell (p := ⟨w.heap.size, 0, none⟩) hs1).trans hc1.out) (Il.below hA1.out hW) Hm.out hn Hx.out q (by omega))).mono ?_
      rintro e w6 ⟨⟨v6, rfl, o6⟩, b6⟩
      go_wp2
      go_ret2
      exact ⟨⟨_, rfl, OwnI.mono o6 hb1.size⟩, hb1.trans (b6.mono hb1.size)⟩

end Go.Proofs.Ytgnmookklplnmaa
