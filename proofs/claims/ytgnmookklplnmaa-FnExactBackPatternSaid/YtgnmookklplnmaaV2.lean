import Derived.Test.YtgnmookklplnmaaV1
namespace Go.Proofs.Ytgnmookklplnmaa
open Go.RowKit
set_option linter.unusedVariables false
set_option linter.unusedSimpArgs false

theorem pr9_six : pr9.take 6 = [2, 3, 5, 7, 11, 13] := by
  rw [← pr9_first (by decide)]
  decide +kernel
theorem pr9_at {k : Nat} (hk : k < 6) : ivL pr9 k = (rpF k : Int) := by
  rw [← ivL_take (xs := pr9) hk, pr9_six]
  match k, hk with
  | 0, _ => rfl
  | 1, _ => rfl
  | 2, _ => rfl
  | 3, _ => rfl
  | 4, _ => rfl
  | 5, _ => rfl
theorem reB_six (p : Int) : reB p = ([2, 3, 5, 7, 11, 13] : List Int).contains p := by
  rw [Bool.eq_iff_iff, reB_iff, List.contains_iff_mem]
  constructor
  · rintro ⟨k, hk, rfl⟩
    match k, hk with
    | 0, _ => decide
    | 1, _ => decide
    | 2, _ => decide
    | 3, _ => decide
    | 4, _ => decide
    | 5, _ => decide
  · intro h
    simp only [List.mem_cons, List.not_mem_nil, or_false] at h
    rcases h with rfl | rfl | rfl | rfl | rfl | rfl
    · exact ⟨0, by decide, rfl⟩
    · exact ⟨1, by decide, rfl⟩
    · exact ⟨2, by decide, rfl⟩
    · exact ⟨3, by decide, rfl⟩
    · exact ⟨4, by decide, rfl⟩
    · exact ⟨5, by decide, rfl⟩
/-- The primes up to a length of at most 8 are the first ones, one after the other. -/
theorem cl_list : ∀ m, m < 9 → (prB 2 m).length ≤ 4 ∧ (∀ k, k < (prB 2 m).length → ivL (prB 2 m) k = (rpF k : Int) ∧ rpF k ≤ m) ∧ ¬ rpF (prB 2 m).length ≤ m := by decide +kernel

set_option maxRecDepth 100000 in
set_option maxHeartbeats 400000 in
theorem isPrimeTold_c (p : Int) (w : World) :
    Calls Try.prog 65 #[.int .i64 p] w fun en w' => en = .returned (.bool (reB p)) ∧ Below w.heap.size w w' := by
  obtain ⟨B, hB⟩ : ∃ B, reB p = B := ⟨_, rfl⟩
  have Hr := Lib.hid ((reB_six p).symm.trans hB)
  rw [hB]
  clear hB
  have hfp := firstPrimes_c w 6 (by decide)
  have Hfp := Lib.hid hfp
  clear hfp
  go_enter Try.func65, Try.ntmps65
  go_wp2_with fail
  refine Hfp.out.mono ?_
  rintro e w1 ⟨⟨g, c, rfl, hg1, hg2, hc⟩, b1⟩
  have hct := (Try.slices_Contains_int g 0 6 c (pr9.take 6) p w1 (by rw [pr9_six]; decide) (by omega) (fun j hj => by
    rw [pr9_six] at hj
    rw [Nat.zero_add]
    refine (hc j hj).trans ?_
    rw [← ivL_take (xs := pr9) hj]
    rfl))
  rw [List.take_take, Nat.min_self, pr9_six, Hr.out] at hct
  have Hct := Lib.hid hct
  clear hc hct
  go_wp2_with fail
  refine Hct.out.mono ?_
  rintro e w2 ⟨rfl, rfl⟩
  go_wp2
  go_ret
  exact ⟨rfl, b1⟩

set_option maxRecDepth 100000 in
set_option maxHeartbeats 800000 in
theorem firstClosing_c (w : World) (A : Option Addr) (m c : Nat) (xs : List Int) (hA : Il w A xs) (hm : m = xs.length) (hn : m ≤ 8) (hx : ∀ k, k < xs.length → 0 ≤ ivL xs k ∧ ivL xs k ≤ 1000000) :
    Calls Try.prog 69 #[.slice A m c] w fun en w' => en = .returned (.tuple #[.int .i64 (clX xs 0 : Int), .bool (decide (¬ clX xs 0 = 0))]) ∧ Below w.heap.size w w' := by
  have Hm := Lib.hid hm
  have Hx := Lib.hid (fun k hk => show -1000000 ≤ ivL xs k ∧ ivL xs k ≤ 1000000 by have := hx k hk; omega)
  clear hm hx
  obtain ⟨T, hT⟩ : ∃ T, clX xs 0 = T := ⟨_, rfl⟩
  rw [hT]
  have HT := Lib.hid hT
  clear hT
  obtain ⟨l4, hat, hend⟩ := cl_list m (by omega)
  obtain ⟨ps, hps⟩ : ∃ ps, prB 2 m = ps := ⟨_, rfl⟩
  have hpc := Lib.hid (fun W => primesBetween_c W 2 m (by omega) (by omega) (by omega))
  rw [hps] at l4 hat hend hpc
  have Hat := Lib.hid hat
  have Hend := Lib.hid hend
  clear hat hend hps
  go_enter Try.func69, Try.ntmps69
  go_wp2_with fail
  refine (hpc.out _).mono ?_
  rintro e w1 ⟨⟨v1, rfl, o1⟩, b1⟩
  obtain ⟨A1, c1, rfl⟩ := o1.shape
  have I1 := Lib.hid (Il_of_own o1)
  have hR1 := hA.below b1
  clear o1
  obtain ⟨L, hL⟩ : ∃ L, ps.length = L := ⟨_, rfl⟩
  have HL := Lib.hid hL
  rw [hL] at l4 ⊢
  clear hL
  go_wp2
  go_loopw [10] (fun i wr => ∃ k : Nat, k ≤ L ∧ i = .int .i64 (k : Int) ∧ Hid (clX xs k = T) ∧ Below w1.heap.size w1 wr) (fun i _ => L - (intOf i).toNat)
  case atStart => exact ⟨0, Nat.zero_le _, rfl, HT, Below.refl _ _⟩
  case round =>
    obtain ⟨k, hk, rfl, hD, hbel⟩ := hrel
    have R2 := hR1.below hbel
    have hs := hbel.size
    by_cases hlt : k < L
    · obtain ⟨p2, p13⟩ := rpF_all k (by omega)
      obtain ⟨a1, a2⟩ := Hat.out k (by have := HL.out; omega)
      obtain ⟨b, off, hAe, hb, hr⟩ := I1.out (by have := HL.out; omega)
      have hck := (hbel.cell (p := ⟨b, off + k, none⟩) hb).trans (hr k (by have := HL.out; omega))
      obtain ⟨p, hp⟩ : ∃ p, rpF k = p := ⟨_, rfl⟩
      rw [a1] at hck
      rw [hp] at p2 p13 a2 hck
      have Hp := Lib.hid hp
      subst hAe
      clear hp a1 hr
      obtain ⟨Z, hZ⟩ : ∃ Z, (rsA xs p).length = Z := ⟨_, rfl⟩
      have HZ := Lib.hid hZ
      by_cases hZp : Z = p
      · have Hy : Hid (T = p) := by show _ = _; rw [← hD.out, clX_yes (k := k) (by omega) (by rw [Hp.out]; have := Hm.out; omega) (by rw [Hp.out, hZ]; exact hZp), Hp.out]
        clear hZ
        go_wp2_with fail
        refine (restsOf_c _ _ _ _ xs R2 Hm.out (by omega) Hx.out p p2 p13).mono ?_
        rintro e w3 ⟨⟨v3, rfl, o3⟩, b3⟩
        obtain ⟨A3, c3, rfl⟩ := o3.shape
        rw [HZ.out]
        clear o3
        subst hZp
        go_wp2
        go_ret2
        exact ⟨by rw [Hy.out, decide_eq_true (show ¬ Z = 0 by omega)]; rfl, b1.trans ((hbel.trans (b3.mono hs)).mono b1.size)⟩
      · have Hy : Hid (clX xs (k + 1) = T) := by show _ = _; rw [← hD.out, clX_go (k := k) (by omega) (by rw [Hp.out]; have := Hm.out; omega) (by rw [Hp.out, hZ]; exact hZp)]
        clear hZ
        have hZb : ((Z : Int) == (p : Int)) = false := beq_eq_false_iff_ne.2 (by omega)
        go_wp2_with fail
        refine (restsOf_c _ _ _ _ xs R2 Hm.out (by omega) Hx.out p p2 p13).mono ?_
        rintro e w3 ⟨⟨v3, rfl, o3⟩, b3⟩
        obtain ⟨A3, c3, rfl⟩ := o3.shape
        rw [HZ.out]
        clear o3
        go_wp2
        go_roundw
        case rel => exact ⟨k + 1, by omega, by go_num, Hy, hbel.trans (b3.mono hs)⟩
        case measure => simp [intOf]; omega
    · have Hy : Hid (T = 0) := by
        show _ = _
        have hkL : k = ps.length := by have := HL.out; omega
        rw [← hD.out, hkL, clX_no (by have := HL.out; omega) (by have := Hend.out; have := Hm.out; omega)]
      go_wp2
      go_ret2
      exact ⟨by rw [Hy.out]; rfl, b1.trans (hbel.mono b1.size)⟩

set_option maxRecDepth 100000 in
set_option maxHeartbeats 400000 in
theorem implisOpen_c (w : World) (A : Option Addr) (m c : Nat) (xs : List Int) (hA : Il w A xs) (hm : m = xs.length) (hn : m ≤ 8) (hx : ∀ k, k < xs.length → 0 ≤ ivL xs k ∧ ivL xs k ≤ 1000000) :
    Calls Try.prog 68 #[.slice A m c] w fun en w' => en = .returned (.bool (clX xs 0 == 0)) ∧ Below w.heap.size w w' := by
  have Hc := Lib.hid (firstClosing_c w A m c xs hA hm hn hx)
  clear hm hx hA
  obtain ⟨T, hT⟩ : ∃ T, clX xs 0 = T := ⟨_, rfl⟩
  rw [hT] at Hc ⊢
  clear hT
  obtain ⟨D, hD⟩ : ∃ D, decide (¬ T = 0) = D := ⟨_, rfl⟩
  have hDn : (T == 0) = !D := by rw [← hD]; cases T <;> simp
  rw [hD] at Hc
  rw [hDn]
  clear hD hDn
  go_enter Try.func68, Try.ntmps68
  go_wp2_with fail
  refine Hc.out.mono ?_
  rintro e w1 ⟨rfl, b1⟩
  go_wp2
  go_ret
  exact ⟨rfl, b1⟩

set_option maxRecDepth 100000 in
set_option maxHeartbeats 800000 in
theorem impl_RestsOf_c (w : World) (A : Option Addr) (m c : Nat) (xs : List Int) (hA : Il w A xs) (hm : m = xs.length) (hn : m ≤ 1048576) (p : Int) :
    Calls Try.prog 24 #[.slice A m c, .int .i64 p] w fun en w' => (∃ v, en = .returned (.tuple #[v, .bool (roO xs p)]) ∧ OwnI w' w.heap.size v (roV xs p)) ∧ Below w.heap.size w w' := by
  have Hm := Lib.hid hm
  clear hm
  cases hg : goodP xs with
  | false =>
    have ho : roO xs p = false := by simp [roO, *]
    rw [roV_no ho, ho]
    clear ho
    go_enter Try.func24, Try.ntmps24
    go_wp2_with fail
    refine (implIsPattern_c _ _ _ _ xs hA Hm.out hn).mono ?_
    rintro e w1 ⟨rfl, b1⟩
    have hA_1 := hA.below b1
    go_wp2
    go_ret2
    exact ⟨⟨_, rfl, OwnI.nil _ _⟩, b1⟩
  | true =>
    cases hk : reB p with
    | false =>
      have ho : roO xs p = false := by simp [roO, *]
      rw [roV_no ho, ho]
      clear ho
      go_enter Try.func24, Try.ntmps24
      go_wp2_with fail
      refine (implIsPattern_c _ _ _ _ xs hA Hm.out hn).mono ?_
      rintro e w1 ⟨rfl, b1⟩
      have hA_1 := hA.below b1
      go_wp2_with fail
      refine (isPrimeTold_c _ _).mono ?_
      rintro e w2 ⟨rfl, b2⟩
      have hA_2 := hA_1.below b2
      have bb2 := b1.trans (b2.mono b1.size)
      go_wp2
      go_ret2
      exact ⟨⟨_, rfl, OwnI.nil _ _⟩, bb2⟩
    | true =>
      have ho : roO xs p = true := by simp [roO, *]
      obtain ⟨q, hq, rfl⟩ := reB_iff.1 hk
      rw [roV_yes ho, ho]
      clear ho
      obtain ⟨p2, p13⟩ := rpF_all q hq
      have Hx := Lib.hid (fun k hk => show -1000000 ≤ ivL xs k ∧ ivL xs k ≤ 1000000 by have := goodP_small hg k hk; omega)
      have Hg := Lib.hid hg
      have Hk := Lib.hid hk
      go_enter Try.func24, Try.ntmps24
      go_wp2_with fail
      refine (implIsPattern_c _ _ _ _ xs hA Hm.out hn).mono ?_
      rintro e w1 ⟨rfl, b1⟩
      have hA_1 := hA.below b1
      go_wp2_with fail
      refine (isPrimeTold_c _ _).mono ?_
      rintro e w2 ⟨rfl, b2⟩
      have hA_2 := hA_1.below b2
      have bb2 := b1.trans (b2.mono b1.size)
      go_wp2_with fail
      refine (restsOf_c _ _ _ _ xs hA_2 Hm.out hn Hx.out _ p2 p13).mono ?_
      rintro e w3 ⟨⟨v3, rfl, o3⟩, b3⟩
      have hA_3 := hA_2.below b3
      have bb3 := bb2.trans (b3.mono bb2.size)
      go_wp2
      go_ret2
      exact ⟨⟨_, rfl, OwnI.mono o3 (bb2).size⟩, bb3⟩

set_option maxRecDepth 100000 in
set_option maxHeartbeats 800000 in
theorem impl_IsOpen_c (w : World) (A : Option Addr) (m c : Nat) (xs : List Int) (hA : Il w A xs) (hm : m = xs.length) (hn : m ≤ 1048576) :
    Calls Try.prog 28 #[.slice A m c] w fun en w' => en = .returned (.tuple #[.bool (opV xs), .bool (goodP xs)]) ∧ Below w.heap.size w w' := by
  have Hm := Lib.hid hm
  clear hm
  cases hg : goodP xs with
  | false =>
    rw [opV_no hg]
    go_enter Try.func28, Try.ntmps28
    go_wp2_with fail
    refine (implIsPattern_c _ _ _ _ xs hA Hm.out hn).mono ?_
    rintro e w1 ⟨rfl, b1⟩
    have hA_1 := hA.below b1
    go_wp2
    go_ret2
    exact ⟨rfl, b1⟩
  | true =>
    rw [opV_yes hg]
    have Hx := Lib.hid (goodP_small hg)
    have h8 : m ≤ 8 := by rw [Hm.out]; exact (goodP_parts hg).2.1
    have Hg := Lib.hid hg
    go_enter Try.func28, Try.ntmps28
    go_wp2_with fail
    refine (implIsPattern_c _ _ _ _ xs hA Hm.out hn).mono ?_
    rintro e w1 ⟨rfl, b1⟩
    have hA_1 := hA.below b1
    go_wp2_with fail
    refine (implisOpen_c _ _ _ _ xs hA_1 Hm.out h8 Hx.out).mono ?_
    rintro e w2 ⟨rfl, b2⟩
    have hA_2 := hA_1.below b2
    have bb2 := b1.trans (b2.mono b1.size)
    go_wp2
    go_ret2
    exact ⟨rfl, bb2⟩

set_option maxRecDepth 100000 in
set_option maxHeartbeats 800000 in
theorem impl_FirstClosing_c (w : World) (A : Option Addr) (m c : Nat) (xs : List Int) (hA : Il w A xs) (hm : m = xs.length) (hn : m ≤ 1048576) :
    Calls Try.prog 30 #[.slice A m c] w fun en w' => en = .returned (.tuple #[.int .i64 (fcV xs), .bool (fcO xs)]) ∧ Below w.heap.size w w' := by
  have Hm := Lib.hid hm
  clear hm
  cases hg : goodP xs with
  | false =>
    have ho : fcO xs = false := by simp [fcO, hg]
    rw [fcV_no ho, ho]
    clear ho
    go_enter Try.func30, Try.ntmps30
    go_wp2_with fail
    refine (implIsPattern_c _ _ _ _ xs hA Hm.out hn).mono ?_
    rintro e w1 ⟨rfl, b1⟩
    have hA_1 := hA.below b1
    go_wp2
    go_ret2
    exact ⟨rfl, b1⟩
  | true =>
    rw [fcV_yes hg, show fcO xs = decide (¬ clX xs 0 = 0) by rw [fcO, hg]; rfl]
    have Hx := Lib.hid (goodP_small hg)
    have h8 : m ≤ 8 := by rw [Hm.out]; exact (goodP_parts hg).2.1
    obtain ⟨D, hD⟩ : ∃ D, decide (¬ clX xs 0 = 0) = D := ⟨_, rfl⟩
    rw [hD]
    have HD := Lib.hid hD
    clear hD
    have Hg := Lib.hid hg
    go_enter Try.func30, Try.ntmps30
    go_wp2_with fail
    refine (implIsPattern_c _ _ _ _ xs hA Hm.out hn).mono ?_
    rintro e w1 ⟨rfl, b1⟩
    have hA_1 := hA.below b1
    go_wp2_with fail
    refine (firstClosing_c _ _ _ _ xs hA_1 Hm.out h8 Hx.out).mono ?_
    rw [HD.out]
    rintro e w3 ⟨rfl, b3⟩
    go_wp2
    go_ret2
    exact ⟨rfl, (b1).trans (b3.mono (b1).size)⟩

end Go.Proofs.Ytgnmookklplnmaa
