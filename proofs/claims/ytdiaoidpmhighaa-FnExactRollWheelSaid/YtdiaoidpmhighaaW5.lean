import Derived.Test.YtdiaoidpmhighaaW4
namespace Go.Proofs.Ytdiaoidpmhighaa
open Go.RowKit
set_option linter.unusedVariables false
set_option linter.unusedSimpArgs false

set_option maxRecDepth 100000 in
set_option maxHeartbeats 3200000 in
theorem impl_RankOfSpoke_c (w : World) (A : Option Addr) (m c : Nat) (rs : List (Int × Int)) (hA : Rl w A rs) (hm : m = rs.length) (hn : m ≤ 1048576) (n : Int) :
    Calls Try.prog 36 #[.slice A m c, .int .i64 n] w fun en w' => en = .returned (.tuple #[.int .i64 (rkV rs n), .bool (rkO rs n)]) ∧ Below w.heap.size w w' := by
  have Hm := Lib.hid hm
  clear hm
  have hw := wheelOf_c w A m c rs hA Hm.out hn
  cases hg : whB rs with
  | false =>
    rw [hg] at hw
    have Hw := Lib.hid hw
    clear hw
    have ho : rkO rs n = false := by simp [rkO, isO, *]
    rw [rkV_no ho, ho]
    clear ho
    go_enter Try.func36, Try.ntmps36
    go_wp2_with fail
    refine Hw.out.mono ?_
    rintro e w1 ⟨⟨v1, rfl, hv⟩, b1⟩
    obtain ⟨A1, c1, A2, c2, rfl, hh, ht⟩ := hv.parts
    go_wp2
    go_ret2
    exact ⟨rfl, b1.alloc b1.size _⟩
  | true =>
    rw [hg] at hw
    have Hw := Lib.hid hw
    clear hw
    have hp5 := (whB_parts hg).2.2.2.2.2.1
    have hp1 := (whB_parts hg).2.2.2.2.1
    have Hgl := Lib.hid (whB_parts hg).1
    have hpos := spk_pos hg
    have hsl := spk_len rs
    skip
    cases hk : inB n 0 1000000000 with
    | false =>
      have ho : isO rs n = false := by simp [isO, *]
      have ho : rkO rs n = false := by simp [rkO, isO, *]
      rw [rkV_no ho, ho]
      clear ho
      go_enter Try.func36, Try.ntmps36
      go_wp2_with fail
      refine Hw.out.mono ?_
      rintro e w1 ⟨⟨v1, rfl, hv⟩, b1⟩
      obtain ⟨g1, c1, g2, c2, rfl, hg1, hg2, hcA, hcB, _, _, _⟩ := hv.yes hg
      have HcA := Lib.hid hcA
      have HcB := Lib.hid hcB
      clear hcA hcB hv
      have b2 := b1.alloc b1.size (.cells #[.int .i64 (whP rs : Int), .slice (some ⟨g1, 0, none⟩) (spk rs).length c1, .slice (some ⟨g2, 0, none⟩) (spk rs).length c2] 54)
      have R2 := hA.below b2
      have b12 : Below w1.heap.size w1 (w1.alloc (.cells #[.int .i64 (whP rs : Int), .slice (some ⟨g1, 0, none⟩) (spk rs).length c1, .slice (some ⟨g2, 0, none⟩) (spk rs).length c2] 54)) := (Below.refl _ _).alloc (Nat.le_refl _) _
      go_wp2_with fail
      refine (isFar_c _ _).mono ?_
      rw [hk]
      rintro e w2 ⟨rfl, rfl⟩
      go_wp2
      go_ret2
      exact ⟨rfl, b2⟩
    | true =>
      have ho : isO rs n = true := by simp [isO, *]
      obtain ⟨n1, n2⟩ := inB_true.1 hk
      clear ho
      by_cases hj : 1 ≤ n
      rotate_left
      · have ho : rkO rs n = false := by simp [rkO, isO, *]
        rw [rkV_no ho, ho]
        clear ho
        go_enter Try.func36, Try.ntmps36
        go_wp2_with fail
        refine Hw.out.mono ?_
        rintro e w1 ⟨⟨v1, rfl, hv⟩, b1⟩
        obtain ⟨g1, c1, g2, c2, rfl, hg1, hg2, hcA, hcB, _, _, _⟩ := hv.yes hg
        have HcA := Lib.hid hcA
        have HcB := Lib.hid hcB
        clear hcA hcB hv
        have b2 := b1.alloc b1.size (.cells #[.int .i64 (whP rs : Int), .slice (some ⟨g1, 0, none⟩) (spk rs).length c1, .slice (some ⟨g2, 0, none⟩) (spk rs).length c2] 54)
        have R2 := hA.below b2
        have b12 : Below w1.heap.size w1 (w1.alloc (.cells #[.int .i64 (whP rs : Int), .slice (some ⟨g1, 0, none⟩) (spk rs).length c1, .slice (some ⟨g2, 0, none⟩) (spk rs).length c2] 54)) := (Below.refl _ _).alloc (Nat.le_refl _) _
        go_wp2_with fail
        refine (isFar_c _ _).mono ?_
        rw [hk]
        rintro e w2 ⟨rfl, rfl⟩
        go_wp2
        go_ret2
        exact ⟨rfl, b2⟩
      have hq0 : 0 ≤ (n - 1) / (whP rs : Int) := Int.ediv_nonneg (by omega) (by omega)
      have hq1 : (n - 1) / (whP rs : Int) ≤ n - 1 := Int.ediv_le_self _ (by omega)
      have hr0 := Int.emod_nonneg (n - 1) (b := (whP rs : Int)) (by omega)
      have hr1 := Int.emod_lt_of_pos (n - 1) (b := (whP rs : Int)) (by omega)
      have hz : (((whP rs : Nat) : Int) == 0) = false := beq_eq_false_iff_ne.2 (by omega)
      have hm0 : 0 ≤ (n - 1) / (whP rs : Int) * ((spk rs).length : Int) := Int.mul_nonneg (by omega) (by omega)
      have hm9 : (n - 1) / (whP rs : Int) * ((spk rs).length : Int) ≤ 1000000000 * 5000 := Int.mul_le_mul (by omega) (by omega) (by omega) (by omega)
      have hm8 : (n - 1) / (whP rs : Int) * ((spk rs).length : Int) ≤ 5000000000000 := by omega
      have hcl := cntP_le (spk rs) (rkT rs n) (spk rs).length
      have Hfd := Lib.hid (rk_found hg n)
      have Hrk := Lib.hid (rk_rank hg n)
      have Hso := Lib.hid ((spk_sorted rs).imp (fun {a b : Int} (h : a < b) => Int.le_of_lt h))
      clear hm9
      cases hl : leftF rs n with
      | false =>
        have ho : rkO rs n = false := by simp [rkO, isO, *]
        rw [rkV_no ho, ho]
        clear ho
        go_enter Try.func36, Try.ntmps36
        go_wp2_with fail
        refine Hw.out.mono ?_
        rintro e w1 ⟨⟨v1, rfl, hv⟩, b1⟩
        obtain ⟨g1, c1, g2, c2, rfl, hg1, hg2, hcA, hcB, _, _, _⟩ := hv.yes hg
        have HcA := Lib.hid hcA
        have HcB := Lib.hid hcB
        clear hcA hcB hv
        have b2 := b1.alloc b1.size (.cells #[.int .i64 (whP rs : Int), .slice (some ⟨g1, 0, none⟩) (spk rs).length c1, .slice (some ⟨g2, 0, none⟩) (spk rs).length c2] 54)
        have R2 := hA.below b2
        have b12 : Below w1.heap.size w1 (w1.alloc (.cells #[.int .i64 (whP rs : Int), .slice (some ⟨g1, 0, none⟩) (spk rs).length c1, .slice (some ⟨g2, 0, none⟩) (spk rs).length c2] 54)) := (Below.refl _ _).alloc (Nat.le_refl _) _
        have hcx : ∀ k, k < (spk rs).length → (w1.alloc (.cells #[.int .i64 (whP rs : Int), .slice (some ⟨g1, 0, none⟩) (spk rs).length c1, .slice (some ⟨g2, 0, none⟩) (spk rs).length c2] 54)).cell? ⟨g1, 0 + k, none⟩ = some (.int .i64 ((spk rs).getD k 0)) := fun k hk => by
          rw [Nat.zero_add]
          exact (b12.cell (p := ⟨g1, k, none⟩) hg1).trans (HcA.out k hk)
        have Hix := Lib.hid (fun q : Nat => show Calls Try.prog 66 #[.slice (some ⟨g1, 0, none⟩) (spk rs).length c1, .int .i64 ((n - 1) % (whP rs : Int) + 1)] ((w1.alloc (.cells #[.int .i64 (whP rs : Int), .slice (some ⟨g1, 0, none⟩) (spk rs).length c1, .slice (some ⟨g2, 0, none⟩) (spk rs).length c2] 54)).drewN q) fun e w' => e = .returned (.tuple #[.int .i64 ((cntP (spk rs) (rkT rs n) (spk rs).length : Nat) : Int), .bool false]) ∧ ∃ m, w' = ((w1.alloc (.cells #[.int .i64 (whP rs : Int), .slice (some ⟨g1, 0, none⟩) (spk rs).length c1, .slice (some ⟨g2, 0, none⟩) (spk rs).length c2] 54)).drewN q).drewN m by
          have h := Try.slices_BinarySearch_int g1 0 (spk rs).length c1 (spk rs) ((n - 1) % (whP rs : Int) + 1) ((w1.alloc (.cells #[.int .i64 (whP rs : Int), .slice (some ⟨g1, 0, none⟩) (spk rs).length c1, .slice (some ⟨g2, 0, none⟩) (spk rs).length c2] 54)).drewN q) (Nat.le_refl _) (by omega) hcx (by rw [List.take_length]; exact Hso.out)
          rw [List.take_length, Hfd.out, Hrk.out, hl] at h
          exact h)
        clear hcx
        go_wp2_with fail
        refine (isFar_c _ _).mono ?_
        rw [hk]
        rintro e w2 ⟨rfl, rfl⟩
        go_wp2_with fail
        go_quiet ((go_at_call 66; exact qcallD (Hix.out _)))
        go_wp2
        go_ret2
        exact ⟨rfl, below_drewN b2 _⟩
      | true =>
        have ho : rkO rs n = true := by simp [rkO, isO, *]
        rw [rkV_yes ho, ho]
        clear ho
        have e1 : IntKind.i64.wrap ((n - 1) / (whP rs : Int) * ((spk rs).length : Int)) = (n - 1) / (whP rs : Int) * ((spk rs).length : Int) := IntWalk.i64_in _ (by omega)
        have e2 : IntKind.i64.wrap ((n - 1) / (whP rs : Int) * ((spk rs).length : Int) + ((cntP (spk rs) (rkT rs n) (spk rs).length : Nat) : Int)) = (n - 1) / (whP rs : Int) * ((spk rs).length : Int) + ((cntP (spk rs) (rkT rs n) (spk rs).length : Nat) : Int) := IntWalk.i64_in _ (by omega)
        go_enter Try.func36, Try.ntmps36
        go_wp2_with fail
        refine Hw.out.mono ?_
        rintro e w1 ⟨⟨v1, rfl, hv⟩, b1⟩
        obtain ⟨g1, c1, g2, c2, rfl, hg1, hg2, hcA, hcB, _, _, _⟩ := hv.yes hg
        have HcA := Lib.hid hcA
        have HcB := Lib.hid hcB
        clear hcA hcB hv
        have b2 := b1.alloc b1.size (.cells #[.int .i64 (whP rs : Int), .slice (some ⟨g1, 0, none⟩) (spk rs).length c1, .slice (some ⟨g2, 0, none⟩) (spk rs).length c2] 54)
        have R2 := hA.below b2
        have b12 : Below w1.heap.size w1 (w1.alloc (.cells #[.int .i64 (whP rs : Int), .slice (some ⟨g1, 0, none⟩) (spk rs).length c1, .slice (some ⟨g2, 0, none⟩) (spk rs).length c2] 54)) := (Below.refl _ _).alloc (Nat.le_refl _) _
        have hcx : ∀ k, k < (spk rs).length → (w1.alloc (.cells #[.int .i64 (whP rs : Int), .slice (some ⟨g1, 0, none⟩) (spk rs).length c1, .slice (some ⟨g2, 0, none⟩) (spk rs).length c2] 54)).cell? ⟨g1, 0 + k, none⟩ = some (.int .i64 ((spk rs).getD k 0)) := fun k hk => by
          rw [Nat.zero_add]
          exact (b12.cell (p := ⟨g1, k, none⟩) hg1).trans (HcA.out k hk)
        have Hix := Lib.hid (fun q : Nat => show Calls Try.prog 66 #[.slice (some ⟨g1, 0, none⟩) (spk rs).length c1, .int .i64 ((n - 1) % (whP rs : Int) + 1)] ((w1.alloc (.cells #[.int .i64 (whP rs : Int), .slice (some ⟨g1, 0, none⟩) (spk rs).length c1, .slice (some ⟨g2, 0, none⟩) (spk rs).length c2] 54)).drewN q) fun e w' => e = .returned (.tuple #[.int .i64 ((cntP (spk rs) (rkT rs n) (spk rs).length : Nat) : Int), .bool true]) ∧ ∃ m, w' = ((w1.alloc (.cells #[.int .i64 (whP rs : Int), .slice (some ⟨g1, 0, none⟩) (spk rs).length c1, .slice (some ⟨g2, 0, none⟩) (spk rs).length c2] 54)).drewN q).drewN m by
          have h := Try.slices_BinarySearch_int g1 0 (spk rs).length c1 (spk rs) ((n - 1) % (whP rs : Int) + 1) ((w1.alloc (.cells #[.int .i64 (whP rs : Int), .slice (some ⟨g1, 0, none⟩) (spk rs).length c1, .slice (some ⟨g2, 0, none⟩) (spk rs).length c2] 54)).drewN q) (Nat.le_refl _) (by omega) hcx (by rw [List.take_length]; exact Hso.out)
          rw [List.take_length, Hfd.out, Hrk.out, hl] at h
          exact h)
        clear hcx
        go_wp2_with fail
        refine (isFar_c _ _).mono ?_
        rw [hk]
        rintro e w2 ⟨rfl, rfl⟩
        go_wp2_with fail
        go_quiet ((go_at_call 66; exact qcallD (Hix.out _)))
        go_wp2_with fail
        go_quiet (fail)
        clear e1 e2
        go_wp2
        go_ret2
        exact ⟨rfl, below_drewN (below_drewN b2 _) _⟩

set_option maxRecDepth 100000 in
set_option maxHeartbeats 1600000 in
theorem nearestLeft_c (w : World) (A : Option Addr) (m c : Nat) (rs : List (Int × Int)) (hA : Rl w A rs) (hm : m = rs.length) (hg : whB rs = true) (n : Int) (n1 : 0 ≤ n) (n2 : n ≤ 1000000000) :
    Calls Try.prog 67 #[.slice A m c, .int .i64 n] w fun en w' => en = .returned (.int .i64 (nearD rs n 0)) ∧ Below w.heap.size w w' := by
  have Hm := Lib.hid hm
  clear hm
  have hp5 := (whB_parts hg).2.2.2.2.2.1
  have hp1 := (whB_parts hg).2.2.2.2.1
  have Hgl := Lib.hid (whB_parts hg).1
  obtain ⟨d0, hd0, hl0⟩ := wh_next hg n
  have Hl0 := Lib.hid hl0
  obtain ⟨T, hT⟩ : ∃ T, nearD rs n 0 = T := ⟨_, rfl⟩
  rw [hT]
  have HT := Lib.hid hT
  clear hT hl0 hg
  go_enter Try.func67, Try.ntmps67
  go_wp2
  refine wp_scope_again 0 (fun a' wr => ∃ (d : Nat) (u6 u7 u8 u9 u10 u11 u12 u13 u14 u15 u16 u17 u18 u19 u20 u21 u22 u23 : Value), a' = { tmps := #[.slice A m c, .int .i64 n, undef, undef, .int .i64 0, .int .i64 (d : Int), u6, u7, u8, u9, u10, u11, u12, u13, u14, u15, u16, u17, u18, u19, u20, u21, u22, u23], defers := [] } ∧ d ≤ d0 ∧ Hid (nearD rs n d = T) ∧ Below w.heap.size w wr) (fun a' _ => d0 + 1 - (intOf (a'.tmps.getD 5 undef)).toNat) rfl ?_ ?_
  · rintro a' wr ⟨d, u6, u7, u8, u9, u10, u11, u12, u13, u14, u15, u16, u17, u18, u19, u20, u21, u22, u23, rfl, hd, HT2, hbel⟩
    have R2 := hA.below hbel
    cases h1 : leftF rs (n - (d : Int)) with
    | true =>
      have Hv := Lib.hid (HT2.out.symm.trans (nearD_lo (by omega) h1))
      go_wp2_with fail
      refine (isLeft_c _ _ _ rs _ _ R2 Hm.out Hgl.out (by omega) (by omega)).mono ?_
      rw [h1]
      rintro e w3 ⟨rfl, b3⟩
      go_wp2
      try simp only [Exit.jump]
      go_ret
      exact ⟨by rw [Hv.out]; rfl, hbel.trans (b3.mono hbel.size)⟩
    | false =>
      cases h2 : leftF rs (n + (d : Int)) with
      | true =>
        have Hv := Lib.hid (HT2.out.symm.trans (nearD_hi (by omega) h1 h2))
        go_wp2_with fail
        refine (isLeft_c _ _ _ rs _ _ R2 Hm.out Hgl.out (by omega) (by omega)).mono ?_
        rw [h1]
        rintro e w3 ⟨rfl, b3⟩
        have R3 := R2.below b3
        have bb3 := hbel.trans (b3.mono hbel.size)
        go_wp2_with fail
        refine (isLeft_c _ _ _ rs _ _ R3 Hm.out Hgl.out (by omega) (by omega)).mono ?_
        rw [h2]
        rintro e w4 ⟨rfl, b4⟩
        go_wp2
        try simp only [Exit.jump]
        go_ret
        exact ⟨by rw [Hv.out]; rfl, bb3.trans (b4.mono bb3.size)⟩
      | false =>
        have Hv := Lib.hid ((nearD_go (by omega) h1 h2).symm.trans HT2.out)
        have hne : d ≠ d0 := fun e => by rw [e, Hl0.out] at h2; cases h2
        have hd2 : d + 1 ≤ d0 := by omega
        clear hne
        go_wp2_with fail
        refine (isLeft_c _ _ _ rs _ _ R2 Hm.out Hgl.out (by omega) (by omega)).mono ?_
        rw [h1]
        rintro e w3 ⟨rfl, b3⟩
        have R3 := R2.below b3
        have bb3 := hbel.trans (b3.mono hbel.size)
        go_wp2_with fail
        refine (isLeft_c _ _ _ rs _ _ R3 Hm.out Hgl.out (by omega) (by omega)).mono ?_
        rw [h2]
        rintro e w4 ⟨rfl, b4⟩
        go_wp2
        go_step3
        refine ⟨rfl, ⟨d + 1, _, _, _, _, _, _, _, _, _, _, _, _, _, _, _, _, _, _, rfl, hd2, Hv, bb3.trans (b4.mono bb3.size)⟩, ?_⟩
        simp [intOf]
        omega
  · intro h
    go_wp2
    go_step3
    rename_i hK
    exact hK _ _ (h _ _ ⟨0, _, _, _, _, _, _, _, _, _, _, _, _, _, _, _, _, _, _, rfl, Nat.zero_le _, HT, Below.refl _ _⟩)

set_option maxRecDepth 100000 in
set_option maxHeartbeats 1600000 in
theorem impl_SpokeNear_c (w : World) (A : Option Addr) (m c : Nat) (rs : List (Int × Int)) (hA : Rl w A rs) (hm : m = rs.length) (hn : m ≤ 1048576) (n : Int) :
    Calls Try.prog 38 #[.slice A m c, .int .i64 n] w fun en w' => en = .returned (.tuple #[.int .i64 (snV rs n), .bool (isO rs n)]) ∧ Below w.heap.size w w' := by
  have Hm := Lib.hid hm
  clear hm
  have hw := wheelOf_c w A m c rs hA Hm.out hn
  cases hg : whB rs with
  | false =>
    rw [hg] at hw
    have Hw := Lib.hid hw
    clear hw
    have ho : isO rs n = false := by simp [isO, *]
    rw [snV_no ho, ho]
    clear ho
    go_enter Try.func38, Try.ntmps38
    go_wp2_with fail
    refine Hw.out.mono ?_
    rintro e w1 ⟨⟨v1, rfl, hv⟩, b1⟩
    obtain ⟨A1, c1, A2, c2, rfl, hh, ht⟩ := hv.parts
    go_wp2
    go_ret2
    exact ⟨rfl, b1.alloc b1.size _⟩
  | true =>
    rw [hg] at hw
    have Hw := Lib.hid hw
    clear hw
    have hp5 := (whB_parts hg).2.2.2.2.2.1
    have hp1 := (whB_parts hg).2.2.2.2.1
    have Hgl := Lib.hid (whB_parts hg).1
    have hpos := spk_pos hg
    have hsl := spk_len rs
    skip
    cases hk : inB n 0 1000000000 with
    | false =>
      have ho : isO rs n = false := by simp [isO, *]
      rw [snV_no ho, ho]
      clear ho
      go_enter Try.func38, Try.ntmps38
      go_wp2_with fail
      refine Hw.out.mono ?_
      rintro e w1 ⟨⟨v1, rfl, hv⟩, b1⟩
      obtain ⟨g1, c1, g2, c2, rfl, hg1, hg2, hcA, hcB, _, _, _⟩ := hv.yes hg
      have HcA := Lib.hid hcA
      have HcB := Lib.hid hcB
      clear hcA hcB hv
      have b2 := b1.alloc b1.size (.cells #[.int .i64 (whP rs : Int), .slice (some ⟨g1, 0, none⟩) (spk rs).length c1, .slice (some ⟨g2, 0, none⟩) (spk rs).length c2] 54)
      have R2 := hA.below b2
      have b12 : Below w1.heap.size w1 (w1.alloc (.cells #[.int .i64 (whP rs : Int), .slice (some ⟨g1, 0, none⟩) (spk rs).length c1, .slice (some ⟨g2, 0, none⟩) (spk rs).length c2] 54)) := (Below.refl _ _).alloc (Nat.le_refl _) _
      go_wp2_with fail
      refine (isFar_c _ _).mono ?_
      rw [hk]
      rintro e w2 ⟨rfl, rfl⟩
      go_wp2
      go_ret2
      exact ⟨rfl, b2⟩
    | true =>
      have ho : isO rs n = true := by simp [isO, *]
      obtain ⟨n1, n2⟩ := inB_true.1 hk
      rw [snV_yes ho, ho]
      clear ho
      have Hg := Lib.hid hg
      go_enter Try.func38, Try.ntmps38
      go_wp2_with fail
      refine Hw.out.mono ?_
      rintro e w1 ⟨⟨v1, rfl, hv⟩, b1⟩
      obtain ⟨g1, c1, g2, c2, rfl, hg1, hg2, hcA, hcB, _, _, _⟩ := hv.yes hg
      have HcA := Lib.hid hcA
      have HcB := Lib.hid hcB
      clear hcA hcB hv
      have b2 := b1.alloc b1.size (.cells #[.int .i64 (whP rs : Int), .slice (some ⟨g1, 0, none⟩) (spk rs).length c1, .slice (some ⟨g2, 0, none⟩) (spk rs).length c2] 54)
      have R2 := hA.below b2
      have b12 : Below w1.heap.size w1 (w1.alloc (.cells #[.int .i64 (whP rs : Int), .slice (some ⟨g1, 0, none⟩) (spk rs).length c1, .slice (some ⟨g2, 0, none⟩) (spk rs).length c2] 54)) := (Below.refl _ _).alloc (Nat.le_refl _) _
      go_wp2_with fail
      refine (isFar_c _ _).mono ?_
      rw [hk]
      rintro e w2 ⟨rfl, rfl⟩
      go_wp2_with fail
      refine (nearestLeft_c _ _ _ _ rs R2 Hm.out Hg.out n n1 n2).mono ?_
      rintro e w3 ⟨rfl, b3⟩
      go_wp2
      go_ret2
      exact ⟨rfl, b2.trans (b3.mono b2.size)⟩

end Go.Proofs.Ytdiaoidpmhighaa
