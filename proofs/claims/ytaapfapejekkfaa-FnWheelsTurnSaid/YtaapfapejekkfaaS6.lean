import Derived.Test.YtaapfapejekkfaaS5
namespace Go.Proofs.Ytaapfapejekkfaa
open Go.RowKit
set_option linter.unusedVariables false
set_option linter.unusedSimpArgs false

def rwP (rs : List (Int × Int)) (n : Int) : Bool := whB rs && inB n 2 60 && primeB n.toNat && decide (¬ (whP rs : Int) % n = 0) && decide (¬ rs.length = 12)
def rwO (rs : List (Int × Int)) (n : Int) : Bool := rwP rs n && whB (rs ++ [(n, 0)])
def rwV (rs : List (Int × Int)) (n : Int) : List Int := if rwO rs n then spk (rs ++ [(n, 0)]) else []
theorem rwV_no {rs : List (Int × Int)} {n : Int} (h : rwO rs n = false) : rwV rs n = [] := by rw [rwV, h]; rfl
theorem rwV_yes {rs : List (Int × Int)} {n : Int} (h : rwO rs n = true) : rwV rs n = spk (rs ++ [(n, 0)]) := by rw [rwV, h]; rfl
theorem rwV_len (rs : List (Int × Int)) (n : Int) : (rwV rs n).length ≤ 5000 := by
  cases h : rwO rs n with
  | false => rw [rwV_no h]; simp
  | true =>
    rw [rwV_yes h]
    have h1 := spk_len (rs ++ [(n, 0)])
    rw [rwO, Bool.and_eq_true] at h
    have h2 := (whB_parts h.2).2.2.2.2.2.1
    omega

set_option maxRecDepth 100000 in
set_option maxHeartbeats 1600000 in
theorem spec_RollWheel_c (w : World) (A : Option Addr) (m c : Nat) (rs : List (Int × Int)) (hA : Rl w A rs) (hm : m = rs.length) (hn : m ≤ 1048576) (n : Int) :
    Calls Try.prog 104 #[.slice A m c, .int .i64 n] w fun en w' => (∃ v, en = .returned (.tuple #[v, .bool (rwO rs n)]) ∧ OwnI w' w.heap.size v (rwV rs n)) ∧ Below w.heap.size w w' := by
  have Hm := Lib.hid hm
  clear hm
  cases hg : whB rs with
  | false =>
    have ho : rwO rs n = false := by have := Hm.out; first | (simp [rwO, rwP, *]; done) | (simp [rwO, rwP]; omega) | (simp only [rwO, rwP]; rw [decide_eq_false (by omega)]; simp)
    rw [rwV_no ho, ho]
    clear ho
    first | (have hp0 := whP_no hg) | (have hp1 : (((whP rs : Nat) : Int) == 0) = false := by have := (whB_parts hg).2.2.2.2.1; exact beq_eq_false_iff_ne.2 (by omega))
    try (obtain ⟨n1, n2⟩ := inB_true.1 hk; have hnz : (n == 0) = false := beq_eq_false_iff_ne.2 (by omega))
    try (have hlb : ((whP rs : Int) % n == 0) = false := beq_eq_false_iff_ne.2 hl)
    try (have hlb : (whP rs : Int) % n = 0 := Decidable.not_not.1 hl; clear hl)
    try (have hmb : m = 12 := by omega; clear hx)
    go_enter Try.func104, Try.ntmps104
    go_wp2_with fail
    refine (whPeriod_c _ _ _ rs _ hA Hm.out hn).mono ?_
    rintro e w1 ⟨rfl, b1⟩
    have hA_1 := hA.below b1
    go_wp2
    go_ret2
    exact ⟨⟨_, rfl, OwnI.nil _ _⟩, b1⟩
  | true =>
    cases hk : inB n 2 60 with
    | false =>
      have ho : rwO rs n = false := by have := Hm.out; first | (simp [rwO, rwP, *]; done) | (simp [rwO, rwP]; omega) | (simp only [rwO, rwP]; rw [decide_eq_false (by omega)]; simp)
      rw [rwV_no ho, ho]
      clear ho
      first | (have hp0 := whP_no hg) | (have hp1 : (((whP rs : Nat) : Int) == 0) = false := by have := (whB_parts hg).2.2.2.2.1; exact beq_eq_false_iff_ne.2 (by omega))
      try (obtain ⟨n1, n2⟩ := inB_true.1 hk; have hnz : (n == 0) = false := beq_eq_false_iff_ne.2 (by omega))
      try (have hlb : ((whP rs : Int) % n == 0) = false := beq_eq_false_iff_ne.2 hl)
      try (have hlb : (whP rs : Int) % n = 0 := Decidable.not_not.1 hl; clear hl)
      try (have hmb : m = 12 := by omega; clear hx)
      go_enter Try.func104, Try.ntmps104
      go_wp2_with fail
      refine (whPeriod_c _ _ _ rs _ hA Hm.out hn).mono ?_
      rintro e w1 ⟨rfl, b1⟩
      have hA_1 := hA.below b1
      go_wp2_with fail
      refine (l1In_c _ _ _ _).mono ?_
      rintro e w2 ⟨rfl, rfl⟩
      go_wp2
      go_ret2
      exact ⟨⟨_, rfl, OwnI.nil _ _⟩, b1⟩
    | true =>
      cases hj : primeB n.toNat with
      | false =>
        have ho : rwO rs n = false := by have := Hm.out; first | (simp [rwO, rwP, *]; done) | (simp [rwO, rwP]; omega) | (simp only [rwO, rwP]; rw [decide_eq_false (by omega)]; simp)
        rw [rwV_no ho, ho]
        clear ho
        first | (have hp0 := whP_no hg) | (have hp1 : (((whP rs : Nat) : Int) == 0) = false := by have := (whB_parts hg).2.2.2.2.1; exact beq_eq_false_iff_ne.2 (by omega))
        try (obtain ⟨n1, n2⟩ := inB_true.1 hk; have hnz : (n == 0) = false := beq_eq_false_iff_ne.2 (by omega))
        try (have hlb : ((whP rs : Int) % n == 0) = false := beq_eq_false_iff_ne.2 hl)
        try (have hlb : (whP rs : Int) % n = 0 := Decidable.not_not.1 hl; clear hl)
        try (have hmb : m = 12 := by omega; clear hx)
        go_enter Try.func104, Try.ntmps104
        go_wp2_with fail
        refine (whPeriod_c _ _ _ rs _ hA Hm.out hn).mono ?_
        rintro e w1 ⟨rfl, b1⟩
        have hA_1 := hA.below b1
        go_wp2_with fail
        refine (l1In_c _ _ _ _).mono ?_
        rintro e w2 ⟨rfl, rfl⟩
        go_wp2_with fail
        refine (prIs_c _ _ (by have := inB_true.1 hk; omega)).mono ?_
        rintro e w3 ⟨rfl, rfl⟩
        go_wp2
        go_ret2
        exact ⟨⟨_, rfl, OwnI.nil _ _⟩, b1⟩
      | true =>
        by_cases hl : ¬ (whP rs : Int) % n = 0
        rotate_left
        · skip
          have ho : rwO rs n = false := by have := Hm.out; first | (simp [rwO, rwP, *]; done) | (simp [rwO, rwP]; omega) | (simp only [rwO, rwP]; rw [decide_eq_false (by omega)]; simp)
          rw [rwV_no ho, ho]
          clear ho
          first | (have hp0 := whP_no hg) | (have hp1 : (((whP rs : Nat) : Int) == 0) = false := by have := (whB_parts hg).2.2.2.2.1; exact beq_eq_false_iff_ne.2 (by omega))
          try (obtain ⟨n1, n2⟩ := inB_true.1 hk; have hnz : (n == 0) = false := beq_eq_false_iff_ne.2 (by omega))
          try (have hlb : ((whP rs : Int) % n == 0) = false := beq_eq_false_iff_ne.2 hl)
          try (have hlb : (whP rs : Int) % n = 0 := Decidable.not_not.1 hl; clear hl)
          try (have hmb : m = 12 := by omega; clear hx)
          go_enter Try.func104, Try.ntmps104
          go_wp2_with fail
          refine (whPeriod_c _ _ _ rs _ hA Hm.out hn).mono ?_
          rintro e w1 ⟨rfl, b1⟩
          have hA_1 := hA.below b1
          go_wp2_with fail
          refine (l1In_c _ _ _ _).mono ?_
          rintro e w2 ⟨rfl, rfl⟩
          go_wp2_with fail
          refine (prIs_c _ _ (by have := inB_true.1 hk; omega)).mono ?_
          rintro e w3 ⟨rfl, rfl⟩
          go_wp2
          go_ret2
          exact ⟨⟨_, rfl, OwnI.nil _ _⟩, b1⟩
        · skip
          by_cases hx : ¬ m = 12
          rotate_left
          · skip
            have ho : rwO rs n = false := by have := Hm.out; first | (simp [rwO, rwP, *]; done) | (simp [rwO, rwP]; omega) | (simp only [rwO, rwP]; rw [decide_eq_false (by omega)]; simp)
            rw [rwV_no ho, ho]
            clear ho
            first | (have hp0 := whP_no hg) | (have hp1 : (((whP rs : Nat) : Int) == 0) = false := by have := (whB_parts hg).2.2.2.2.1; exact beq_eq_false_iff_ne.2 (by omega))
            try (obtain ⟨n1, n2⟩ := inB_true.1 hk; have hnz : (n == 0) = false := beq_eq_false_iff_ne.2 (by omega))
            try (have hlb : ((whP rs : Int) % n == 0) = false := beq_eq_false_iff_ne.2 hl)
            try (have hlb : (whP rs : Int) % n = 0 := Decidable.not_not.1 hl; clear hl)
            try (have hmb : m = 12 := by omega; clear hx)
            go_enter Try.func104, Try.ntmps104
            go_wp2_with fail
            refine (whPeriod_c _ _ _ rs _ hA Hm.out hn).mono ?_
            rintro e w1 ⟨rfl, b1⟩
            have hA_1 := hA.below b1
            go_wp2_with fail
            refine (l1In_c _ _ _ _).mono ?_
            rintro e w2 ⟨rfl, rfl⟩
            go_wp2_with fail
            refine (prIs_c _ _ (by have := inB_true.1 hk; omega)).mono ?_
            rintro e w3 ⟨rfl, rfl⟩
            go_wp2
            go_ret2
            exact ⟨⟨_, rfl, OwnI.nil _ _⟩, b1⟩
          · skip
            have hpre : rwP rs n = true := by have := Hm.out; simp only [rwP]; rw [hg, hk, hj, decide_eq_true hl, decide_eq_true (by omega)]; rfl
            obtain ⟨n1, n2⟩ := inB_true.1 hk
            have hnz : (n == 0) = false := beq_eq_false_iff_ne.2 (by omega)
            have hp1 : (((whP rs : Nat) : Int) == 0) = false := by have := (whB_parts hg).2.2.2.2.1; exact beq_eq_false_iff_ne.2 (by omega)
            have hp5 := (whB_parts hg).2.2.2.2.2.1
            have h12 : m ≤ 12 := by rw [Hm.out]; exact good_len (whB_parts hg).1
            have hlb : ((whP rs : Int) % n == 0) = false := beq_eq_false_iff_ne.2 hl
            have hmb : ((m : Int) == 12) = false := beq_eq_false_iff_ne.2 (by omega)
            have Hpre := Lib.hid hpre
            clear hpre
            have Hg := Lib.hid hg
            have Hk := Lib.hid hk
            have Hj := Lib.hid hj
            go_enter Try.func104, Try.ntmps104
            go_wp2_with fail
            refine (whPeriod_c _ _ _ rs _ hA Hm.out hn).mono ?_
            rintro e w1 ⟨rfl, b1⟩
            have hA_1 := hA.below b1
            go_wp2_with fail
            refine (l1In_c _ _ _ _).mono ?_
            rintro e w2 ⟨rfl, rfl⟩
            go_wp2_with fail
            refine (prIs_c _ _ (by have := inB_true.1 hk; omega)).mono ?_
            rintro e w3 ⟨rfl, rfl⟩
            have hA0 := Rl.below hA_1 ((Below.refl _ _).alloc (Nat.le_refl _) (.cells #[] 69))
            have hl1 := Lib.hid (show ([] : List (Int × Int)).length + rs.length ≤ 1048576 by have := Hm.out; simp; omega)
            have hl2 := Lib.hid (show rs.length ≤ 1048576 by have := Hm.out; omega)
            go_wp2_with (at_builtin; first | (refine wp_app_rules _ rfl _ _ rfl w.heap.size _ [] rfl (OwnR.mono (own_empty0 _) (b1).size) _ _ _ rs rfl hA0 Hm.out hl1.out (by have := (b1).size; simp; omega) ?_; intro v5 w5 o5 b5; rw [List.nil_append] at o5; have hb5 := ((b1).alloc (b1).size _).trans b5) | (refine wp_app_rule w5 rfl _ _ rfl w.heap.size v5 rs rfl o5 _ _ rfl hl2.out hb5.size ?_; intro v6 w6 o6 b6; obtain ⟨A6, n6, c6, rfl, e6, l6⟩ := o6.form; have hb6 := hb5.trans b6; have R6 := Rl_of_own o6 e6; have E6 := Lib.hid e6; clear o6 e6))
            have h6 : n6 ≤ 1048576 := by have := E6.out; rw [List.length_append, List.length_singleton] at this; have := hl2.out; have := Hm.out; omega
            refine (whPeriod_c _ _ _ _ _ R6 E6.out h6).mono ?_
            rintro e w7 ⟨rfl, b7⟩
            have hb7 := hb6.trans (b7.mono hb6.size)
            have R7 := R6.below b7
            cases hr : whB (rs ++ [(n, 0)]) with
            | false =>
              have Ho := Lib.hid (show rwO rs n = false by rw [rwO, hr, Bool.and_false])
              have Hv := Lib.hid (rwV_no Ho.out)
              have hp0 := whP_no hr
              clear hr
              go_wp2_with fail
              go_ret2
              rw [Ho.out, Hv.out]
              exact ⟨⟨_, rfl, OwnI.nil _ _⟩, hb7⟩
            | true =>
              have Ho := Lib.hid (show rwO rs n = true by rw [rwO, hr, Hpre.out]; rfl)
              have Hv := Lib.hid (rwV_yes Ho.out)
              have hq1 : (((whP (rs ++ [(n, 0)]) : Nat) : Int) == 0) = false := by have := (whB_parts hr).2.2.2.2.1; exact beq_eq_false_iff_ne.2 (by omega)
              have hq5 := (whB_parts hr).2.2.2.2.2.1
              have Hgl := Lib.hid (whB_parts hr).1
              clear hr
              go_wp2_with fail
              refine (whPeriod_c _ _ _ _ _ R7 E6.out h6).mono ?_
              rintro e w8 ⟨rfl, b8⟩
              have hb8 := hb7.trans (b8.mono hb7.size)
              have R8 := R7.below b8
              go_wp2_with fail
              refine (whSpokes_c _ _ _ _ _ R8 E6.out Hgl.out _ (by omega)).mono ?_
              rintro e w9 ⟨⟨v9, rfl, o9⟩, b9⟩
              have hs8 := hb8.size
              go_wp2
              go_ret2
              rw [Ho.out, Hv.out]
              exact ⟨⟨_, rfl, OwnI.mono o9 hs8⟩, hb8.trans (b9.mono hs8)⟩

end Go.Proofs.Ytaapfapejekkfaa
