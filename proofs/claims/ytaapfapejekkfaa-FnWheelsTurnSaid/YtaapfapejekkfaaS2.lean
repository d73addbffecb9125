import Derived.Test.YtaapfapejekkfaaS1
namespace Go.Proofs.Ytaapfapejekkfaa
open Go.RowKit
set_option linter.unusedVariables false
set_option linter.unusedSimpArgs false

/-- How many of the first k numbers have p. -/
def cntP (xs : List Int) (p : Int → Bool) : Nat → Nat
  | 0 => 0
  | k + 1 => if p (ivL xs k) then cntP xs p k + 1 else cntP xs p k
theorem cntP_yes {xs : List Int} {p : Int → Bool} {k : Nat} (h : p (ivL xs k) = true) : cntP xs p (k + 1) = cntP xs p k + 1 := by rw [cntP, if_pos h]
theorem cntP_no {xs : List Int} {p : Int → Bool} {k : Nat} (h : p (ivL xs k) = false) : cntP xs p (k + 1) = cntP xs p k := by rw [cntP, if_neg (by rw [h]; exact Bool.false_ne_true)]
theorem cntP_le (xs : List Int) (p : Int → Bool) : ∀ k, cntP xs p k ≤ k
  | 0 => Nat.le_refl _
  | k + 1 => by
    have := cntP_le xs p k
    rw [cntP]
    split <;> omega

theorem whFar_c (n : Int) (w : World) :
    Calls Try.prog 202 #[.int .i64 n] w fun e w' => e = .returned (.bool (inB n 0 1000000000)) ∧ w = w' := by
  go_enter Try.func202, Try.ntmps202
  go_wp2_with (go_at_call 190; refine (l1In_c _ _ _ _).mono ?_; rintro e w' ⟨rfl, rfl⟩)
  go_ret
  exact ⟨rfl, rfl⟩

/-- The spokes told by the world, cell by cell. -/
theorem own_cells {w : World} {B : Nat} {v : Value} {xs : List Int} (h : OwnI w B v xs) (hp : 0 < xs.length) : ∃ g c, v = .slice (some ⟨g, 0, none⟩) xs.length c ∧ B ≤ g ∧ g < w.heap.size ∧ ∀ k, k < xs.length → w.cell? ⟨g, k, none⟩ = some (.int .i64 (ivL xs k)) := by
  obtain ⟨A, c, rfl⟩ := h.shape
  obtain ⟨g, rfl, h1, h2, _⟩ := h.cell hp
  refine ⟨g, c, rfl, h1, h2, fun k hk => ?_⟩
  obtain ⟨g', e', _, _, hc⟩ := h.cell hk
  injection e' with e'
  injection e' with e'
  subst e'
  exact hc

def csV (rs : List (Int × Int)) : Int := if whB rs then ((spk rs).length : Int) else 0
theorem csV_no {rs : List (Int × Int)} (h : whB rs = false) : csV rs = 0 := by rw [csV, h]; rfl
theorem csV_yes {rs : List (Int × Int)} (h : whB rs = true) : csV rs = ((spk rs).length : Int) := by rw [csV, h]; rfl
def spV (rs : List (Int × Int)) : List Int := if whB rs then spk rs else []
theorem spV_no {rs : List (Int × Int)} (h : whB rs = false) : spV rs = [] := by rw [spV, h]; rfl
theorem spV_yes {rs : List (Int × Int)} (h : whB rs = true) : spV rs = spk rs := by rw [spV, h]; rfl
theorem spV_len (rs : List (Int × Int)) : (spV rs).length ≤ 1048576 := by
  cases h : whB rs with
  | false => rw [spV_no h]; exact Nat.zero_le _
  | true => rw [spV_yes h]; have := spk_len rs; have := (whB_parts h).2.2.2.2.2.1; omega
def stV (rs : List (Int × Int)) : List Int := if whB rs then stA rs else []
theorem stV_no {rs : List (Int × Int)} (h : whB rs = false) : stV rs = [] := by rw [stV, h]; rfl
theorem stV_yes {rs : List (Int × Int)} (h : whB rs = true) : stV rs = stA rs := by rw [stV, h]; rfl
theorem stV_len (rs : List (Int × Int)) : (stV rs).length ≤ 1048576 := by
  cases h : whB rs with
  | false => rw [stV_no h]; exact Nat.zero_le _
  | true => rw [stV_yes h, stA, stL_len]; have := spk_len rs; have := (whB_parts h).2.2.2.2.2.1; omega
def isO (rs : List (Int × Int)) (n : Int) : Bool := whB rs && inB n 0 1000000000
def isW (rs : List (Int × Int)) (n : Int) : Bool := isO rs n && leftF rs n
theorem isW_no {rs : List (Int × Int)} {n : Int} (h : isO rs n = false) : isW rs n = false := by rw [isW, h]; rfl
theorem isW_yes {rs : List (Int × Int)} {n : Int} (h : isO rs n = true) : isW rs n = leftF rs n := by rw [isW, h]; rfl
def soV (rs : List (Int × Int)) (r : Int) : Int := if isO rs r then r / ((spk rs).length : Int) * (whP rs : Int) + ivL (spk rs) (r % ((spk rs).length : Int)).toNat else 0
theorem soV_no {rs : List (Int × Int)} {r : Int} (h : isO rs r = false) : soV rs r = 0 := by rw [soV, h]; rfl
theorem soV_yes {rs : List (Int × Int)} {r : Int} (h : isO rs r = true) : soV rs r = r / ((spk rs).length : Int) * (whP rs : Int) + ivL (spk rs) (r % ((spk rs).length : Int)).toNat := by rw [soV, h]; rfl

set_option maxRecDepth 100000 in
set_option maxHeartbeats 400000 in
theorem spec_CountSpokes_c (w : World) (A : Option Addr) (m c : Nat) (rs : List (Int × Int)) (hA : Rl w A rs) (hm : m = rs.length) (hn : m ≤ 1048576) :
    Calls Try.prog 58 #[.slice A m c] w fun en w' => en = .returned (.tuple #[.int .i64 (csV rs), .bool (whB rs)]) ∧ Below w.heap.size w w' := by
  have Hm := Lib.hid hm
  clear hm
  cases hg : whB rs with
  | false =>
    rw [csV_no hg]
    have hp0 := whP_no hg
    go_enter Try.func58, Try.ntmps58
    go_wp2_with fail
    refine (whPeriod_c _ _ _ rs _ hA Hm.out hn).mono ?_
    rintro e w1 ⟨rfl, b1⟩
    have hA_1 := hA.below b1
    go_wp2
    go_ret2
    exact ⟨rfl, b1⟩
  | true =>
    rw [csV_yes hg]
    have hp1 : (((whP rs : Nat) : Int) == 0) = false := by have := (whB_parts hg).2.2.2.2.1; exact beq_eq_false_iff_ne.2 (by omega)
    have hp5 := (whB_parts hg).2.2.2.2.2.1
    have hgl := (whB_parts hg).1
    have Hgl := Lib.hid hgl
    have Hg := Lib.hid hg
    go_enter Try.func58, Try.ntmps58
    go_wp2_with fail
    refine (whPeriod_c _ _ _ rs _ hA Hm.out hn).mono ?_
    rintro e w1 ⟨rfl, b1⟩
    have hA_1 := hA.below b1
    go_wp2_with fail
    refine (whSpokes_c _ _ _ _ rs hA_1 Hm.out Hgl.out (whP rs) (by omega)).mono ?_
    rintro e w2 ⟨⟨v2, rfl, o2⟩, b2⟩
    have hA_2 := hA_1.below b2
    have bb2 := b1.trans (b2.mono b1.size)
    have o3 : OwnI w2 w1.heap.size v2 (spk rs) := o2
    clear o2
    obtain ⟨A2, c2, rfl⟩ := o3.shape
    go_wp2
    go_ret2
    exact ⟨rfl, bb2⟩

set_option maxRecDepth 100000 in
set_option maxHeartbeats 400000 in
theorem spec_SpokesOf_c (w : World) (A : Option Addr) (m c : Nat) (rs : List (Int × Int)) (hA : Rl w A rs) (hm : m = rs.length) (hn : m ≤ 1048576) :
    Calls Try.prog 54 #[.slice A m c] w fun en w' => (∃ v, en = .returned (.tuple #[v, .bool (whB rs)]) ∧ OwnI w' w.heap.size v (spV rs)) ∧ Below w.heap.size w w' := by
  have Hm := Lib.hid hm
  clear hm
  cases hg : whB rs with
  | false =>
    rw [spV_no hg]
    have hp0 := whP_no hg
    go_enter Try.func54, Try.ntmps54
    go_wp2_with fail
    refine (whPeriod_c _ _ _ rs _ hA Hm.out hn).mono ?_
    rintro e w1 ⟨rfl, b1⟩
    have hA_1 := hA.below b1
    go_wp2
    go_ret2
    exact ⟨⟨_, rfl, OwnI.nil _ _⟩, b1⟩
  | true =>
    rw [spV_yes hg]
    have hp1 : (((whP rs : Nat) : Int) == 0) = false := by have := (whB_parts hg).2.2.2.2.1; exact beq_eq_false_iff_ne.2 (by omega)
    have hp5 := (whB_parts hg).2.2.2.2.2.1
    have hgl := (whB_parts hg).1
    have Hgl := Lib.hid hgl
    have Hg := Lib.hid hg
    go_enter Try.func54, Try.ntmps54
    go_wp2_with fail
    refine (whPeriod_c _ _ _ rs _ hA Hm.out hn).mono ?_
    rintro e w1 ⟨rfl, b1⟩
    have hA_1 := hA.below b1
    go_wp2_with fail
    refine (whSpokes_c _ _ _ _ rs hA_1 Hm.out Hgl.out (whP rs) (by omega)).mono ?_
    rintro e w2 ⟨⟨v2, rfl, o2⟩, b2⟩
    have hA_2 := hA_1.below b2
    have bb2 := b1.trans (b2.mono b1.size)
    have o3 : OwnI w2 w1.heap.size v2 (spk rs) := o2
    clear o2
    go_wp2
    go_ret2
    exact ⟨⟨_, rfl, OwnI.mono o3 b1.size⟩, bb2⟩

set_option maxRecDepth 100000 in
set_option maxHeartbeats 400000 in
theorem spec_StepsOf_c (w : World) (A : Option Addr) (m c : Nat) (rs : List (Int × Int)) (hA : Rl w A rs) (hm : m = rs.length) (hn : m ≤ 1048576) :
    Calls Try.prog 56 #[.slice A m c] w fun en w' => (∃ v, en = .returned (.tuple #[v, .bool (whB rs)]) ∧ OwnI w' w.heap.size v (stV rs)) ∧ Below w.heap.size w w' := by
  have Hm := Lib.hid hm
  clear hm
  cases hg : whB rs with
  | false =>
    rw [stV_no hg]
    have hp0 := whP_no hg
    go_enter Try.func56, Try.ntmps56
    go_wp2_with fail
    refine (whPeriod_c _ _ _ rs _ hA Hm.out hn).mono ?_
    rintro e w1 ⟨rfl, b1⟩
    have hA_1 := hA.below b1
    go_wp2
    go_ret2
    exact ⟨⟨_, rfl, OwnI.nil _ _⟩, b1⟩
  | true =>
    rw [stV_yes hg]
    have hp1 : (((whP rs : Nat) : Int) == 0) = false := by have := (whB_parts hg).2.2.2.2.1; exact beq_eq_false_iff_ne.2 (by omega)
    have hp5 := (whB_parts hg).2.2.2.2.2.1
    have hgl := (whB_parts hg).1
    have Hgl := Lib.hid hgl
    have Hg := Lib.hid hg
    go_enter Try.func56, Try.ntmps56
    go_wp2_with fail
    refine (whPeriod_c _ _ _ rs _ hA Hm.out hn).mono ?_
    rintro e w1 ⟨rfl, b1⟩
    have hA_1 := hA.below b1
    go_wp2_with fail
    refine (whSteps_c _ _ _ _ rs hA_1 Hm.out Hg.out).mono ?_
    rintro e w2 ⟨⟨v2, rfl, o2⟩, b2⟩
    have hA_2 := hA_1.below b2
    have bb2 := b1.trans (b2.mono b1.size)
    go_wp2
    go_ret2
    exact ⟨⟨_, rfl, OwnI.mono o2 b1.size⟩, bb2⟩

set_option maxRecDepth 100000 in
set_option maxHeartbeats 400000 in
theorem spec_IsSpoke_c (w : World) (A : Option Addr) (m c : Nat) (rs : List (Int × Int)) (hA : Rl w A rs) (hm : m = rs.length) (hn : m ≤ 1048576) (n : Int) :
    Calls Try.prog 50 #[.slice A m c, .int .i64 n] w fun en w' => en = .returned (.tuple #[.bool (isW rs n), .bool (isO rs n)]) ∧ Below w.heap.size w w' := by
  have Hm := Lib.hid hm
  clear hm
  cases hg : whB rs with
  | false =>
    have ho : isO rs n = false := by simp [isO, *]
    rw [isW_no ho, ho]
    clear ho
    first | (have hp0 := whP_no hg) | (have hp1 : (((whP rs : Nat) : Int) == 0) = false := by have := (whB_parts hg).2.2.2.2.1; exact beq_eq_false_iff_ne.2 (by omega))
    go_enter Try.func50, Try.ntmps50
    go_wp2_with fail
    refine (whPeriod_c _ _ _ rs _ hA Hm.out hn).mono ?_
    rintro e w1 ⟨rfl, b1⟩
    have hA_1 := hA.below b1
    go_wp2
    go_ret2
    exact ⟨rfl, b1⟩
  | true =>
    cases hk : inB n 0 1000000000 with
    | false =>
      have ho : isO rs n = false := by simp [isO, *]
      rw [isW_no ho, ho]
      clear ho
      first | (have hp0 := whP_no hg) | (have hp1 : (((whP rs : Nat) : Int) == 0) = false := by have := (whB_parts hg).2.2.2.2.1; exact beq_eq_false_iff_ne.2 (by omega))
      go_enter Try.func50, Try.ntmps50
      go_wp2_with fail
      refine (whPeriod_c _ _ _ rs _ hA Hm.out hn).mono ?_
      rintro e w1 ⟨rfl, b1⟩
      have hA_1 := hA.below b1
      go_wp2_with fail
      refine (whFar_c _ _).mono ?_
      rintro e w2 ⟨rfl, rfl⟩
      go_wp2
      go_ret2
      exact ⟨rfl, b1⟩
    | true =>
      have ho : isO rs n = true := by simp [isO, *]
      rw [isW_yes ho, ho]
      clear ho
      obtain ⟨n1, n2⟩ := inB_true.1 hk
      have hp1 : (((whP rs : Nat) : Int) == 0) = false := by have := (whB_parts hg).2.2.2.2.1; exact beq_eq_false_iff_ne.2 (by omega)
      have hp5 := (whB_parts hg).2.2.2.2.2.1
      have hgl := (whB_parts hg).1
      have Hgl := Lib.hid hgl
      have Hg := Lib.hid hg
      have Hk := Lib.hid hk
      go_enter Try.func50, Try.ntmps50
      go_wp2_with fail
      refine (whPeriod_c _ _ _ rs _ hA Hm.out hn).mono ?_
      rintro e w1 ⟨rfl, b1⟩
      have hA_1 := hA.below b1
      go_wp2_with fail
      refine (whFar_c _ _).mono ?_
      rintro e w2 ⟨rfl, rfl⟩
      go_wp2_with fail
      refine (siLeft_c _ _ _ rs _ _ hA_1 Hm.out Hgl.out (by omega) (by omega)).mono ?_
      rintro e w3 ⟨rfl, b3⟩
      have hA_3 := hA_1.below b3
      have bb3 := b1.trans (b3.mono b1.size)
      go_wp2
      go_ret2
      exact ⟨rfl, bb3⟩

set_option maxRecDepth 100000 in
set_option maxHeartbeats 800000 in
theorem spec_SpokeOfRank_c (w : World) (A : Option Addr) (m c : Nat) (rs : List (Int × Int)) (hA : Rl w A rs) (hm : m = rs.length) (hn : m ≤ 1048576) (n : Int) :
    Calls Try.prog 46 #[.slice A m c, .int .i64 n] w fun en w' => en = .returned (.tuple #[.int .i64 (soV rs n), .bool (isO rs n)]) ∧ Below w.heap.size w w' := by
  have Hm := Lib.hid hm
  clear hm
  cases hg : whB rs with
  | false =>
    have ho : isO rs n = false := by simp [isO, *]
    rw [soV_no ho, ho]
    clear ho
    first | (have hp0 := whP_no hg) | (have hp1 : (((whP rs : Nat) : Int) == 0) = false := by have := (whB_parts hg).2.2.2.2.1; exact beq_eq_false_iff_ne.2 (by omega))
    go_enter Try.func46, Try.ntmps46
    go_wp2_with fail
    refine (whPeriod_c _ _ _ rs _ hA Hm.out hn).mono ?_
    rintro e w1 ⟨rfl, b1⟩
    have hA_1 := hA.below b1
    go_wp2
    go_ret2
    exact ⟨rfl, b1⟩
  | true =>
    cases hk : inB n 0 1000000000 with
    | false =>
      have ho : isO rs n = false := by simp [isO, *]
      rw [soV_no ho, ho]
      clear ho
      first | (have hp0 := whP_no hg) | (have hp1 : (((whP rs : Nat) : Int) == 0) = false := by have := (whB_parts hg).2.2.2.2.1; exact beq_eq_false_iff_ne.2 (by omega))
      go_enter Try.func46, Try.ntmps46
      go_wp2_with fail
      refine (whPeriod_c _ _ _ rs _ hA Hm.out hn).mono ?_
      rintro e w1 ⟨rfl, b1⟩
      have hA_1 := hA.below b1
      go_wp2_with fail
      refine (whFar_c _ _).mono ?_
      rintro e w2 ⟨rfl, rfl⟩
      go_wp2
      go_ret2
      exact ⟨rfl, b1⟩
    | true =>
      have ho : isO rs n = true := by simp [isO, *]
      rw [soV_yes ho, ho]
      clear ho
      obtain ⟨n1, n2⟩ := inB_true.1 hk
      have hp1 : (((whP rs : Nat) : Int) == 0) = false := by have := (whB_parts hg).2.2.2.2.1; exact beq_eq_false_iff_ne.2 (by omega)
      have hp5 := (whB_parts hg).2.2.2.2.2.1
      have hgl := (whB_parts hg).1
      have Hgl := Lib.hid hgl
      have hpos := spk_pos hg
      have hsl := spk_len rs
      have Hat := Lib.hid (fun k (hk : k < (spk rs).length) => spk_at hk)
      have Hg := Lib.hid hg
      have Hk := Lib.hid hk
      go_enter Try.func46, Try.ntmps46
      go_wp2_with fail
      refine (whPeriod_c _ _ _ rs _ hA Hm.out hn).mono ?_
      rintro e w1 ⟨rfl, b1⟩
      have hA_1 := hA.below b1
      go_wp2_with fail
      refine (whFar_c _ _).mono ?_
      rintro e w2 ⟨rfl, rfl⟩
      go_wp2_with fail
      refine (whSpokes_c _ _ _ _ rs hA_1 Hm.out Hgl.out (whP rs) (by omega)).mono ?_
      rintro e w3 ⟨⟨v3, rfl, o3⟩, b3⟩
      have hA_3 := hA_1.below b3
      have bb3 := b1.trans (b3.mono b1.size)
      have o4 : OwnI w3 w1.heap.size v3 (spk rs) := o3
      clear o3
      obtain ⟨g, c2, rfl, _, hg2, hc⟩ := own_cells o4 hpos
      have h0 := Int.emod_nonneg n (b := ((spk rs).length : Int)) (by omega)
      have h1 := Int.emod_lt_of_pos n (b := ((spk rs).length : Int)) (by omega)
      have hck := hc (n % ((spk rs).length : Int)).toNat (by omega)
      have hat := Hat.out (n % ((spk rs).length : Int)).toNat (by omega)
      have hz : (((spk rs).length : Int) == 0) = false := beq_eq_false_iff_ne.2 (by omega)
      have hq0 : 0 ≤ n / ((spk rs).length : Int) := Int.ediv_nonneg (by omega) (by omega)
      have hq1 : n / ((spk rs).length : Int) ≤ n := Int.ediv_le_self _ (by omega)
      have hm0 : 0 ≤ n / ((spk rs).length : Int) * (whP rs : Int) := Int.mul_nonneg (by omega) (by omega)
      have hm9 : n / ((spk rs).length : Int) * (whP rs : Int) ≤ 1000000000 * 5000 := Int.mul_le_mul (by omega) (by omega) (by omega) (by omega)
      have hm8 : n / ((spk rs).length : Int) * (whP rs : Int) ≤ 5000000000000 := by omega
      have e1 : IntKind.i64.wrap (n / ((spk rs).length : Int) * (whP rs : Int)) = n / ((spk rs).length : Int) * (whP rs : Int) := IntWalk.i64_in _ (by omega)
      have e2 : IntKind.i64.wrap (n / ((spk rs).length : Int) * (whP rs : Int) + ivL (spk rs) (n % ((spk rs).length : Int)).toNat) = n / ((spk rs).length : Int) * (whP rs : Int) + ivL (spk rs) (n % ((spk rs).length : Int)).toNat := IntWalk.i64_in _ (by omega)
      clear hm9 hc o4
      go_wp2_with fail
      go_quiet (fail)
      clear e1 e2
      go_wp2
      go_ret2
      exact ⟨rfl, below_drewN bb3 _⟩

end Go.Proofs.Ytaapfapejekkfaa
