import Derived.Test.YtaapfapejekkfaaS3
namespace Go.Proofs.Ytaapfapejekkfaa
open Go.RowKit
set_option linter.unusedVariables false
set_option linter.unusedSimpArgs false

/-- Whether the first k numbers are left exactly if those b on are. -/
def smF (rs : List (Int × Int)) (b : Nat) (k : Nat) : Bool := (List.range k).all fun n => leftF rs (n : Int) == leftF rs ((n : Int) + (b : Int))
theorem smF_succ (rs : List (Int × Int)) (b k : Nat) : smF rs b (k + 1) = (smF rs b k && (leftF rs (k : Int) == leftF rs ((k : Int) + (b : Int)))) := by
  rw [smF, List.range_succ, List.all_append]
  simp [smF]
theorem smF_up {rs : List (Int × Int)} {b k m : Nat} (h : k ≤ m) (hf : smF rs b k = false) : smF rs b m = false := by
  induction m with
  | zero => rwa [show k = 0 by omega] at hf
  | succ m ih =>
    rw [smF_succ]
    by_cases hk : k = m + 1
    · rw [← smF_succ, ← hk]; exact hf
    · rw [ih (by omega)]; rfl
def lpB (rs : List (Int × Int)) (b : Nat) : Bool := (((whP rs : Int) % (b : Int)) == 0) && smF rs b (whP rs)
theorem lpB_per {rs : List (Int × Int)} (h : whB rs = true) : lpB rs (whP rs) = true := by
  rw [lpB, Int.emod_self]
  have e : smF rs (whP rs) (whP rs) = true := by
    rw [smF, List.all_eq_true]
    intro n _
    rw [wh_per1 h]
    simp
  rw [e]
  rfl
/-- The least one from b on. -/
def lpGo (rs : List (Int × Int)) : Nat → Nat → Nat
  | 0, b => b
  | f + 1, b => if lpB rs b then b else lpGo rs f (b + 1)
def lpD (rs : List (Int × Int)) (b : Nat) : Nat := lpGo rs (whP rs - b) b
theorem lpD_yes {rs : List (Int × Int)} {b : Nat} (h : lpB rs b = true) : lpD rs b = b := by
  rw [lpD]
  cases whP rs - b with
  | zero => rfl
  | succ f => rw [lpGo, if_pos h]
theorem lpD_no {rs : List (Int × Int)} {b : Nat} (hb : b < whP rs) (h : lpB rs b = false) : lpD rs b = lpD rs (b + 1) := by
  rw [lpD, show whP rs - b = (whP rs - (b + 1)) + 1 by omega, lpGo, if_neg (by rw [h]; exact Bool.false_ne_true), lpD]
def lpV (rs : List (Int × Int)) : Int := if whB rs then (lpD rs 1 : Int) else 0
theorem lpV_no {rs : List (Int × Int)} (h : whB rs = false) : lpV rs = 0 := by rw [lpV, h]; rfl
theorem lpV_yes {rs : List (Int × Int)} (h : whB rs = true) : lpV rs = (lpD rs 1 : Int) := by rw [lpV, h]; rfl

set_option maxRecDepth 100000 in
set_option maxHeartbeats 800000 in
theorem spec_TimesTogether_c (w : World) (A : Option Addr) (m c : Nat) (rs : List (Int × Int)) (hA : Rl w A rs) (hm : m = rs.length) (hn : m ≤ 1048576) (s : Int) :
    Calls Try.prog 107 #[.slice A m c, .int .i64 s] w fun en w' => en = .returned (.tuple #[.int .i64 (ttV rs s), .bool (ttO rs s)]) ∧ Below w.heap.size w w' := by
  have Hm := Lib.hid hm
  clear hm
  cases hg : whB rs with
  | false =>
    have ho : ttO rs s = false := by simp [ttO, *]
    rw [ttV_no ho, ho]
    clear ho
    first | (have hp0 := whP_no hg) | (have hp1 : (((whP rs : Nat) : Int) == 0) = false := by have := (whB_parts hg).2.2.2.2.1; exact beq_eq_false_iff_ne.2 (by omega))
    go_enter Try.func107, Try.ntmps107
    go_wp2_with fail
    refine (whPeriod_c _ _ _ rs _ hA Hm.out hn).mono ?_
    rintro e w1 ⟨rfl, b1⟩
    have hA_1 := hA.below b1
    go_wp2
    go_ret2
    exact ⟨rfl, b1⟩
  | true =>
    cases hk : inB s 1 5000 with
    | false =>
      have ho : ttO rs s = false := by simp [ttO, *]
      rw [ttV_no ho, ho]
      clear ho
      first | (have hp0 := whP_no hg) | (have hp1 : (((whP rs : Nat) : Int) == 0) = false := by have := (whB_parts hg).2.2.2.2.1; exact beq_eq_false_iff_ne.2 (by omega))
      go_enter Try.func107, Try.ntmps107
      go_wp2_with fail
      refine (whPeriod_c _ _ _ rs _ hA Hm.out hn).mono ?_
      rintro e w1 ⟨rfl, b1⟩
      have hA_1 := hA.below b1
      go_wp2_with fail
      refine (l1In_c _ _ _ _).mono ?_
      rintro e w2 ⟨rfl, rfl⟩
      go_wp2
      go_ret2
      exact ⟨rfl, b1⟩
    | true =>
      have ho : ttO rs s = true := by simp [ttO, *]
      rw [ttV_yes ho, ho]
      clear ho
      obtain ⟨n1, n2⟩ := inB_true.1 hk
      have hp1 : (((whP rs : Nat) : Int) == 0) = false := by have := (whB_parts hg).2.2.2.2.1; exact beq_eq_false_iff_ne.2 (by omega)
      have hp5 := (whB_parts hg).2.2.2.2.2.1
      have hgl := (whB_parts hg).1
      have Hgl := Lib.hid hgl
      have hpos := spk_pos hg
      have hsl := spk_len rs
      have Hat := Lib.hid (fun k (hk : k < (spk rs).length) => spk_at hk)
      have Hg := Lib.hid hg
      have Hk := Lib.hid hk
      go_enter Try.func107, Try.ntmps107
      go_wp2_with fail
      refine (whPeriod_c _ _ _ rs _ hA Hm.out hn).mono ?_
      rintro e w1 ⟨rfl, b1⟩
      have hA_1 := hA.below b1
      go_wp2_with fail
      refine (l1In_c _ _ _ _).mono ?_
      rintro e w2 ⟨rfl, rfl⟩
      go_wp2_with fail
      refine (whSpokes_c _ _ _ _ rs hA_1 Hm.out Hgl.out (whP rs) (by omega)).mono ?_
      rintro e w3 ⟨⟨v3, rfl, o3⟩, b3⟩
      have hA_3 := hA_1.below b3
      have bb3 := b1.trans (b3.mono b1.size)
      have o4 : OwnI w3 w1.heap.size v3 (spk rs) := o3
      clear o3
      obtain ⟨g, c2, rfl, _, hg2, hc⟩ := own_cells o4 hpos
      have Hc := Lib.hid hc
      clear hc o4
      go_wp2_with fail
      go_loopw [7, 23] (fun q i wr => ∃ k : Nat, k ≤ (spk rs).length ∧ i = .int .i64 (k : Int) ∧ q = .int .i64 (cntP (spk rs) (fun x => leftF rs (x + s)) k : Int) ∧ Below w3.heap.size w3 wr) (fun _ i _ => (spk rs).length - (intOf i).toNat)
      case atStart => exact ⟨0, Nat.zero_le _, rfl, rfl, Below.refl _ _⟩
      case round =>
        obtain ⟨k, hk, rfl, rfl, hbel⟩ := hrel
        have hcl := cntP_le (spk rs) (fun x => leftF rs (x + s)) k
        have R4 := (hA_3).below hbel
        by_cases hlt : k < (spk rs).length
        · have hck := (hbel.cell (p := ⟨g, k, none⟩) hg2).trans (Hc.out k hlt)
          have hat := Hat.out k hlt
          cases ht : leftF rs (ivL (spk rs) k + s) with
          | true =>
            have Hy := Lib.hid (cntP_yes (xs := spk rs) (p := fun x => leftF rs (x + s)) (k := k) ht)
            go_wp2_with fail
            refine (siLeft_c _ _ _ rs _ _ R4 Hm.out Hgl.out (by omega) (by omega)).mono ?_
            rw [ht]
            rintro e w5 ⟨rfl, b5⟩
            go_wp2
            go_roundw
            case rel => exact ⟨k + 1, by omega, by go_num, by rw [Hy.out]; go_num, hbel.trans (b5.mono hbel.size)⟩
            case measure => simp [intOf]; omega
          | false =>
            have Hy := Lib.hid (cntP_no (xs := spk rs) (p := fun x => leftF rs (x + s)) (k := k) ht)
            go_wp2_with fail
            refine (siLeft_c _ _ _ rs _ _ R4 Hm.out Hgl.out (by omega) (by omega)).mono ?_
            rw [ht]
            rintro e w5 ⟨rfl, b5⟩
            go_wp2
            go_roundw
            case rel => exact ⟨k + 1, by omega, by go_num, by rw [Hy.out], hbel.trans (b5.mono hbel.size)⟩
            case measure => simp [intOf]; omega
        · have Hk2 := Lib.hid (show k = (spk rs).length by omega)
          go_wp2
          go_ret2
          exact ⟨by rw [← Hk2.out]; rfl, (bb3).trans (hbel.mono (bb3).size)⟩

set_option maxRecDepth 100000 in
set_option maxHeartbeats 1600000 in
theorem spec_LeastPeriod_c (w : World) (A : Option Addr) (m c : Nat) (rs : List (Int × Int)) (hA : Rl w A rs) (hm : m = rs.length) (hn : m ≤ 1048576) :
    Calls Try.prog 97 #[.slice A m c] w fun en w' => en = .returned (.tuple #[.int .i64 (lpV rs), .bool (whB rs)]) ∧ Below w.heap.size w w' := by
  have Hm := Lib.hid hm
  clear hm
  cases hg : whB rs with
  | false =>
    rw [lpV_no hg]
    have hp0 := whP_no hg
    go_enter Try.func97, Try.ntmps97
    go_wp2_with fail
    refine (whPeriod_c _ _ _ rs _ hA Hm.out hn).mono ?_
    rintro e w1 ⟨rfl, b1⟩
    have hA_1 := hA.below b1
    go_wp2
    go_ret2
    exact ⟨rfl, b1⟩
  | true =>
    rw [lpV_yes hg]
    have hp1 : (((whP rs : Nat) : Int) == 0) = false := by have := (whB_parts hg).2.2.2.2.1; exact beq_eq_false_iff_ne.2 (by omega)
    have hp0 := (whB_parts hg).2.2.2.2.1
    have hp5 := (whB_parts hg).2.2.2.2.2.1
    have hgl := (whB_parts hg).1
    have hlast := lpB_per hg
    have Hgl := Lib.hid hgl
    have Hlast := Lib.hid hlast
    clear hlast
    obtain ⟨T, hT⟩ : ∃ T, lpD rs 1 = T := ⟨_, rfl⟩
    rw [hT]
    have HT := Lib.hid hT
    clear hT
    have Hg := Lib.hid hg
    go_enter Try.func97, Try.ntmps97
    go_wp2_with fail
    refine (whPeriod_c _ _ _ rs _ hA Hm.out hn).mono ?_
    rintro e w1 ⟨rfl, b1⟩
    have hA_1 := hA.below b1
    go_wp2
    go_loopw [5] (fun i wr => ∃ b : Nat, 1 ≤ b ∧ b ≤ whP rs ∧ i = .int .i64 (b : Int) ∧ Hid (lpD rs b = T) ∧ Below w1.heap.size w1 wr) (fun i _ => whP rs + 1 - (intOf i).toNat)
    case atStart => exact ⟨1, Nat.le_refl _, by omega, rfl, HT, Below.refl _ _⟩
    case round =>
      obtain ⟨b, hb1, hb, rfl, hD, hbel⟩ := hrel
      have hz : ((b : Int) == 0) = false := beq_eq_false_iff_ne.2 (by omega)
      obtain ⟨r, hr⟩ : ∃ r, (whP rs : Int) % (b : Int) = r := ⟨_, rfl⟩
      have R2 := (hA_1).below hbel
      by_cases hr0 : r = 0
      · subst hr0
        have Hr := Lib.hid hr
        rename World => wq
        go_wp2_with fail
        go_loopw [6, 7] (fun sm i wr => ∃ k : Nat, k ≤ whP rs ∧ i = .int .i64 (k : Int) ∧ sm = .bool (smF rs b k) ∧ Below w1.heap.size w1 wr) (fun _ i _ => whP rs - (intOf i).toNat)
        case atStart => exact ⟨0, Nat.zero_le _, rfl, rfl, hbel⟩
        case round =>
          clear hbel R2 hr
          obtain ⟨k, hk, rfl, rfl, hbel⟩ := hrel
          have R2 := (hA_1).below hbel
          have Hsu := Lib.hid (smF_succ rs b k)
          cases hs : smF rs b k with
          | true =>
            by_cases hlt : k < whP rs
            · obtain ⟨x, hx⟩ : ∃ x, leftF rs (k : Int) = x := ⟨_, rfl⟩
              obtain ⟨y, hy⟩ : ∃ y, leftF rs ((k : Int) + (b : Int)) = y := ⟨_, rfl⟩
              have Hsu2 : Hid (smF rs b (k + 1) = (x == y)) := by
                show _ = _
                rw [Hsu.out, hs, hx, hy]; rfl
              clear hs
              go_wp2_with fail
              refine (siLeft_c _ _ _ rs _ _ R2 Hm.out Hgl.out (by omega) (by omega)).mono ?_
              rw [hx]
              rintro e w3 ⟨rfl, b3⟩
              have R3 := R2.below b3
              have bb3 := hbel.trans (b3.mono hbel.size)
              go_wp2_with fail
              refine (siLeft_c _ _ _ rs _ _ R3 Hm.out Hgl.out (by omega) (by omega)).mono ?_
              rw [hy]
              rintro e w4 ⟨rfl, b4⟩
              clear hx hy
              go_wp2
              go_roundw
              case rel => exact ⟨k + 1, by omega, by go_num, by rw [Hsu2.out], bb3.trans (b4.mono bb3.size)⟩
              case measure => simp [intOf]; omega
            · have Hy : Hid (T = b) := by
                show _ = _
                rw [← hD.out]
                refine lpD_yes ?_
                rw [lpB, Hr.out, show whP rs = k by omega, hs]
                rfl
              clear hs
              go_wp2
              go_ret2
              exact ⟨by rw [Hy.out]; rfl, (b1).trans (hbel.mono (b1).size)⟩
          | false =>
            have hno : lpB rs b = false := by rw [lpB, smF_up hk hs, Bool.and_false]
            have hbl : b < whP rs := by
              rcases Nat.lt_or_ge b (whP rs) with h | h
              · exact h
              · rw [show b = whP rs by omega, Hlast.out] at hno
                cases hno
            have Hn : Hid (lpD rs (b + 1) = T) := by
              show _ = _
              rw [← hD.out, lpD_no hbl hno]
            clear hs hno
            by_cases hlt : k < whP rs
            · go_wp2
              go_roundw
              case rel => exact ⟨b + 1, by omega, by omega, by go_num, Hn, hbel⟩
              case measure => simp [intOf]; omega
            · go_wp2
              go_roundw
              case rel => exact ⟨b + 1, by omega, by omega, by go_num, Hn, hbel⟩
              case measure => simp [intOf]; omega
      · have hno : lpB rs b = false := by rw [lpB, hr, beq_eq_false_iff_ne.2 hr0]; rfl
        have hbl : b < whP rs := by
          rcases Nat.lt_or_ge b (whP rs) with h | h
          · exact h
          · rw [show b = whP rs by omega, Hlast.out] at hno
            cases hno
        have Hn : Hid (lpD rs (b + 1) = T) := by
          show _ = _
          rw [← hD.out, lpD_no hbl hno]
        clear hno
        have hr1 : (r == 0) = false := beq_eq_false_iff_ne.2 hr0
        go_wp2
        go_roundw
        case rel => exact ⟨b + 1, by omega, by omega, by go_num, Hn, hbel⟩
        case measure => simp [intOf]; omega

end Go.Proofs.Ytaapfapejekkfaa
