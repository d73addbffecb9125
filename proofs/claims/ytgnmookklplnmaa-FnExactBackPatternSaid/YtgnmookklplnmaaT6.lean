import Derived.Test.YtgnmookklplnmaaT5
namespace Go.Proofs.Ytgnmookklplnmaa
open Go.RowKit
set_option linter.unusedVariables false
set_option linter.unusedSimpArgs false

/-- The rules of a pattern for one prime, of the first r remainders. -/
def ruB (xs : List Int) (p r : Nat) : Bool := hasF (rsA xs p) (restF (-(r : Int)) (p : Int))
def ruK (xs : List Int) (p : Nat) : Nat → List (Int × Int)
  | 0 => []
  | r + 1 => if ruB xs p r then ruK xs p r ++ [((p : Int), (r : Int))] else ruK xs p r
theorem ruK_yes {xs : List Int} {p r : Nat} (h : ruB xs p r = true) : ruK xs p (r + 1) = ruK xs p r ++ [((p : Int), (r : Int))] := by rw [ruK, if_pos h]
theorem ruK_no {xs : List Int} {p r : Nat} (h : ruB xs p r = false) : ruK xs p (r + 1) = ruK xs p r := by rw [ruK, if_neg (by rw [h]; exact Bool.false_ne_true)]
theorem ruK_len (xs : List Int) (p : Nat) : ∀ r, (ruK xs p r).length ≤ r
  | 0 => Nat.le_refl _
  | r + 1 => by
    have := ruK_len xs p r
    rw [ruK]
    split
    · rw [List.length_append, List.length_singleton]; omega
    · omega
def ruA (xs : List Int) : Nat → List (Int × Int)
  | 0 => []
  | k + 1 => ruA xs k ++ ruK xs (rpF k) (rpF k)
theorem ruA_len (xs : List Int) : ∀ k, k ≤ 6 → (ruA xs k).length ≤ 13 * k
  | 0, _ => Nat.le_refl _
  | k + 1, h => by
    have a := ruA_len xs k (by omega)
    have b := ruK_len xs (rpF k) (rpF k)
    have c := rpF_all k (by omega)
    rw [ruA, List.length_append]
    omega
def rpO (xs : List Int) (n : Int) : Bool := akO xs n && goodL (ruA xs n.toNat)
def rpV (xs : List Int) (n : Int) : List (Int × Int) := if rpO xs n then ruA xs n.toNat else []
theorem rpV_no {xs : List Int} {n : Int} (h : rpO xs n = false) : rpV xs n = [] := by rw [rpV, h]; rfl
theorem rpV_yes {xs : List Int} {n : Int} (h : rpO xs n = true) : rpV xs n = ruA xs n.toNat := by rw [rpV, h]; rfl
theorem rpV_len (xs : List Int) (n : Int) : (rpV xs n).length ≤ 12 := by
  cases h : rpO xs n with
  | false => rw [rpV_no h]; simp
  | true =>
    rw [rpV_yes h]
    rw [rpO, Bool.and_eq_true] at h
    exact good_len h.2

set_option maxRecDepth 100000 in
set_option maxHeartbeats 1600000 in
theorem spec_RulesOfPattern_c (w : World) (A : Option Addr) (m c : Nat) (xs : List Int) (hA : Il w A xs) (hm : m = xs.length) (hn : m ≤ 1048576) (n : Int) :
    Calls Try.prog 42 #[.slice A m c, .int .i64 n] w fun en w' => (∃ v, en = .returned (.tuple #[v, .bool (rpO xs n)]) ∧ OwnR w' w.heap.size v (rpV xs n)) ∧ Below w.heap.size w w' := by
  have Hm := Lib.hid hm
  clear hm
  cases hg : akO xs n with
  | false =>
    have ho : rpO xs n = false := by rw [rpO, hg]; rfl
    rw [rpV_no ho, ho]
    clear ho
    go_enter Try.func42, Try.ntmps42
    go_wp2_with fail
    refine (reAsked_c _ _ _ _ xs hA Hm.out hn _).mono ?_
    rintro e w1 ⟨rfl, b1⟩
    have hA_1 := hA.below b1
    go_wp2
    go_ret2
    exact ⟨⟨_, rfl, OwnR.nil _ _⟩, b1⟩
  | true =>
    obtain ⟨hgp, n0, n6⟩ := akO_parts hg
    obtain ⟨N, rfl⟩ := Int.eq_ofNat_of_zero_le n0
    have Hx := Lib.hid (goodP_small hgp)
    have Hg := Lib.hid hg
    go_enter Try.func42, Try.ntmps42
    go_wp2_with fail
    refine (reAsked_c _ _ _ _ xs hA Hm.out hn _).mono ?_
    rintro e w1 ⟨rfl, b1⟩
    have hA_1 := hA.below b1
    go_wp2_with fail
    go_loopw [6, 7] (fun v i wr => ∃ k : Nat, k ≤ N ∧ i = .int .i64 (k : Int) ∧ OwnR wr w1.heap.size v (ruA xs k) ∧ Below w1.heap.size w1 wr) (fun _ i _ => N - (intOf i).toNat)
    case atStart => exact ⟨0, Nat.zero_le _, rfl, OwnR.nil _ _, Below.refl _ _⟩
    case round =>
      obtain ⟨k, hk, rfl, hown, hbel⟩ := hrel
      have Hown := Lib.hid hown
      by_cases hlt : k < N
      · clear hown
        obtain ⟨p2, p13⟩ := rpF_all k (by omega)
        have hla := ruA_len xs k (by omega)
        have Hs1 : Hid (ruA xs (k + 1) = ruA xs k ++ ruK xs (rpF k) (rpF k)) := rfl
        obtain ⟨p, hp⟩ : ∃ p, rpF k = p := ⟨_, rfl⟩
        have Hp := Lib.hid hp
        rw [hp] at p2 p13 Hs1
        clear hp
        have Hown0 : Hid (OwnR wr w1.heap.size u6 (ruA xs k ++ ruK xs p 0)) := by
          show OwnR _ _ _ _
          rw [ruK, List.append_nil]
          exact Hown.out
        rename World => wq
        go_wp2_with (go_at_call 78; refine (rePrime_c k _ (by omega)).mono ?_; rw [Hp.out]; rintro e w' ⟨rfl, rfl⟩)
        go_loopw [6, 9] (fun v i wr => ∃ r : Nat, r ≤ p ∧ i = .int .i64 (r : Int) ∧ OwnR wr w1.heap.size v (ruA xs k ++ ruK xs p r) ∧ Below w1.heap.size w1 wr) (fun _ i _ => p - (intOf i).toNat)
        case atStart => exact ⟨0, Nat.zero_le _, rfl, Hown0.out, hbel⟩
        case round =>
          clear hbel Hown0 Hown
          obtain ⟨r, hr, rfl, hown, hbel⟩ := hrel
          have Hown := Lib.hid hown
          have Hlr := Lib.hid (ruK_len xs p r)
          clear hown
          have R2 := (hA_1).below hbel
          have hs := hbel.size
          by_cases hltr : r < p
          · have e1 : IntKind.i64.wrap (-(r : Int)) = -(r : Int) := IntWalk.i64_in _ (by omega)
            have hlen : (ruA xs k ++ ruK xs p r).length ≤ 1048576 := by rw [List.length_append]; have := Hlr.out; omega
            have Hlen := Lib.hid hlen
            obtain ⟨q, hq⟩ : ∃ q, restF (-(r : Int)) (p : Int) = q := ⟨_, rfl⟩
            have Hq := Lib.hid hq
            clear hlen
            cases hb : ruB xs p r with
            | true =>
              have Hy := Lib.hid (ruK_yes hb)
              have hb2 : hasF (rsA xs p) q = true := by rw [← hq]; exact hb
              clear hb hq
              go_wp2_with fail
              refine (reRests_c _ _ _ _ xs R2 Hm.out hn Hx.out p p2 p13).mono ?_
              rintro e w5 ⟨⟨v5, rfl, o5⟩, b5⟩
              obtain ⟨A5, c5, rfl⟩ := o5.shape
              have Hil := Lib.hid (Il_of_own o5)
              have hl5 := rsA_len xs p
              have hown5 := Lib.hid (OwnR.below Hown.out b5)
              have hs5 := b5.size
              clear o5
              go_wp2_with (go_at_call 80; refine (siRest_c _ _ _ (by omega) (by omega) (by omega) (by omega)).mono ?_; rw [Hq.out]; rintro e w' ⟨rfl, rfl⟩)
              refine (l1Has_c _ _ _ _ _ Hil.out rfl (by omega) _).mono ?_
              rw [hb2]
              rintro e w6 ⟨rfl, rfl⟩
              clear hb2
              go_wp2_with (at_builtin; refine wp_app_rule _ rfl _ _ rfl w1.heap.size _ _ rfl hown5.out _ _ rfl Hlen.out (by omega) ?_; intro v7 w7 o7 b7)
              go_roundw
              case rel => exact ⟨r + 1, by omega, by go_num, by rw [Hy.out, ← List.append_assoc]; exact o7, (hbel.trans (b5.mono hs)).trans b7⟩
              case measure => simp [intOf]; omega
            | false =>
              have Hy := Lib.hid (ruK_no hb)
              have hb2 : hasF (rsA xs p) q = false := by rw [← hq]; exact hb
              clear hb hq
              go_wp2_with fail
              refine (reRests_c _ _ _ _ xs R2 Hm.out hn Hx.out p p2 p13).mono ?_
              rintro e w5 ⟨⟨v5, rfl, o5⟩, b5⟩
              obtain ⟨A5, c5, rfl⟩ := o5.shape
              have Hil := Lib.hid (Il_of_own o5)
              have hl5 := rsA_len xs p
              have hown5 := Lib.hid (OwnR.below Hown.out b5)
              have hs5 := b5.size
              clear o5
              go_wp2_with (go_at_call 80; refine (siRest_c _ _ _ (by omega) (by omega) (by omega) (by omega)).mono ?_; rw [Hq.out]; rintro e w' ⟨rfl, rfl⟩)
              refine (l1Has_c _ _ _ _ _ Hil.out rfl (by omega) _).mono ?_
              rw [hb2]
              rintro e w6 ⟨rfl, rfl⟩
              clear hb2
              go_wp2
              go_roundw
              case rel => exact ⟨r + 1, by omega, by go_num, by rw [Hy.out]; exact hown5.out, hbel.trans (b5.mono hs)⟩
              case measure => simp [intOf]; omega
          · have Hy : Hid (ruA xs k ++ ruK xs p r = ruA xs (k + 1)) := by show _ = _; rw [Hs1.out, show r = p by omega]
            go_wp2
            go_roundw
            case rel => exact ⟨k + 1, by omega, by go_num, by rw [← Hy.out]; exact Hown.out, hbel⟩
            case measure => simp [intOf]; omega
      · have hkN : k = N := by omega
        subst hkN
        have hla := ruA_len xs k (by omega)
        obtain ⟨A3, c3, rfl⟩ := hown.shape
        have Ril := Rl_of_own hown rfl
        have hs := hbel.size
        clear hown
        cases hgl : goodL (ruA xs k) with
        | true =>
          have Ho : Hid (rpO xs (k : Int) = true) := by show _ = _; rw [rpO, hg, Int.toNat_natCast, hgl]; rfl
          have Hv : Hid (rpV xs (k : Int) = ruA xs k) := by show _ = _; rw [rpV_yes Ho.out, Int.toNat_natCast]
          have Hgl := Lib.hid hgl
          clear hgl
          go_wp2_with fail
          refine (good_c _ _ _ _ _ Ril rfl (by omega)).mono ?_
          rw [Hgl.out]
          rintro e w4 ⟨rfl, b4⟩
          go_wp2
          go_ret2
          rw [Ho.out, Hv.out]
          exact ⟨⟨_, rfl, OwnR.mono (OwnR.below Hown.out b4) (b1).size⟩, (b1).trans ((hbel.trans (b4.mono hs)).mono (b1).size)⟩
        | false =>
          have Ho : Hid (rpO xs (k : Int) = false) := by show _ = _; rw [rpO, Int.toNat_natCast, hgl, Bool.and_false]
          have Hv := Lib.hid (rpV_no Ho.out)
          have Hgl := Lib.hid hgl
          clear hgl
          go_wp2_with fail
          refine (good_c _ _ _ _ _ Ril rfl (by omega)).mono ?_
          rw [Hgl.out]
          rintro e w4 ⟨rfl, b4⟩
          go_wp2
          go_ret2
          rw [Ho.out, Hv.out]
          exact ⟨⟨_, rfl, OwnR.nil _ _⟩, (b1).trans ((hbel.trans (b4.mono hs)).mono (b1).size)⟩

end Go.Proofs.Ytgnmookklplnmaa
