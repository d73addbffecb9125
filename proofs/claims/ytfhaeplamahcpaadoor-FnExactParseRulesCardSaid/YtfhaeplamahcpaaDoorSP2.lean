import Derived.Test.YtfhaeplamahcpaaDoorSP1
import Derived.Test.YtfhaeplamahcpaaDoorP5
import Derived.Test.YtfhaeplamahcpaaDoorP7
namespace Go.Proofs.YtfhaeplamahcpaaDoor
open Go.RowKit
set_option linter.unusedVariables false
set_option linter.unusedSimpArgs false

/-- What is read when k places have been looked at, the end being one of them. -/
def scH (s : ByteArray) (k : Nat) : ScS := if k ≤ s.size then scG scI s k else scB (scG scI s s.size) 44
theorem scH_zero (s : ByteArray) : scH s 0 = scI := by rw [scH, if_pos (Nat.zero_le _)]; rfl
theorem scH_in {s : ByteArray} {k : Nat} (h : k < s.size) : scH s (k + 1) = scB (scH s k) (byP s k) := by
  rw [scH, if_pos (by omega), scH, if_pos (by omega)]; rfl
theorem scH_end (s : ByteArray) : scH s (s.size + 1) = scB (scH s s.size) 44 := by
  rw [scH, if_neg (by omega), scH, if_pos (Nat.le_refl _)]
theorem scH_last (s : ByteArray) : (scH s (s.size + 1)).1 = scL s := by rw [scH, if_neg (by omega), scL]
theorem scH_le {s : ByteArray} {k : Nat} (h : k ≤ s.size) : (scH s k).1.length ≤ k ∧ (scH s k).2.1 ≤ 1000 ∧ (scH s k).2.2 ≤ 1000 := by
  rw [scH, if_pos h]
  have h1 := scG_len scI s k
  exact ⟨by rw [show scI.1.length = 0 from rfl, Nat.zero_add] at h1; exact h1, scG_num_le s k⟩
theorem scB_comma (o : List (Int × Int)) (n e : Nat) : scB (o, n, e) 44 = (o ++ [((e : Int), (n : Int))], 0, 0) := by rw [scB, if_pos rfl]
theorem scB_colon (o : List (Int × Int)) (n e : Nat) : scB (o, n, e) 58 = (o, 0, n) := by rw [scB, if_neg (by decide), if_pos rfl]
theorem scB_digit (o : List (Int × Int)) (n e : Nat) {x : Nat} (h1 : 48 ≤ x) (h2 : x ≤ 57) : scB (o, n, e) x = (o, min 1000 (10 * n + (x - 48)), e) := by
  rw [scB, if_neg (by omega), if_neg (by omega), if_pos ⟨h1, h2⟩]
theorem scB_other (o : List (Int × Int)) (n e : Nat) {x : Nat} (h0 : x ≠ 44) (h1 : x ≠ 58) (h2 : ¬ (48 ≤ x ∧ x ≤ 57)) : scB (o, n, e) x = (o, n, e) := by
  rw [scB, if_neg h0, if_neg h1, if_neg h2]
theorem toL_inj {a b : ByteArray} (h : a.toList = b.toList) : a = b := by
  rw [ByteArray.toList_eq, ByteArray.toList_eq] at h
  cases a; cases b
  exact congrArg ByteArray.mk (Array.ext' h)
theorem txtEq (a b : ByteArray) : (a.toList == b.toList) = decide (a = b) := by
  by_cases h : a = b
  · subst h
    rw [decide_eq_true rfl]
    exact beq_iff_eq.2 rfl
  · rw [decide_eq_false h]
    exact beq_eq_false_iff_ne.2 fun e => h (toL_inj e)
theorem dash_list : (⟨#[45]⟩ : ByteArray).toList = [45] := ByteArray.toList_mk [45]
set_option maxRecDepth 100000 in
set_option maxHeartbeats 3000000 in
theorem siParse_c (w : World) (s : ByteArray) (hs : (s.size : Int) ≤ 1000000000) :
    Calls Tryd.prog 9 #[.string s] w fun en w' => (∃ v, en = .returned (.tuple #[v, .bool (prB s)]) ∧ OwnR w' w.heap.size v (rwL s)) ∧ Below w.heap.size w w' := by
  by_cases hd : s = ⟨#[45]⟩
  · rw [prB_dash hd, show rwL s = [] by rw [rwL, if_pos (Or.inl hd)]]
    have hd1 : (s.toList == [45]) = true := by rw [← dash_list, txtEq, decide_eq_true hd]
    clear hd
    go_enter Tryd.func9, Tryd.ntmps9
    go_wp2
    go_ret2
    exact ⟨⟨_, rfl, World.ownsRow_nil _ _ _ _⟩, Below.refl _ _⟩
  have hd1 : (s.toList == [45]) = false := by rw [← dash_list, txtEq, decide_eq_false hd]
  by_cases h72 : 72 < s.size
  · rw [prB_long h72, show rwL s = [] by rw [rwL, if_pos (Or.inr h72)]]
    have h72i : (72 : Int) < (s.size : Int) := by omega
    clear h72
    go_enter Tryd.func9, Tryd.ntmps9
    go_wp2
    go_ret2
    exact ⟨⟨_, rfl, World.ownsRow_nil _ _ _ _⟩, Below.refl _ _⟩
  have h72i : (s.size : Int) ≤ 72 := by omega
  rw [show rwL s = scL s by rw [rwL, if_neg (by intro e; rcases e with e | e; exact hd e; exact h72 e)]]
  have HB := Lib.hid (prB_read hd (by omega))
  obtain ⟨T, hT⟩ : ∃ T, prB s = T := ⟨_, rfl⟩
  rw [hT] at HB ⊢
  clear hT h72
  go_enter Tryd.func9, Tryd.ntmps9
  go_wp2
  go_loopw [4, 5, 6, 7] (fun v n e i wr => ∃ k : Nat, k ≤ s.size + 1 ∧ i = .int .i64 (k : Int) ∧ n = .int .i64 ((scH s k).2.1 : Int) ∧ e = .int .i64 ((scH s k).2.2 : Int) ∧ OwnR wr w.heap.size v (scH s k).1 ∧ Below w.heap.size w wr) (fun _ _ _ i _ => s.size + 1 - (intOf i).toNat)
  case atStart => exact ⟨0, Nat.zero_le _, rfl, by rw [scH_zero]; rfl, by rw [scH_zero]; rfl, by rw [scH_zero]; exact World.ownsRow_nil _ _ _ _, Below.refl _ _⟩
  case round =>
    obtain ⟨k, hk, rfl, rfl, rfl, hown, hbel⟩ := hrel
    have Hown := Lib.hid hown
    have Hbel := Lib.hid hbel
    have hs1 := hbel.size
    have hk0 : (0 : Int) ≤ (k : Int) := Int.natCast_nonneg k
    clear hown hbel
    by_cases hks : k ≤ s.size
    · have hki : (k : Int) ≤ (s.size : Int) := by omega
      have hw5 : IntKind.i64.wrap ((k : Int) + 1) = (k : Int) + 1 := IntWalk.i64_in _ (by omega)
      obtain ⟨hl1, hl2, hl3⟩ := scH_le hks
      by_cases hke : k = s.size
      · have HS := Lib.hid (scH_end s)
        rw [← hke] at HS
        have HK := Lib.hid hke
        have hkei : ((k : Int) == (s.size : Int)) = true := beq_iff_eq.2 (by omega)
        have hkei2 : (k == s.size) = true := beq_iff_eq.2 hke
        obtain ⟨st, hst⟩ : ∃ st, scH s k = st := ⟨_, rfl⟩
        rw [hst] at HS Hown hl1 hl2 hl3 ⊢
        obtain ⟨o, nn, ee⟩ := st
        rw [scB_comma] at HS
        have hlo : o.length ≤ 1000 := by have h : o.length ≤ k := hl1; omega
        have hown1 : OwnR wr w.heap.size _ o := Hown.out
        have Hown1 := Lib.hid hown1
        clear hst hke hl1 hl2 hl3 hown1
        go_wp2_with (at_builtin; refine wp_app_rule _ rfl _ _ rfl w.heap.size _ _ rfl Hown1.out _ _ rfl (by omega) hs1 ?_; intro v' w2 hown2 b2)
        go_roundw
        case rel => exact ⟨k + 1, by omega, by go_num, by rw [HS.out]; rfl, by rw [HS.out]; rfl, by rw [HS.out]; exact hown2, Hbel.out.trans b2⟩
        case measure => simp [intOf]; omega
      · have hlt : k < s.size := by omega
        have hki2 : (k : Int) < (s.size : Int) := by omega
        have hkei : ((k : Int) == (s.size : Int)) = false := beq_eq_false_iff_ne.2 (by omega)
        have hkei2 : (k == s.size) = false := beq_eq_false_iff_ne.2 hke
        have hby := byP_at hlt
        have HS := Lib.hid (scH_in hlt)
        have hx255 : byP s k < 256 := by rw [← hby]; exact (s[k]'hlt).toNat_lt
        obtain ⟨x, hx⟩ : ∃ x, byP s k = x := ⟨_, rfl⟩
        rw [hx] at hby HS hx255
        obtain ⟨st, hst⟩ : ∃ st, scH s k = st := ⟨_, rfl⟩
        rw [hst] at HS Hown hl1 hl2 hl3 ⊢
        obtain ⟨o, nn, ee⟩ := st
        have hlo : o.length ≤ 1000 := by have h : o.length ≤ k := hl1; omega
        have hnn : nn ≤ 1000 := hl2
        have hown1 : OwnR wr w.heap.size _ o := Hown.out
        have Hown1 := Lib.hid hown1
        clear hst hx hke hl1 hl2 hl3 hown1
        by_cases h44 : x = 44
        · subst h44
          rw [scB_comma] at HS
          go_wp2_with (at_builtin; refine wp_app_rule _ rfl _ _ rfl w.heap.size _ _ rfl Hown1.out _ _ rfl (by omega) hs1 ?_; intro v' w2 hown2 b2)
          go_roundw
          case rel => exact ⟨k + 1, by omega, by go_num, by rw [HS.out]; rfl, by rw [HS.out]; rfl, by rw [HS.out]; exact hown2, Hbel.out.trans b2⟩
          case measure => simp [intOf]; omega
        by_cases h58 : x = 58
        · subst h58
          rw [scB_colon] at HS
          clear h44
          go_wp2
          go_roundw
          case rel => exact ⟨k + 1, by omega, by go_num, by rw [HS.out]; rfl, by rw [HS.out], by rw [HS.out]; exact Hown1.out, Hbel.out⟩
          case measure => simp [intOf]; omega
        have hx44 : ((x : Int) == 44) = false := beq_eq_false_iff_ne.2 (by omega)
        have hx58 : ((x : Int) == 58) = false := beq_eq_false_iff_ne.2 (by omega)
        by_cases hdg : 48 ≤ x ∧ x ≤ 57
        · obtain ⟨g1, g2⟩ := hdg
          rw [scB_digit o nn ee g1 g2] at HS
          have g1i : (48 : Int) ≤ (x : Int) := by omega
          have g2i : (x : Int) ≤ 57 := by omega
          have hw1 : IntKind.i64.wrap (10 * (nn : Int)) = 10 * (nn : Int) := IntWalk.i64_in _ (by omega)
          have hw2 : IntKind.u8.wrap ((x : Int) - 48) = (x : Int) - 48 := IntWalk.u8_in _ (by omega)
          have hw3 : IntKind.i64.wrap ((x : Int) - 48) = (x : Int) - 48 := IntWalk.i64_in _ (by omega)
          have hw4 : IntKind.i64.wrap (10 * (nn : Int) + ((x : Int) - 48)) = 10 * (nn : Int) + ((x : Int) - 48) := IntWalk.i64_in _ (by omega)
          have HM : Hid (min (1000 : Int) (10 * (nn : Int) + ((x : Int) - 48)) = ((min 1000 (10 * nn + (x - 48)) : Nat) : Int)) := by show _ = _; omega
          clear h44 h58
          go_wp2_with fail
          refine (l1Least_c _ _ _).mono ?_
          rw [HM.out]
          rintro e w2 ⟨rfl, rfl⟩
          go_wp2
          go_roundw
          case rel => exact ⟨k + 1, by omega, by go_num, by rw [HS.out], by rw [HS.out], by rw [HS.out]; exact Hown1.out, Hbel.out⟩
          case measure => simp [intOf]; omega
        · rw [scB_other o nn ee h44 h58 hdg] at HS
          clear h44 h58
          by_cases g1 : 48 ≤ x
          · have g1i : (48 : Int) ≤ (x : Int) := by omega
            have g2i : (57 : Int) < (x : Int) := by omega
            clear hdg
            go_wp2
            go_roundw
            case rel => exact ⟨k + 1, by omega, by go_num, by rw [HS.out], by rw [HS.out], by rw [HS.out]; exact Hown1.out, Hbel.out⟩
            case measure => simp [intOf]; omega
          · have g1i : (x : Int) < 48 := by omega
            clear hdg
            go_wp2
            go_roundw
            case rel => exact ⟨k + 1, by omega, by go_num, by rw [HS.out], by rw [HS.out], by rw [HS.out]; exact Hown1.out, Hbel.out⟩
            case measure => simp [intOf]; omega
    · obtain rfl : k = s.size + 1 := by omega
      have hki : ((s.size : Int)) < (s.size : Int) + 1 := by omega
      have hown1 := Hown.out
      rw [scH_last] at hown1
      have hll : (scL s).length ≤ 1000 := by
        have h := (scH_le (s := s) (Nat.le_refl s.size)).1
        have e : scL s = (scH s s.size).1 ++ [(((scH s s.size).2.2 : Int), ((scH s s.size).2.1 : Int))] := by rw [← scH_last, scH_end]; exact congrArg Prod.fst (scB_comma _ _ _)
        rw [e, List.length_append]
        show _ + 1 ≤ _
        omega
      obtain ⟨A, c, rfl⟩ := OwnR.shape hown1
      have hR := Rl_of_own hown1 rfl
      have Hown1 := Lib.hid hown1
      obtain ⟨L, hL⟩ : ∃ L, scL s = L := ⟨_, rfl⟩
      rw [hL] at HB Hown1 hR hll ⊢
      obtain ⟨m, hm⟩ : ∃ m, L.length = m := ⟨_, rfl⟩
      have Hgd := Lib.hid (good_c A m c L wr hR hm.symm (by omega))
      have Htx := Lib.hid (fun (w2 : World) (b2 : Below wr.heap.size wr w2) (h : goodL L = true) => siText_c w2 A m c L (hR.below b2) hm.symm h)
      rw [hm] at hll ⊢
      have Hm := Lib.hid hm
      have HL := Lib.hid hL
      have HR := Lib.hid hR
      clear hown1 hR hL hm
      cases hg : goodL L with
      | false =>
        rw [hg] at Hgd HB
        have HT : Hid (T = false) := HB.out
        clear hg
        go_wp2_with fail
        refine (Hgd.out).mono ?_
        rintro e w2 ⟨rfl, b2⟩
        go_wp2
        go_ret2
        exact ⟨⟨.slice A m c, by rw [HT.out]; rfl, by have h := OwnR.below Hown1.out b2; rw [Hm.out] at h; rw [HL.out]; exact h⟩, Hbel.out.trans (b2.mono hs1)⟩
      | true =>
        have Htx2 := Lib.hid (fun w2 b2 => Htx.out w2 b2 hg)
        rw [hg] at Hgd HB
        clear hg Htx
        obtain ⟨t, ht⟩ : ∃ t, textF L = t := ⟨_, rfl⟩
        rw [ht] at HB Htx2
        clear ht
        by_cases hts : t = s
        · have HT : Hid (T = true) := by show _ = _; rw [HB.out, decide_eq_true hts]; rfl
          have htb : (t.toList == s.toList) = true := by rw [txtEq, decide_eq_true hts]
          clear hts
          go_wp2_with fail
          refine (Hgd.out).mono ?_
          rintro e w2 ⟨rfl, b2⟩
          go_wp2_with fail
          refine (Htx2.out _ b2).mono ?_
          rintro e w3 ⟨rfl, b3⟩
          go_wp2
          go_ret2
          exact ⟨⟨.slice A m c, by rw [HT.out]; rfl, by have h := OwnR.below (OwnR.below Hown1.out b2) b3; rw [Hm.out] at h; rw [HL.out]; exact h⟩, (Hbel.out.trans (b2.mono hs1)).trans (b3.mono (Nat.le_trans hs1 b2.size))⟩
        · have HT : Hid (T = false) := by show _ = _; rw [HB.out, decide_eq_false hts]; rfl
          have htb : (t.toList == s.toList) = false := by rw [txtEq, decide_eq_false hts]
          clear hts
          go_wp2_with fail
          refine (Hgd.out).mono ?_
          rintro e w2 ⟨rfl, b2⟩
          go_wp2_with fail
          refine (Htx2.out _ b2).mono ?_
          rintro e w3 ⟨rfl, b3⟩
          go_wp2
          go_ret2
          exact ⟨⟨.slice A m c, by rw [HT.out]; rfl, by have h := OwnR.below (OwnR.below Hown1.out b2) b3; rw [Hm.out] at h; rw [HL.out]; exact h⟩, (Hbel.out.trans (b2.mono hs1)).trans (b3.mono (Nat.le_trans hs1 b2.size))⟩
set_option maxRecDepth 100000 in
set_option maxHeartbeats 800000 in
theorem spec_ParseRules_c (w : World) (s : ByteArray) (hs : (s.size : Int) ≤ 1000000000) :
    Calls Tryd.prog 4 #[.string s] w fun en w' => (∃ v, en = .returned (.tuple #[v, .bool (prB s)]) ∧ OwnR w' w.heap.size v (prL s)) ∧ Below w.heap.size w w' := by
  have Hp := Lib.hid (siParse_c w s hs)
  have HL := Lib.hid (prL_eq s)
  cases hb : prB s with
  | false =>
    rw [hb] at Hp HL
    have HL2 : Hid (prL s = []) := HL.out
    clear hb HL
    go_enter Tryd.func4, Tryd.ntmps4
    go_wp2_with fail
    refine Hp.out.mono ?_
    rintro e w2 ⟨⟨v, rfl, o2⟩, b2⟩
    go_wp2
    go_ret2
    exact ⟨⟨_, rfl, by rw [HL2.out]; exact World.ownsRow_nil _ _ _ _⟩, b2⟩
  | true =>
    rw [hb] at Hp HL
    have HL2 : Hid (prL s = rwL s) := HL.out
    clear hb HL
    go_enter Tryd.func4, Tryd.ntmps4
    go_wp2_with fail
    refine Hp.out.mono ?_
    rintro e w2 ⟨⟨v, rfl, o2⟩, b2⟩
    go_wp2
    go_ret2
    exact ⟨⟨v, rfl, by rw [HL2.out]; exact o2⟩, b2⟩
end Go.Proofs.YtfhaeplamahcpaaDoor
