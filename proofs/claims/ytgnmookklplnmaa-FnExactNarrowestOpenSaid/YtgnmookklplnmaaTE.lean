import Derived.Test.YtgnmookklplnmaaTD
namespace Go.Proofs.Ytgnmookklplnmaa
open Go.RowKit
set_option linter.unusedVariables false
set_option linter.unusedSimpArgs false

set_option maxRecDepth 100000 in
set_option maxHeartbeats 3200000 in
theorem reLook_s (W o l : Nat) (hW : W ≤ 30) (hl5 : l ≤ 4) (IH : LookOk W o l) : LookOk W o (l + 1) := by
  intro L hL w b off m c bs v ps T hb hat hm hm1 hm6 hx hbo hvb ho hO hT hTl
  have hL1 : L = (l : Int) + 1 := by omega
  have HL1 := Lib.hid hL1
  have hLlo : 1 ≤ L := by omega
  have hLhi : L ≤ 5 := by omega
  clear hL
  have Hm := Lib.hid hm
  have hl := hat (m - 1) (by omega)
  have hlast : ivL bs (bs.length - 1) = ivL bs (m - 1) := by rw [hm]
  obtain ⟨M, rfl⟩ : ∃ M, m = M + 1 := ⟨m - 1, by omega⟩
  rw [Nat.add_sub_cancel] at hl hlast
  have hx0 := hx M (by omega)
  obtain ⟨X, hX⟩ : ∃ X : Nat, ivL bs M = (X : Int) := Int.eq_ofNat_of_zero_le hx0.1
  rw [hX] at hl hlast hx0
  have Ho := Lib.hid ho
  have HO := Lib.hid hO
  have Hat := Lib.hid hat
  have Hx := Lib.hid hx
  have HT0 : Hid (ps ++ lkX (lkN W l) bs (W + 1 - l - lkS W l bs) (lkS W l bs) = T) := by show _ = _; rw [← hT, lkN]
  have hL0 : (L == 0) = false := beq_eq_false_iff_ne.2 (by omega)
  clear hL1
  have HS : Hid (lkS W l bs = if l = 0 then max (X + 1) W else X + 1) := by show _ = _; rw [lkS, hlast, Int.toNat_natCast]
  obtain ⟨S, hS⟩ : ∃ S, lkS W l bs = S := ⟨_, rfl⟩
  have HSe := Lib.hid hS
  have HT : Hid (ps ++ lkX (lkN W l) bs (W + 1 - l - S) S = T) := by show _ = _; rw [← hS]; exact HT0.out
  clear hm hx hT hlast hX hat hO ho hS HT0
  by_cases hl0 : l = 0
  · have hLb : (L == 1) = true := beq_iff_eq.2 (by have := HL1.out; omega)
    have hSv : S = max (X + 1) W := by rw [← HSe.out, HS.out, if_pos hl0]
    have HSi : Hid ((S : Int) = max ((X : Int) + 1) (W : Int)) := by show _ = _; rw [hSv]; omega
    have hS9 : S ≤ 100 := by omega
    clear hSv
    go_enter Try.func108, Try.ntmps108
    go_wp2_with fail
    refine (l1Most_c _ _ _).mono ?_
    rintro e w1 ⟨rfl, rfl⟩
    go_wp2_with fail
    go_loopw [9] (fun xv wr => ∃ (x : Nat) (vr : Value) (pr : List (List Int)), xv = .int .i64 (x : Int) ∧ x ≤ 100 ∧ wr.heap[o]? = some (.cells #[vr] 38 (0, 0)) ∧ OwnLL wr (o + 1) vr pr ∧ Hid (pr ++ lkX (lkN W l) bs (W + 1 - l - x) x = T) ∧ Kept2 w wr o v vr) (fun xv _ => W + 2 - (intOf xv).toNat)
    case atStart => exact ⟨S, v, ps, by rw [HSi.out], hS9, Ho.out, HO.out, HT, Kept2.of_below (Below.refl _ _)⟩
    case round =>
      obtain ⟨x, vr, pr, rfl, hx9, hor, hOr, HTr, hK⟩ := hrel
      have Hor := Lib.hid hor
      have HOr := Lib.hid hOr
      have HK := Lib.hid hK
      have hsz := hK.size
      have hor9 : o < wr.heap.size := (Array.getElem?_eq_some_iff.1 hor).1
      have Hatr := Lib.hid (hK.at Hat.out hb hbo hvb)
      have hbr : b < wr.heap.size := Nat.lt_of_lt_of_le hb hsz
      clear hor hOr hK
      by_cases hle : x + l ≤ W
      · have hle' : (x : Int) + L - 1 ≤ (W : Int) := by have := HL1.out; omega
        have Hun : Hid (lkX (lkN W l) bs (W + 1 - l - x) x = (if clX (bs ++ [(x : Int)]) 0 = 0 then lkN W l (bs ++ [(x : Int)]) else []) ++ lkX (lkN W l) bs (W + 1 - l - (x + 1)) (x + 1)) := by
          show _ = _
          rw [show W + 1 - l - x = (W + 1 - l - (x + 1)) + 1 by omega, lkX]
        obtain ⟨Ys, hYs⟩ : ∃ Ys, bs ++ [(x : Int)] = Ys := ⟨_, rfl⟩
        have HYs := Lib.hid hYs
        have HYl : Hid (Ys.length = M + 1 + 1) := by show _ = _; rw [← hYs, List.length_append, List.length_singleton, Hm.out]
        have HYx : Hid (∀ k, k < Ys.length → 0 ≤ ivL Ys k ∧ ivL Ys k ≤ 60) := fun k hk => by
          rw [← hYs] at hk ⊢
          rw [List.length_append, List.length_singleton] at hk
          by_cases hkl : k < bs.length
          · have := Hx.out k hkl
            rwa [show ivL (bs ++ [(x : Int)]) k = ivL bs k by simp [ivL, List.getElem?_append, hkl]]
          · rw [show ivL (bs ++ [(x : Int)]) k = (x : Int) by simp [ivL, List.getElem?_append, hkl, show k - bs.length = 0 by omega]]
            omega
        have Hbl := Lib.hid (show bs.length ≤ 1048576 by have := Hm.out; omega)
        clear hYs
        go_wp2_with fail
        refine (l1Own_c _ b off c (M + 1) bs hbr Hatr.out Hm.out (by omega)).mono ?_
        rintro e w5 ⟨⟨v5, rfl, o5⟩, b5⟩
        have hs5 := b5.size
        go_wp2_with (at_builtin; refine wp_app_int _ rfl _ _ rfl wr.heap.size _ bs rfl o5 _ rfl Hbl.out hs5 ?_; intro v6 w6 o6 b6)
        rw [HYs.out] at o6
        have h6 := b5.trans b6
        rcases o6.form with ⟨_, e0⟩ | ⟨g, c6, rfl, hg1, hg2, hg3⟩
        · have := HYl.out; rw [e0] at this; simp at this
        have O6 := Lib.hid o6
        have Il6 := Il_of_own o6
        have Y9 := Lib.hid (show ∀ k, k < Ys.length → 0 ≤ ivL Ys k ∧ ivL Ys k ≤ 1000000 from fun k hk => by have := HYx.out k hk; omega)
        obtain ⟨Z, hZ⟩ : ∃ Z, clX Ys 0 = Z := ⟨_, rfl⟩
        have HZ := Lib.hid hZ
        have Hcl := Lib.hid (reClosing_c w6 (some ⟨g, 0, none⟩) Ys.length c6 Ys Il6 rfl (by have := HYl.out; omega) Y9.out)
        clear o6 o5 hZ Il6
        rw [HZ.out] at Hcl
        refine Hcl.out.mono ?_
        rintro e w7 ⟨rfl, b7⟩
        have h7 := h6.trans (b7.mono h6.size)
        have K7 := Lib.hid (HK.out.trans (Kept2.of_below h7))
        have Ho7 := Lib.hid ((h7.block o hor9).trans Hor.out)
        have HO7 := Lib.hid (HOr.out.below h7)
        by_cases hz : Z = 0
        · have hzb : ((Z : Int) == 0) = true := by rw [hz]; rfl
          have HT7 : Hid ((pr ++ lkN W l Ys) ++ lkX (lkN W l) bs (W + 1 - l - (x + 1)) (x + 1) = T) := by
            show _ = _
            rw [← HTr.out, Hun.out, HYs.out, if_pos (by rw [HZ.out, hz]), List.append_assoc]
          have Hlk := Lib.hid (IH (L - 1) (by have := HL1.out; omega) w7 g 0 Ys.length c6 Ys vr pr (pr ++ lkN W l Ys) (Nat.lt_of_lt_of_le hg2 b7.size) (IsAt_of_own (O6.out.below b7)) rfl (by have := HYl.out; omega) (by have := HYl.out; omega) HYx.out (by omega)
            (fun e => by have := (HOr.out.lt g e).2; omega) Ho7.out HO7.out rfl (by have h := congrArg List.length HT7.out; rw [List.length_append] at h; omega))
          clear hz
          go_wp2_with fail
          refine Hlk.out.mono ?_
          rintro e w8 ⟨rfl, v8, ho8, hO8, hK8⟩
          go_wp2
          go_roundw
          case rel => exact ⟨x + 1, v8, _, by go_num, by omega, ho8, hO8, HT7, K7.out.trans hK8⟩
          case measure => simp [intOf]; omega
        · have hzb : ((Z : Int) == 0) = false := beq_eq_false_iff_ne.2 (by omega)
          have HT7 : Hid (pr ++ lkX (lkN W l) bs (W + 1 - l - (x + 1)) (x + 1) = T) := by
            show _ = _
            rw [← HTr.out, Hun.out, HYs.out, if_neg (by rw [HZ.out]; exact hz), List.nil_append]
          clear hz
          go_wp2
          go_roundw
          case rel => exact ⟨x + 1, vr, pr, by go_num, by omega, Ho7.out, HO7.out, HT7, K7.out⟩
          case measure => simp [intOf]; omega
      · have hle' : (W : Int) < (x : Int) + L - 1 := by have := HL1.out; omega
        have HT7 : Hid (pr = T) := by
          show _ = _
          rw [← HTr.out, show W + 1 - l - x = 0 by omega, lkX, List.append_nil]
        go_wp2
        try simp only [Exit.inBlock, Exit.then]
        refine bodyPost_end (results_none rfl _ _ _) rfl ?_
        exact ⟨rfl, vr, Hor.out, by rw [← HT7.out]; exact HOr.out, HK.out⟩
  · have hLb : (L == 1) = false := beq_eq_false_iff_ne.2 (by have := HL1.out; omega)
    have hSv : S = X + 1 := by rw [← HSe.out, HS.out, if_neg hl0]
    have HSi : Hid ((S : Int) = (X : Int) + 1) := by show _ = _; rw [hSv]; omega
    have hS9 : S ≤ 100 := by omega
    clear hSv
    go_enter Try.func108, Try.ntmps108
    go_wp2_with fail
    go_loopw [9] (fun xv wr => ∃ (x : Nat) (vr : Value) (pr : List (List Int)), xv = .int .i64 (x : Int) ∧ x ≤ 100 ∧ wr.heap[o]? = some (.cells #[vr] 38 (0, 0)) ∧ OwnLL wr (o + 1) vr pr ∧ Hid (pr ++ lkX (lkN W l) bs (W + 1 - l - x) x = T) ∧ Kept2 w wr o v vr) (fun xv _ => W + 2 - (intOf xv).toNat)
    case atStart => exact ⟨S, v, ps, by rw [HSi.out], hS9, Ho.out, HO.out, HT, Kept2.of_below (Below.refl _ _)⟩
    case round =>
      obtain ⟨x, vr, pr, rfl, hx9, hor, hOr, HTr, hK⟩ := hrel
      have Hor := Lib.hid hor
      have HOr := Lib.hid hOr
      have HK := Lib.hid hK
      have hsz := hK.size
      have hor9 : o < wr.heap.size := (Array.getElem?_eq_some_iff.1 hor).1
      have Hatr := Lib.hid (hK.at Hat.out hb hbo hvb)
      have hbr : b < wr.heap.size := Nat.lt_of_lt_of_le hb hsz
      clear hor hOr hK
      by_cases hle : x + l ≤ W
      · have hle' : (x : Int) + L - 1 ≤ (W : Int) := by have := HL1.out; omega
        have Hun : Hid (lkX (lkN W l) bs (W + 1 - l - x) x = (if clX (bs ++ [(x : Int)]) 0 = 0 then lkN W l (bs ++ [(x : Int)]) else []) ++ lkX (lkN W l) bs (W + 1 - l - (x + 1)) (x + 1)) := by
          show _ = _
          rw [show W + 1 - l - x = (W + 1 - l - (x + 1)) + 1 by omega, lkX]
        obtain ⟨Ys, hYs⟩ : ∃ Ys, bs ++ [(x : Int)] = Ys := ⟨_, rfl⟩
        have HYs := Lib.hid hYs
        have HYl : Hid (Ys.length = M + 1 + 1) := by show _ = _; rw [← hYs, List.length_append, List.length_singleton, Hm.out]
        have HYx : Hid (∀ k, k < Ys.length → 0 ≤ ivL Ys k ∧ ivL Ys k ≤ 60) := fun k hk => by
          rw [← hYs] at hk ⊢
          rw [List.length_append, List.length_singleton] at hk
          by_cases hkl : k < bs.length
          · have := Hx.out k hkl
            rwa [show ivL (bs ++ [(x : Int)]) k = ivL bs k by simp [ivL, List.getElem?_append, hkl]]
          · rw [show ivL (bs ++ [(x : Int)]) k = (x : Int) by simp [ivL, List.getElem?_append, hkl, show k - bs.length = 0 by omega]]
            omega
        have Hbl := Lib.hid (show bs.length ≤ 1048576 by have := Hm.out; omega)
        clear hYs
        go_wp2_with fail
        refine (l1Own_c _ b off c (M + 1) bs hbr Hatr.out Hm.out (by omega)).mono ?_
        rintro e w5 ⟨⟨v5, rfl, o5⟩, b5⟩
        have hs5 := b5.size
        go_wp2_with (at_builtin; refine wp_app_int _ rfl _ _ rfl wr.heap.size _ bs rfl o5 _ rfl Hbl.out hs5 ?_; intro v6 w6 o6 b6)
        rw [HYs.out] at o6
        have h6 := b5.trans b6
        rcases o6.form with ⟨_, e0⟩ | ⟨g, c6, rfl, hg1, hg2, hg3⟩
        · have := HYl.out; rw [e0] at this; simp at this
        have O6 := Lib.hid o6
        have Il6 := Il_of_own o6
        have Y9 := Lib.hid (show ∀ k, k < Ys.length → 0 ≤ ivL Ys k ∧ ivL Ys k ≤ 1000000 from fun k hk => by have := HYx.out k hk; omega)
        obtain ⟨Z, hZ⟩ : ∃ Z, clX Ys 0 = Z := ⟨_, rfl⟩
        have HZ := Lib.hid hZ
        have Hcl := Lib.hid (reClosing_c w6 (some ⟨g, 0, none⟩) Ys.length c6 Ys Il6 rfl (by have := HYl.out; omega) Y9.out)
        clear o6 o5 hZ Il6
        rw [HZ.out] at Hcl
        refine Hcl.out.mono ?_
        rintro e w7 ⟨rfl, b7⟩
        have h7 := h6.trans (b7.mono h6.size)
        have K7 := Lib.hid (HK.out.trans (Kept2.of_below h7))
        have Ho7 := Lib.hid ((h7.block o hor9).trans Hor.out)
        have HO7 := Lib.hid (HOr.out.below h7)
        by_cases hz : Z = 0
        · have hzb : ((Z : Int) == 0) = true := by rw [hz]; rfl
          have HT7 : Hid ((pr ++ lkN W l Ys) ++ lkX (lkN W l) bs (W + 1 - l - (x + 1)) (x + 1) = T) := by
            show _ = _
            rw [← HTr.out, Hun.out, HYs.out, if_pos (by rw [HZ.out, hz]), List.append_assoc]
          have Hlk := Lib.hid (IH (L - 1) (by have := HL1.out; omega) w7 g 0 Ys.length c6 Ys vr pr (pr ++ lkN W l Ys) (Nat.lt_of_lt_of_le hg2 b7.size) (IsAt_of_own (O6.out.below b7)) rfl (by have := HYl.out; omega) (by have := HYl.out; omega) HYx.out (by omega)
            (fun e => by have := (HOr.out.lt g e).2; omega) Ho7.out HO7.out rfl (by have h := congrArg List.length HT7.out; rw [List.length_append] at h; omega))
          clear hz
          go_wp2_with fail
          refine Hlk.out.mono ?_
          rintro e w8 ⟨rfl, v8, ho8, hO8, hK8⟩
          go_wp2
          go_roundw
          case rel => exact ⟨x + 1, v8, _, by go_num, by omega, ho8, hO8, HT7, K7.out.trans hK8⟩
          case measure => simp [intOf]; omega
        · have hzb : ((Z : Int) == 0) = false := beq_eq_false_iff_ne.2 (by omega)
          have HT7 : Hid (pr ++ lkX (lkN W l) bs (W + 1 - l - (x + 1)) (x + 1) = T) := by
            show _ = _
            rw [← HTr.out, Hun.out, HYs.out, if_neg (by rw [HZ.out]; exact hz), List.nil_append]
          clear hz
          go_wp2
          go_roundw
          case rel => exact ⟨x + 1, vr, pr, by go_num, by omega, Ho7.out, HO7.out, HT7, K7.out⟩
          case measure => simp [intOf]; omega
      · have hle' : (W : Int) < (x : Int) + L - 1 := by have := HL1.out; omega
        have HT7 : Hid (pr = T) := by
          show _ = _
          rw [← HTr.out, show W + 1 - l - x = 0 by omega, lkX, List.append_nil]
        go_wp2
        try simp only [Exit.inBlock, Exit.then]
        refine bodyPost_end (results_none rfl _ _ _) rfl ?_
        exact ⟨rfl, vr, Hor.out, by rw [← HT7.out]; exact HOr.out, HK.out⟩

end Go.Proofs.Ytgnmookklplnmaa
